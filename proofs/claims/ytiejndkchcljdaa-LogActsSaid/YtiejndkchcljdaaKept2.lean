/- Contract: the kit's KeptBytes, where nothing was written: true. -/
import Derived.Test.YtiejndkchcljdaaProg
import Derived.Test.YtiejndkchcljdaaKit2
import Derived.BigRegion
import Derived.BigQuiet
import Derived.Deep.QuietTactic
namespace Go.Proofs.Ytiejndkchcljdaa
open Go.RowKit

set_option maxHeartbeats 4000000 in
set_option maxRecDepth 20000 in
theorem keptBytes_calls (B n c B' c' : Nat) (A A' : Option Addr) (bs : List UInt8) (w : World) (ha : SB w B A (n + 4) (bs ++ [201, 202, 203, 204])) (hb : SB w B' A' n bs) (hn : n ≤ 549755813888) (hc : n + 4 ≤ c) :
    Calls Try.prog 19 #[.slice A n c, .slice A' n c'] w fun e w' => e = .returned (.bool true) ∧ Below w.heap.size w w' := by
  obtain ⟨b, off, rfl, hlt, _⟩ := ha.2 (by omega)
  have ha1 : SB w B (some ⟨b, off, none⟩) n bs := by
    have h := ha.take n (by omega)
    have hl := hb.1
    rw [List.take_append_of_le_length (by omega), List.take_of_length_le (by omega)] at h
    exact h
  have ha2 : SB w B (some ⟨b, off + n, none⟩) 4 [201, 202, 203, 204] := by
    have h := ha.drop (k := n) (c := n + 5) (by omega) (by omega)
    have hl := hb.1
    rw [if_neg (by omega), List.drop_append_of_le_length (by omega), List.drop_of_length_le (by omega), Nat.add_sub_cancel_left] at h
    simpa [Addr.add_lit] using h
  have k1 := fun (W : World) (h : Below w.heap.size w W) => run_str (P := Try.prog) (ha1.keep h) c 34 9 5 Try.underlying34 Try.underlying5 Try.underlying9
  have k2 := fun (W : World) (h : Below w.heap.size w W) => run_str (P := Try.prog) (hb.keep h) c' 34 9 5 Try.underlying34 Try.underlying5 Try.underlying9
  have k3 := fun (W : World) (h : Below w.heap.size w W) => run_str (P := Try.prog) (ha2.keep h) (c - n) 34 9 5 Try.underlying34 Try.underlying5 Try.underlying9
  have b1 : Below w.heap.size w w.drew := (Below.refl _ _).drew
  have b2 : Below w.heap.size w (w.alloc (.cells #[.int .u8 201, .int .u8 202, .int .u8 203, .int .u8 204] 5)).drew := (below_new w _).drew
  have ho := (Own.lit w 5 w.heap.size [201, 202, 203, 204] #[.int .u8 201, .int .u8 202, .int .u8 203, .int .u8 204] 4 rfl rfl (Nat.le_refl _) (by omega))
  obtain ⟨A3, c3, e3, _, hs3', _⟩ := ho.sb
  have hs3 := hs3'.drew
  clear hs3'
  injection e3 with e3 _ e4
  subst e3 e4
  have k4 := run_str (P := Try.prog) hs3 4 34 9 5 Try.underlying34 Try.underlying5 Try.underlying9
  have k11 := k1 _ b1
  have k12 := k1 _ b2
  have k21 := k2 _ b1
  have k22 := k2 _ b2
  have k31 := k3 _ b1
  have k32 := k3 _ b2
  have hcn : ¬ c = n := by omega
  have w4 : IntKind.i64.wrap ((n : Int) + 4) = (n : Int) + 4 := IntWalk.i64_in _ (by omega)
  have hle : (n : Int) + 4 ≤ (c : Int) := by omega
  have hd : decide ((n : Int) + 4 ≤ (c : Int)) = true := by simpa using hle
  have hn0 : (n : Int) ≤ (n : Int) + 4 := by omega
  have ht4 : ((n : Int) + 4).toNat = n + 4 := by omega
  have hs4 : n + 4 - n = 4 := by omega
  have hgood := hid b2
  clear k1 k2 k3 hs3 ho b1 b2 ha ha1 ha2 hb
  go_enter Try.func19, Try.ntmps19
  go_wp2_with fail
  go_region
  all_goals
    go_wp2
    go_ret
    exact ⟨rfl, hgood.out⟩
end Go.Proofs.Ytiejndkchcljdaa
