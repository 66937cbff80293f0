/- Contracts: the kit's LentBytes, OverBytes, in the fourth stage. -/
import Derived.Test.YtcpkjpeimnaimaaWrOwnW
import Derived.Test.YtcpkjpeimnaimaaProg
import Derived.BigRegion
import Derived.BigQuiet
import Derived.Deep.QuietTactic
namespace Go.Proofs.Ytcpkjpeimnaimaa
open Go.RowKit
def bxor (a b : UInt8) : UInt8 := a ^^^ b
theorem n_bxor (a b : UInt8) : bits .xor .u8 (a.toNat : Int) (b.toNat : Int) = ((bxor a b).toNat : Int) := by
  rw [u8_xor_nat _ _ a.toNat_lt b.toNat_lt, bxor, UInt8.toNat_xor]
theorem n_bx_lt (b : UInt8) : (b.toNat : Int) < 256 := by have := b.toNat_lt; omega
theorem n_bx_le (b : UInt8) : 0 ≤ (b.toNat : Int) := by omega
theorem info5 : (Try.prog.info? 5).map (fun i => (i.zero, i.size, i.bytes)) = some (some (.int .u8 0), 1, 1) := by kernel_rfl

theorem lentBytes_calls (B n c : Nat) (A : Option Addr) (bs : List UInt8) (w : World) (hs : SB w B A n bs) (hn : n ≤ 549755813888) :
    Calls Try.prog 16 #[.slice A n c] w
      fun e w' => ∃ A' c', e = .returned (.slice A' n c') ∧ n + 4 ≤ c' ∧ SB w' w'.heap.size A' (n + 4) (bs ++ [201, 202, 203, 204]) ∧ Below w.heap.size w w' := by
  go_enter Try.func16, Try.ntmps16
  go_wp2_with (at_builtin; refine Held.go ?_)
  have ho := Own.lit w 5 w.heap.size [] #[] 0 rfl rfl (Nat.le_refl _) (by omega)
  have hb := below_new w (.cells #[] 5)
  generalize w.alloc (.cells #[] 5) = w1 at ho hb ⊢
  refine wpList_append_bytes _ rfl _ _ _ rfl _ Try.underlying31 info5 w.heap.size _ 0 [] rfl ho B A n c bs rfl (hs.keep hb) (by omega) hb.size ?_
  intro v2 w2 h1 h2 h3
  have hb2 := hb.trans (below_of_grown h2 hb.size (fun g e => (ho.block g e).1))
  clear h2 h3 ho hb
  rw [Nat.zero_add, List.nil_append] at h1
  go_wp2_with (at_builtin; refine Held.go ?_)
  have ho3 := Own.lit w2 5 w2.heap.size [201, 202, 203, 204] #[.int .u8 201, .int .u8 202, .int .u8 203, .int .u8 204] 4 rfl rfl (Nat.le_refl _) (by omega)
  have hb3 := below_new w2 (.cells #[.int .u8 201, .int .u8 202, .int .u8 203, .int .u8 204] 5)
  generalize w2.alloc (.cells #[.int .u8 201, .int .u8 202, .int .u8 203, .int .u8 204] 5) = w3 at ho3 hb3 ⊢
  obtain ⟨A3, c3, e3, _, hs3, _⟩ := ho3.sb
  rw [e3]
  have h1' := h1.keep hb3
  refine wpList_append_bytes _ rfl _ _ _ rfl _ Try.underlying31 info5 w.heap.size _ n bs rfl h1' _ A3 4 c3 [201, 202, 203, 204] rfl hs3 (by omega) (Nat.le_trans hb2.size hb3.size) ?_
  intro v4 w4 h4 g4 t4
  have hb4 := (hb2.trans (hb3.mono hb2.size)).trans (below_of_grown g4 (Nat.le_trans hb2.size hb3.size) (fun g e => (h1'.block g e).1))
  obtain ⟨A4, c4, rfl, hc4, hs4, _⟩ := h4.sb
  clear h1 h1' ho3 hb3 e3 hs3 g4 t4 h4 hb2
  go_wp2_with fail
  go_ret
  exact ⟨A4, c4, rfl, hc4, hs4, hb4⟩

theorem n_165 (x : UInt8) : bits .xor .u8 (x.toNat : Int) 165 = ((bxor x 165).toNat : Int) := n_bxor x 165
attribute [local go_sem] n_165

theorem overBytes_calls (base n c : Nat) (A : Option Addr) (bs : List UInt8) (w : World) (ho : Own w base 5 (.slice A n c) n bs) (hn : n ≤ 1099511627776) :
    Calls Try.prog 33 #[.slice A n c] w fun e w' => e = .returned (.tuple #[]) ∧ w.grownBy w' (Value.slice A n c).ownBlock := by
  go_enter Try.func33, Try.ntmps33
  go_wp2_with fail
  go_loopw [2] (fun i wr => ∃ (k : Nat) (cs : List UInt8), k ≤ n ∧ i = .int .i64 (k : Int) ∧ Own wr base 5 (.slice A n c) n cs ∧ w.grownBy wr (Value.slice A n c).ownBlock) (fun i _ => n - (intOf i).toNat)
  case atStart => exact ⟨0, bs, by omega, rfl, ho, World.grownBy.refl _ _⟩
  case round =>
    clear ho
    obtain ⟨k, cs, hk, rfl, ho, hg⟩ := hrel
    have HO := hid ho; have HG := hid hg; clear ho hg
    by_cases hlt : k < n
    · obtain ⟨g, cap, hv, _, _⟩ := World.ownsRow.form HO.out (by omega)
      injection hv with h1 h2 h3
      subst h1 h3
      have hl : k < cs.length := by rw [HO.out.len]; exact hlt
      have hc := World.ownsRow.cellAt HO.out k (by omega)
      have hx : (cs.map bv)[k]? = some (.int .u8 ((cs[k].toNat : Nat) : Int)) := by simp [hl, bv]
      rw [hx] at hc; clear hx
      have hf := World.ownsRow.frozenAt HO.out k
      generalize cs[k] = x at hc
      have hst := hid (World.ownsRow.stored HO.out k (bv (bxor x 165)))
      go_wp2_with fail
      go_roundw
      case rel =>
        refine ⟨k + 1, cs.set k (bxor x 165), by omega, by go_num, ?_, HG.out.trans hst.out.2⟩
        have := hst.out.1
        rw [← List.map_set] at this
        exact this
      case measure => simp [intOf]; omega
    · obtain rfl : k = n := by omega
      go_wp2_with fail
      go_end0
      exact ⟨rfl, HG.out⟩

end Go.Proofs.Ytcpkjpeimnaimaa
/- Contract: the kit's KeptBytes, where nothing was written: true. -/
namespace Go.Proofs.Ytcpkjpeimnaimaa
open Go.RowKit

set_option maxHeartbeats 4000000 in
set_option maxRecDepth 20000 in
theorem keptBytes_calls (B n c B' c' : Nat) (A A' : Option Addr) (bs : List UInt8) (w : World) (ha : SB w B A (n + 4) (bs ++ [201, 202, 203, 204])) (hb : SB w B' A' n bs) (hn : n ≤ 549755813888) (hc : n + 4 ≤ c) :
    Calls Try.prog 20 #[.slice A n c, .slice A' n c'] w fun e w' => e = .returned (.bool true) ∧ Below w.heap.size w w' := by
  obtain ⟨b, off, rfl, hlt, _⟩ := ha.2 (by omega)
  have ha1 : SB w B (some ⟨b, off, none⟩) n bs := by
    have h := ha.take n (by omega)
    have hl := hb.1
    rw [List.take_append_of_le_length (by omega), List.take_of_length_le (by omega)] at h
    exact h
  have ha2 : SB w B (some ⟨b, off + n, none⟩) 4 [201, 202, 203, 204] := by
    have h := ha.drop (k := n) (c := n + 5) (by omega) (by omega)
    have hl := hb.1
    rw [if_neg (by omega), List.drop_append_of_le_length (by omega), List.drop_of_length_le (by omega), Nat.add_sub_cancel_left] at h
    simpa [Addr.add_lit] using h
  have k1 := fun (W : World) (h : Below w.heap.size w W) => run_str (P := Try.prog) (ha1.keep h) c 31 9 5 Try.underlying31 Try.underlying5 Try.underlying9
  have k2 := fun (W : World) (h : Below w.heap.size w W) => run_str (P := Try.prog) (hb.keep h) c' 31 9 5 Try.underlying31 Try.underlying5 Try.underlying9
  have k3 := fun (W : World) (h : Below w.heap.size w W) => run_str (P := Try.prog) (ha2.keep h) (c - n) 31 9 5 Try.underlying31 Try.underlying5 Try.underlying9
  have b1 : Below w.heap.size w w.drew := (Below.refl _ _).drew
  have b2 : Below w.heap.size w (w.alloc (.cells #[.int .u8 201, .int .u8 202, .int .u8 203, .int .u8 204] 5)).drew := (below_new w _).drew
  have ho := (Own.lit w 5 w.heap.size [201, 202, 203, 204] #[.int .u8 201, .int .u8 202, .int .u8 203, .int .u8 204] 4 rfl rfl (Nat.le_refl _) (by omega))
  obtain ⟨A3, c3, e3, _, hs3', _⟩ := ho.sb
  have hs3 := hs3'.drew
  clear hs3'
  injection e3 with e3 _ e4
  subst e3 e4
  have k4 := run_str (P := Try.prog) hs3 4 31 9 5 Try.underlying31 Try.underlying5 Try.underlying9
  have k11 := k1 _ b1
  have k12 := k1 _ b2
  have k21 := k2 _ b1
  have k22 := k2 _ b2
  have k31 := k3 _ b1
  have k32 := k3 _ b2
  have hcn : ¬ c = n := by omega
  have w4 : IntKind.i64.wrap ((n : Int) + 4) = (n : Int) + 4 := IntWalk.i64_in _ (by omega)
  have hle : (n : Int) + 4 ≤ (c : Int) := by omega
  have hd : decide ((n : Int) + 4 ≤ (c : Int)) = true := by simpa using hle
  have hn0 : (n : Int) ≤ (n : Int) + 4 := by omega
  have ht4 : ((n : Int) + 4).toNat = n + 4 := by omega
  have hs4 : n + 4 - n = 4 := by omega
  have hgood := hid b2
  clear k1 k2 k3 hs3 ho b1 b2 ha ha1 ha2 hb
  go_enter Try.func20, Try.ntmps20
  go_wp2_with fail
  go_region
  all_goals
    go_wp2
    go_ret
    exact ⟨rfl, hgood.out⟩
end Go.Proofs.Ytcpkjpeimnaimaa
