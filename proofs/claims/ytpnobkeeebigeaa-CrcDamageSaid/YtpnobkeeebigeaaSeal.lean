/- Contracts: crc.Seal and crc.Open: what they return, in new memory. -/
import Derived.Test.YtpnobkeeebigeaaProg
import Derived.Test.YtpnobkeeebigeaaKit1
import Derived.Test.YtpnobkeeebigeaaPass
import Derived.Deep.RegionWith
import Derived.Deep.RegionLaw
import Derived.Lib.SliceRun
namespace Go.Proofs.Ytpnobkeeebigeaa
open Go.RowKit Crc
attribute [local go_sem] n_xor n_poly n_not n_not' n_bx n_low n_shr1 n_shr8 n_shr16 n_shr24 n_bxor

theorem SB.none_zero {w : World} {B n : Nat} {bs : List UInt8} (h : SB w B none n bs) : n = 0 := by
  rcases Nat.eq_zero_or_pos n with h0 | h0
  · exact h0
  · obtain ⟨_, _, e, _⟩ := h.2 h0
    cases e

theorem clone_calls (B n c : Nat) (A : Option Addr) (bs : List UInt8) (w : World) (hs : SB w B A n bs) (hn : n ≤ 1099511627776) :
    Calls Try.prog 23 #[.slice A n c] w
      fun e w' => ∃ v, e = .returned v ∧ Own w' w.heap.size 5 v n bs ∧ Below w.heap.size w w' := by
  have hq := Lib.run_eql_slice_nil (P := Try.prog) w 22 5 A n c 0 0 Try.underlying22
  cases A with
  | none =>
    obtain rfl := hs.none_zero
    obtain rfl : bs = [] := List.eq_nil_of_length_eq_zero hs.1
    go_enter Try.func23, Try.ntmps23
    go_wp2_with fail
    go_ret
    exact ⟨_, rfl, Own.nil _ _ _, Below.refl _ _⟩
  | some a =>
    go_enter Try.func23, Try.ntmps23
    go_wp2_with (at_builtin; refine Held.go ?_)
    have ho := Own.lit w 5 w.heap.size [] #[] 0 rfl rfl (Nat.le_refl _) (by omega)
    have hb := below_new w (.cells #[] 5)
    generalize w.alloc (.cells #[] 5) = w1 at ho hb ⊢
    refine wpList_append_bytes _ rfl _ _ _ rfl _ Try.underlying22 info5 w.heap.size _ 0 [] rfl ho B (some a) n c bs rfl (hs.keep hb) (by omega) hb.size ?_
    intro v' w' h1 h2 h3
    go_wp2_with fail
    go_ret
    exact ⟨v', rfl, by simpa using h1, hb.trans (below_of_grown h2 hb.size (fun g e => (ho.block g e).1))⟩

theorem seal_calls (B n c : Nat) (A : Option Addr) (bs : List UInt8) (w : World) (hs : SB w B A n bs) (hn : n ≤ 549755813888) :
    Calls Try.prog 9 #[.slice A n c] w
      fun e w' => ∃ v, e = .returned v ∧ Own w' w.heap.size 5 v (n + 4) (sealed bs) ∧ Below w.heap.size w w' := by
  go_enter Try.func9, Try.ntmps9
  go_wp2_with fail
  refine (sumBytes_calls B n c A bs _ hs (by omega)).mono ?_
  rintro e w1 ⟨rfl, hb1⟩
  have hk := Blk.new w1 39 #[.int .u8 0, .int .u8 0, .int .u8 0, .int .u8 0]
  have hb2 := below_new w1 (.cells #[.int .u8 0, .int .u8 0, .int .u8 0, .int .u8 0] 39)
  have Hk := hid hk
  go_wp2_with (first
    | (at_make; refine Held.go ?_)
    | (refine wpList_store_blk rfl 39 _ _ rfl w1.heap.size _ rfl rfl 39 _ hk info39 rfl rfl ?_))
  have hk2 := hk.setRow ((tail4 (sum bs)).map bv).toArray
  have hb3 := hb2.trans (below_of_grown (grown_setRow (w1.alloc (.cells #[.int .u8 0, .int .u8 0, .int .u8 0, .int .u8 0] 39)) w1.heap.size ((tail4 (sum bs)).map bv).toArray) (by rw [size_new]; omega) (fun g e => by cases e; exact Nat.le_refl _))
  clear hk hb2 Hk
  generalize (w1.alloc (.cells #[.int .u8 0, .int .u8 0, .int .u8 0, .int .u8 0] 39)).setRow w1.heap.size ((tail4 (sum bs)).map bv).toArray = w2 at hk2 hb3 ⊢
  have hw2 := hb1.trans (hb3.mono hb1.size)
  have hg1 := hb1.size
  generalize w1.heap.size = g at hk2 hb3 hg1 ⊢
  have hg := hk2.lt
  refine wpList_make_bytes _ rfl _ _ _ rfl 5 Try.underlying22 info5 _ (n + 4) rfl rfl (by omega) (by omega) ?_
  intro w3 ho3 hb4
  have hk3 := hk2.keep hb4
  have hs3 := (hs.keep hw2).keep hb4
  have hw3 := hw2.trans (hb4.mono hw2.size)
  have hg3 : g < w2.heap.size := hg
  generalize w2.heap.size = g2 at ho3 hg3 ⊢
  have ht : SB w3 (g + 1) (some ⟨g, 0, none⟩) 4 (tail4 (sum bs)) := ⟨rfl, fun _ => ⟨g, 0, rfl, Nat.lt_succ_self _, fun j x hj => by
    rw [Nat.zero_add]
    exact hk3.cell j (by simp [hj])⟩⟩
  have hg4 : g2 ≤ w3.heap.size := Nat.le_of_lt (ho3.block g2 rfl).2
  go_wp2_with fail
  go_region_law (first
    | (refine step_append_bytes _ rfl (.tmp 11) (.tmp 12) 22 rfl 5 Try.underlying22 info5 g2 (.slice (some ⟨g2, 0, none⟩) 0 (n + 4)) 0 [] (by simp [Act.eval, Act.put]) ho3.drew B A n c bs (by simp [Act.eval, Act.put]) hs3.drew (by omega) hg4 ?_
       intro v4 w4 h4 k4 t4
       have ht4 := ht.drew.grown k4 (fun g' e => by have e' : g2 = g' := Option.some.inj e; omega)
       have hw4 := hid (hw3.drew.trans (below_of_grown k4 hw3.size (fun g' e => by have e' : g2 = g' := Option.some.inj e; omega)))
       have hg5 : g2 ≤ w4.heap.size := Nat.le_trans hg4 k4.size
       rw [Nat.zero_add, List.nil_append] at h4
       clear k4 t4)
    | (refine step_append_bytes _ rfl (.tmp 13) (.tmp 14) 22 rfl 5 Try.underlying22 info5 g2 v4 n bs (by simp [Act.eval]) h4 (g + 1) (some ⟨g, 0, none⟩) 4 4 (tail4 (sum bs)) (by simp [Act.eval]) ht4 (by omega) hg5 ?_
       intro v6 w6 h6 k6 t6
       have hw6 := hid (hw4.out.trans (below_of_grown k6 hw4.out.size (fun g' e => by have := (h4.block g' e).1; omega)))
       clear k6 t6))
  go_wp2_with fail
  go_ret
  exact ⟨v6, rfl, h6.lower (by omega), hw6.out⟩
end Go.Proofs.Ytpnobkeeebigeaa
