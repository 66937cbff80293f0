/- Contract: the project's Has. -/
import Derived.Test.YtajojeajibonpaaDoorOwnCut
namespace Go.Proofs.YtajojeajibonpaaDoor
open Go.RowKit Crc

def hasB (l : List UInt8) (v : Int) : Bool := cutE v == 0 && cutB l v == l
theorem hasB_no {l : List UInt8} {v : Int} (h : cutE v ≠ 0) : hasB l v = false := by unfold hasB; rw [beq_eq_false_iff_ne.2 h]; rfl
theorem hasB_yes {l : List UInt8} {v : Int} (h : cutE v = 0) : hasB l v = (cutB l v == l) := by unfold hasB; rw [h]; rfl

set_option maxHeartbeats 1000000 in
set_option maxRecDepth 100000 in
theorem own_has_calls (l : List UInt8) (v : Int) (w : World) (hl : l.length = 32) :
    Calls Tryd.prog 21 #[.agg (bcells l), .int .i64 v] w fun e w' => e = .returned (.bool (hasB l v)) ∧ Below w.heap.size w w' := by
  have hz := (zero_of_info info26).1
  have EL : Hid ((Tryd.prog.info? 26).map (·.size) = some (bcells l).size) := by rw [Hid, bcells_size, hl]; exact (zero_of_info info26).2
  have hlo := cutB_length l v hl
  have EC : Hid ((Tryd.prog.info? 26).map (·.size) = some (bcells (cutB l v)).size) := by rw [Hid, bcells_size, hlo]; exact (zero_of_info info26).2
  have Hsz : Hid ((bcells (zeroB 32)).size = (bcells (cutB l v)).size) := by rw [Hid, bcells_size, bcells_size, hlo]; rfl
  have heq := fun W => run_equal_arr (P := Tryd.prog) 26 5 32 Tryd.underlying26 Tryd.underlying5 (by kernel_rfl) (cutB l v) l hlo hl W
  have heq' : ∀ W, (Op.equalIn 10000 26 (.agg (bcells (cutB l v))) (.agg (bcells l))).run Tryd.prog W = .ok (cutB l v == l) W := heq
  have hc := fun W => own_cut_calls l v W hl
  have hy := @hasB_yes l v
  have hno := @hasB_no l v
  clear heq hlo
  generalize hasB l v = r at hy hno ⊢
  generalize cutB l v = lC at EC Hsz heq' hc hy
  generalize (lC == l) = q at heq' hy
  generalize cutE v = k at hc hy hno
  have K1 := hid (Blk.new w 26 (bcells l))
  have B1 := hid (below_new w (.cells (bcells l) 26))
  have HY := hid hy; have HNO := hid hno; have HC := hid hc
  clear hy hno hc
  by_cases hk : k = 0
  · subst hk
    obtain rfl := HY.out rfl
    clear HY HNO
    go_enter Tryd.func21, Tryd.ntmps21
    go_wp2_with (refine wpList_load_blk rfl 26 _ rfl w.heap.size rfl 26 _ K1.out _ _ Tryd.underlying26 EL.out ?_)
    generalize w.alloc (.cells (bcells l) 26) = wA at K1 B1 ⊢
    refine (HC.out wA).mono ?_
    rintro _ w2 ⟨rfl, b2⟩
    have K2 := hid (Blk.new w2 26 (bcells (zeroB 32)))
    have B2 := hid ((B1.out.trans (b2.mono B1.out.size)).alloc (Nat.le_trans B1.out.size b2.size) (.cells (bcells (zeroB 32)) 26))
    have K12 := hid ((K1.out.keep b2).alloc (.cells (bcells (zeroB 32)) 26))
    have lb := Nat.le_trans B1.out.size b2.size
    have l1 : w.heap.size < w2.heap.size := (K1.out.keep b2).lt
    clear b2
    go_wp2_with (refine wpList_store_blk rfl 26 _ _ rfl w2.heap.size _ rfl rfl 26 _ K2.out EC.out Hsz.out (bcells_oneCell _) ?_; refine Held.go ?_)
    clear hz
    have k3 := K2.out.setRow (bcells lC)
    have gq := grown_setRow (w2.alloc (.cells (bcells (zeroB 32)) 26)) w2.heap.size (bcells lC)
    have k13 := K12.out.grown gq (by simp; omega)
    have b3 := B2.out.trans (below_of_grown gq B2.out.size (fun g' e => by cases e; exact lb))
    generalize (w2.alloc (.cells (bcells (zeroB 32)) 26)).setRow w2.heap.size (bcells lC) = w3 at k3 b3 k13 ⊢
    generalize w2.heap.size = g2 at k3 ⊢
    have K3 := hid k3; have K13 := hid k13; have B3 := hid b3
    clear k3 k13 b3 gq K2 B2 K12 l1 lb K1 B1
    unfold Held
    go_wp2_with (first
      | ((refine wpList_load_blk_g ?_ 26 (.tmp 5) ?_ g2 ?_ 26 _ K3.out _ _ Tryd.underlying26 EC.out ?_); exact rfl; exact rfl; exact rfl)
      | ((refine wpList_load_blk_g ?_ 26 (.tmp 2) ?_ w.heap.size ?_ 26 _ K13.out _ _ Tryd.underlying26 EL.out ?_); exact rfl; exact rfl; exact rfl))
    go_ret
    exact ⟨rfl, B3.out⟩
  · obtain rfl := HNO.out hk
    have hkb : (k == 0) = false := beq_eq_false_iff_ne.2 hk
    clear HY HNO hk
    go_enter Tryd.func21, Tryd.ntmps21
    go_wp2_with (refine wpList_load_blk rfl 26 _ rfl w.heap.size rfl 26 _ K1.out _ _ Tryd.underlying26 EL.out ?_)
    generalize w.alloc (.cells (bcells l) 26) = wA at K1 B1 ⊢
    refine (HC.out wA).mono ?_
    rintro _ w2 ⟨rfl, b2⟩
    have K2 := hid (Blk.new w2 26 (bcells (zeroB 32)))
    have B2 := hid ((B1.out.trans (b2.mono B1.out.size)).alloc (Nat.le_trans B1.out.size b2.size) (.cells (bcells (zeroB 32)) 26))
    have lb := Nat.le_trans B1.out.size b2.size
    clear b2
    go_wp2_with (refine wpList_store_blk rfl 26 _ _ rfl w2.heap.size _ rfl rfl 26 _ K2.out EC.out Hsz.out (bcells_oneCell _) ?_)
    go_ret
    exact ⟨rfl, B2.out.trans (below_of_grown (grown_setRow (w2.alloc (.cells (bcells (zeroB 32)) 26)) w2.heap.size (bcells lC)) B2.out.size (fun g' e => by cases e; exact lb))⟩
end Go.Proofs.YtajojeajibonpaaDoor
