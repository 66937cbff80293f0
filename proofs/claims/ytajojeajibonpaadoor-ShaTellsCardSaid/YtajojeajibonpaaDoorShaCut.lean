/- Contracts: the reference's Cut, Of, Has. -/
import Derived.Test.YtajojeajibonpaaDoorShaSum
import Derived.Test.YtajojeajibonpaaDoorCells2
import Derived.Test.YtajojeajibonpaaDoorCutMath
namespace Go.Proofs.YtajojeajibonpaaDoor
open Go.RowKit Crc

theorem refCut_out (l : List UInt8) (v : Int) (w : World) (hv : v < 1 ∨ 32 < v) :
    Calls Tryd.prog 18 #[.agg (bcells l), .int .i64 v] w fun e w' => e = .returned (.tuple #[.agg (bcells (zeroB 32)), .int .i64 3]) ∧ Below w.heap.size w w' := by
  have hz := (zero_of_info info26).1
  have k1 := (Blk.new (w.alloc (.cells (bcells l) 26)) 26 (bcells (zeroB 32)))
  have b1 := (((Below.refl w.heap.size w).alloc (Nat.le_refl _) (.cells (bcells l) 26)).alloc (by rw [size_new]; omega) (.cells (bcells (zeroB 32)) 26))
  rw [size_new] at k1
  have K1 := hid k1; have B1 := hid b1; clear k1 b1
  have EC : Hid ((Tryd.prog.info? 26).map (·.size) = some (bcells (zeroB 32)).size) := (zero_of_info info26).2
  by_cases h1 : v < 1
  all_goals
    (go_enter Tryd.func18, Tryd.ntmps18
     go_wp2_with (first
       | (refine wpList_store_blk rfl 26 _ _ rfl (w.heap.size + 1) _ rfl rfl 26 _ K1.out EC.out rfl (bcells_oneCell _) ?_))
     refine bodyPost_ret (v := .tuple #[.agg (bcells (zeroB 32)), .int .i64 3]) (results_cell_tmp rfl _ _ (w.heap.size + 1) 26 _ _ _ rfl rfl (K1.out.setRow _) Tryd.underlying26 EC.out) rfl ⟨rfl, ?_⟩
     exact B1.out.trans (below_of_grown (grown_setRow _ _ _) B1.out.size (fun g' e => by cases e; omega)))

def mid (l : List UInt8) (n j : Nat) : List UInt8 := l.take n ++ zeroB (j - n) ++ l.drop j
theorem mid_start (l : List UInt8) (n : Nat) : mid l n n = l := by simp [mid, zeroB]
theorem mid_end (l : List UInt8) (n : Nat) (hl : l.length = 32) : mid l n 32 = outOf l n := by
  rw [mid, outOf, List.drop_of_length_le (by omega), List.append_nil]
theorem mid_cut (l : List UInt8) (n j : Nat) (hl : l.length = 32) (_hn : n ≤ j) (hj : j < 32) : ∃ x, mid l n j = (l.take n ++ zeroB (j - n)) ++ x :: l.drop (j + 1) :=
  ⟨l[j], by rw [mid, List.drop_eq_getElem_cons (by omega)]⟩
theorem mid_head (l : List UInt8) (n j : Nat) (hl : l.length = 32) (hn : n ≤ j) (hj : j < 32) : (l.take n ++ zeroB (j - n)).length = j := by
  rw [List.length_append, List.length_take, zeroB, List.length_replicate]; omega
theorem mid_at (l : List UInt8) (n j : Nat) (hl : l.length = 32) (hn : n ≤ j) (hj : j < 32) : ∃ x : UInt8, (bcells (mid l n j))[j]? = some (.int .u8 (x.toNat : Int)) := by
  obtain ⟨x, hx⟩ := mid_cut l n j hl hn hj
  refine ⟨x, ?_⟩
  have h := mid_head l n j hl hn hj
  have : (mid l n j)[j]? = some x := by rw [hx, List.getElem?_append_right (by omega), h, Nat.sub_self]; rfl
  simp [bcells, this, bv]
theorem mid_set (l : List UInt8) (n j : Nat) (hl : l.length = 32) (hn : n ≤ j) (hj : j < 32) : (bcells (mid l n j)).setIfInBounds j (.int .u8 0) = bcells (mid l n (j + 1)) := by
  obtain ⟨x, hx⟩ := mid_cut l n j hl hn hj
  have h := mid_head l n j hl hn hj
  have : (mid l n j).set j 0 = mid l n (j + 1) := by
    rw [hx, List.set_append_right _ _ (by omega), h, Nat.sub_self, List.set_cons_zero, mid, show j + 1 - n = (j - n) + 1 by omega, zeroB, zeroB, List.replicate_succ']
    simp
  rw [← this]; simp [bcells, List.map_set, bv]

set_option maxRecDepth 20000 in
theorem refCut_in (l : List UInt8) (n : Nat) (w : World) (hl : l.length = 32) (h1 : 1 ≤ n) (h2 : n ≤ 32) :
    Calls Tryd.prog 18 #[.agg (bcells l), .int .i64 (n : Int)] w fun e w' => e = .returned (.tuple #[.agg (bcells (outOf l n)), .int .i64 0]) ∧ Below w.heap.size w w' := by
  have hz := (zero_of_info info26).1
  have k0 := ((Blk.new w 26 (bcells l)).alloc (.cells (bcells (zeroB 32)) 26))
  have k1 := (Blk.new (w.alloc (.cells (bcells l) 26)) 26 (bcells (zeroB 32)))
  have b1 := (((Below.refl w.heap.size w).alloc (Nat.le_refl _) (.cells (bcells l) 26)).alloc (by rw [size_new]; omega) (.cells (bcells (zeroB 32)) 26))
  rw [size_new] at k1
  have K0 := hid k0; have K1 := hid k1; have B1 := hid b1; clear k0 k1 b1
  have p1 : ¬ ((n : Int) < 1) := by omega
  have p2 : ¬ ((32 : Int) < (n : Int)) := by omega
  go_enter Tryd.func18, Tryd.ntmps18
  go_wp2_with fail
  generalize (w.alloc (.cells (bcells l) 26)).alloc (.cells (bcells (zeroB 32)) 26) = wA at K0 K1 B1 ⊢
  generalize hg : w.heap.size = g at K0 K1 B1 ⊢
  have HG := hid hg; clear hg
  have lA : g < wA.heap.size := K0.out.lt
  go_loopw [6] (fun i wr => ∃ j : Nat, n ≤ j ∧ j ≤ 32 ∧ i = .int .i64 (j : Int) ∧ Hid (Blk wr g 26 (bcells (mid l n j))) ∧ Hid (Blk wr (g + 1) 26 (bcells (zeroB 32))) ∧ Hid (Below g w wr)) (fun i _ => 32 - (intOf i).toNat)
  case atStart => exact ⟨n, Nat.le_refl _, h2, rfl, by rw [mid_start]; exact K0, K1, B1⟩
  case round =>
    clear K0 K1 B1
    obtain ⟨j, hj1, hj, rfl, K0, K1, HB⟩ := hrel
    by_cases hlt : j < 32
    · obtain ⟨x, hx⟩ := mid_at l n j hl hj1 hlt
      have c0 := K0.out.cell j hx
      have f0 := K0.out.frozen j
      have HX := hid hx; clear hx
      have hlt' : (j : Int) < 32 := by omega
      go_wp2_with fail
      have h := K0.out.set_ j (.int .u8 0)
      rw [mid_set l n j hl hj1 hlt] at h
      have H := hid h; clear h
      go_roundw
      case rel => exact ⟨j + 1, by omega, by omega, by go_num, H, K1.out.far (by show ¬ g + 1 = g; omega) _, HB.out.setCell (p := ⟨g, j, none⟩) (by show g ≤ g; omega) _⟩
      case measure => simp [intOf]; omega
    · obtain rfl : j = 32 := by omega
      have k0 := K0.out
      rw [mid_end l n hl] at k0
      have hlo : (outOf l n).length = 32 := by rw [outOf, List.length_append, List.length_take, zeroB, List.length_replicate]; omega
      have EC : Hid ((Tryd.prog.info? 26).map (·.size) = some (bcells (outOf l n)).size) := by rw [Hid, bcells_size, hlo]; exact (zero_of_info info26).2
      have Hsz : Hid ((bcells (zeroB 32)).size = (bcells (outOf l n)).size) := by rw [Hid, bcells_size, bcells_size, hlo]; rfl
      generalize hC : outOf l n = lC at k0 EC Hsz
      have HCe := hid hC; clear hC
      go_wp2_with (first
        | (refine wpList_load_blk rfl 26 _ rfl g rfl 26 _ k0 _ _ Tryd.underlying26 EC.out ?_)
        | (refine wpList_store_blk rfl 26 _ _ rfl (g + 1) _ rfl rfl 26 _ K1.out EC.out Hsz.out (bcells_oneCell _) ?_))
      refine bodyPost_ret (v := .tuple #[.agg (bcells lC), .int .i64 0]) (results_cell_tmp rfl _ _ (g + 1) 26 _ _ _ rfl rfl (K1.out.setRow _) Tryd.underlying26 EC.out) rfl ⟨by rw [HCe.out], ?_⟩
      rw [HG.out]
      exact HB.out.trans (below_of_grown (grown_setRow _ _ _) (Nat.le_of_lt k0.lt) (fun g' e => by cases e; omega))

theorem refCut_calls (l : List UInt8) (v : Int) (w : World) (hl : l.length = 32) :
    Calls Tryd.prog 18 #[.agg (bcells l), .int .i64 v] w fun e w' => e = .returned (.tuple #[.agg (bcells (cutB l v)), .int .i64 (cutE v)]) ∧ Below w.heap.size w w' := by
  by_cases hv : v < 1 ∨ 32 < v
  · rw [cutB, cutE, if_pos hv, if_pos hv]; exact refCut_out l v w hv
  · rw [cutB, cutE, if_neg hv, if_neg hv]
    have h := refCut_in l v.toNat w hl (by omega) (by omega)
    rwa [show ((v.toNat : Nat) : Int) = v by omega] at h
set_option maxRecDepth 20000 in
theorem refOf_calls (B n c : Nat) (A : Option Addr) (bs : List UInt8) (v : Int) (w : World) (hs : SB w B A n bs) (hn : n ≤ 1048576) :
    Calls Tryd.prog 14 #[.slice A n c, .int .i64 v] w fun e w' => e = .returned (.tuple #[.agg (bcells (cutB (sha bs) v)), .int .i64 (cutE v)]) ∧ Below w.heap.size w w' := by
  have hz := (zero_of_info info26).1
  have k1 := Blk.new w 26 (bcells (zeroB 32))
  have b1 := below_new w (.cells (bcells (zeroB 32)) 26)
  have K1 := hid k1; have B1 := hid b1; clear k1 b1
  go_enter Tryd.func14, Tryd.ntmps14
  go_wp2_with fail
  clear hz
  generalize w.alloc (.cells (bcells (zeroB 32)) 26) = wA at K1 B1 ⊢
  refine (refSum_calls2 B n c A bs wA (hs.keep B1.out) hn).mono ?_
  rintro e w2 ⟨rfl, b2⟩
  have hl := sha_length bs
  generalize hC : sha bs = lS at hl ⊢
  have HCe := hid hC; clear hC
  have K2 := hid (K1.out.keep b2)
  have B2 := hid (B1.out.trans (b2.mono B1.out.size))
  clear b2 K1 B1
  go_wp2_with fail
  refine (refCut_calls lS v w2 hl).mono ?_
  rintro e w3 ⟨rfl, b3⟩
  have hlo := cutB_length lS v hl
  have EC : Hid ((Tryd.prog.info? 26).map (·.size) = some (bcells (cutB lS v)).size) := by rw [Hid, bcells_size, hlo]; exact (zero_of_info info26).2
  have Hsz : Hid ((bcells (zeroB 32)).size = (bcells (cutB lS v)).size) := by rw [Hid, bcells_size, bcells_size, hlo]; rfl
  generalize hC : cutB lS v = lC at EC Hsz ⊢
  have HCd := hid hC; clear hC
  have K3 := hid (K2.out.keep b3)
  have B3 := hid (B2.out.trans (b3.mono B2.out.size))
  clear b3 K2 B2 hlo
  go_wp2_with (refine wpList_store_blk rfl 26 _ _ rfl w.heap.size _ rfl rfl 26 _ K3.out EC.out Hsz.out (bcells_oneCell _) ?_)
  refine bodyPost_ret (v := .tuple #[.agg (bcells lC), .int .i64 (cutE v)]) (results_cell_tmp rfl _ _ w.heap.size 26 _ _ _ rfl rfl (K3.out.setRow _) Tryd.underlying26 EC.out) rfl ⟨by rw [HCe.out, HCd.out], ?_⟩
  exact B3.out.trans (below_of_grown (grown_setRow _ _ _) B3.out.size (fun g' e => by cases e; omega))
end Go.Proofs.YtajojeajibonpaaDoor
