/- Contracts: the project's Cut, Of, Has. -/
import Derived.Test.YtgacdimjbpkgoaaDoorOwnSum
import Derived.Test.YtgacdimjbpkgoaaDoorCutMath
import Derived.Test.YtgacdimjbpkgoaaDoorCells2
import Derived.Test.YtgacdimjbpkgoaaDoorStr
import Derived.Test.YtgacdimjbpkgoaaDoorOrders
namespace Go.Proofs.YtgacdimjbpkgoaaDoor
open Go.RowKit Crc

theorem own_cut_out (l : List UInt8) (v : Int) (w : World) (hv : v < 1 ∨ 32 < v) :
    Calls Tryd.prog 41 #[.agg (bcells l), .int .i64 v] w fun e w' => e = .returned (.tuple #[.agg (bcells (zeroB 32)), .int .i64 3]) ∧ Below w.heap.size w w' := by
  have hz := (zero_of_info info26).1
  have k1 := (Blk.new (w.alloc (.cells (bcells l) 24)) 24 (bcells (zeroB 32)))
  have b1 := (((Below.refl w.heap.size w).alloc (Nat.le_refl _) (.cells (bcells l) 24)).alloc (by rw [size_new]; omega) (.cells (bcells (zeroB 32)) 24))
  rw [size_new] at k1
  have K1 := hid k1; have B1 := hid b1; clear k1 b1
  have EC : Hid ((Tryd.prog.info? 24).map (·.size) = some (bcells (zeroB 32)).size) := (zero_of_info info26).2
  by_cases h1 : v < 1
  · go_enter Tryd.func41, Tryd.ntmps41
    go_wp2_with (refine wpList_store_blk rfl 24 _ _ rfl (w.heap.size + 1) _ rfl rfl 24 _ K1.out EC.out rfl (bcells_oneCell _) ?_)
    refine bodyPost_ret (v := .tuple #[.agg (bcells (zeroB 32)), .int .i64 3]) (results_cell_tmp rfl _ _ (w.heap.size + 1) 24 _ _ _ rfl rfl (K1.out.setRow _) Tryd.underlying24 EC.out) rfl ⟨rfl, ?_⟩
    exact B1.out.trans (below_of_grown (grown_setRow _ _ _) B1.out.size (fun g' e => by cases e; omega))
  · have h2 : 32 < v := by omega
    clear hv
    go_enter Tryd.func41, Tryd.ntmps41
    go_wp2_with (refine wpList_store_blk rfl 24 _ _ rfl (w.heap.size + 1) _ rfl rfl 24 _ K1.out EC.out rfl (bcells_oneCell _) ?_)
    refine bodyPost_ret (v := .tuple #[.agg (bcells (zeroB 32)), .int .i64 3]) (results_cell_tmp rfl _ _ (w.heap.size + 1) 24 _ _ _ rfl rfl (K1.out.setRow _) Tryd.underlying24 EC.out) rfl ⟨rfl, ?_⟩
    exact B1.out.trans (below_of_grown (grown_setRow _ _ _) B1.out.size (fun g' e => by cases e; omega))

set_option maxHeartbeats 1000000 in
set_option maxRecDepth 100000 in
theorem own_cut_in (l : List UInt8) (n : Nat) (w : World) (hl : l.length = 32) (h1 : 1 ≤ n) (h2 : n ≤ 32) :
    Calls Tryd.prog 41 #[.agg (bcells l), .int .i64 (n : Int)] w fun e w' => e = .returned (.tuple #[.agg (bcells (outOf l n)), .int .i64 0]) ∧ Below w.heap.size w w' := by
  have hz := (zero_of_info info26).1
  have k0 := (((Blk.new w 24 (bcells l)).alloc (.cells (bcells (zeroB 32)) 24)).alloc (.cells (bcells (zeroB 32)) 24))
  have k1 := (Blk.new (w.alloc (.cells (bcells l) 24)) 24 (bcells (zeroB 32))).alloc (.cells (bcells (zeroB 32)) 24)
  have k2 := (Blk.new ((w.alloc (.cells (bcells l) 24)).alloc (.cells (bcells (zeroB 32)) 24)) 24 (bcells (zeroB 32)))
  have b1 := ((((Below.refl w.heap.size w).alloc (Nat.le_refl _) (.cells (bcells l) 24)).alloc (by rw [size_new]; omega) (.cells (bcells (zeroB 32)) 24)).alloc (by rw [size_new, size_new]; omega) (.cells (bcells (zeroB 32)) 24))
  rw [size_new] at k1 k2
  rw [size_new] at k2
  have K0 := hid k0; have K1 := hid k1; have K2 := hid k2; have B1 := hid b1; clear k0 k1 k2 b1
  have p1 : ¬ ((n : Int) < 1) := by omega
  have p2 : ¬ ((32 : Int) < (n : Int)) := by omega
  have p3 : (n : Int) ≤ 32 := by omega
  have p4 : (0 : Int) ≤ (n : Int) := by omega
  have HL := hid hl; clear hl
  go_enter Tryd.func41, Tryd.ntmps41
  go_wp2_with fail
  clear hz
  generalize ((w.alloc (.cells (bcells l) 24)).alloc (.cells (bcells (zeroB 32)) 24)).alloc (.cells (bcells (zeroB 32)) 24) = wA at K0 K1 K2 B1 ⊢
  generalize hg : w.heap.size = g at K0 K1 K2 B1 ⊢
  have HG := hid hg; clear hg
  go_still_tail 3, (by kernel_rfl)
  try rw [show ({ heap := wA.heap, tape := wA.tape, drawn := wA.drawn + 1, os := wA.os, output := wA.output } : World) = wA.drew from rfl]
  have k0 := K0.out
  rw [bcells_part] at k0
  have hsb := ((part_sb k0 0 32 rfl HL.out (Nat.lt_succ_self _)).take n h2).drew
  have k2 := K2.out
  rw [bcells_part] at k2
  have HSB := hid hsb; have HK2 := hid k2.drew
  clear hsb k0 k2 K2
  go_wp2_with ((refine wpList_copy_part rfl (.tmp 14) (.tmp 16) 22 22 rfl 5 Tryd.underlying22 infoU8 (g + 1 + 1) 0 _ _ rfl (g + 1) _ n _ rfl _ HSB.out 24 [] [] (zeroB 32) HK2.out 0 rfl n (by show n = min n 32; omega) (by rw [zeroB_length]; omega) ?_); refine Held.go ?_)
  have gq := grown_setRow wA.drew (g + 1 + 1) (part [] ((spl (zeroB 32) 0 ((l.take n).take n)).map bv) [])
  have hk5 := HK2.out.setRow (part [] ((spl (zeroB 32) 0 ((l.take n).take n)).map bv) [])
  have hB5 := B1.out.drew.trans (below_of_grown gq (by have := K1.out.lt; show g ≤ wA.heap.size; omega) (fun g' e => by cases e; omega))
  have h15 := K1.out.drew.grown gq (by simp)
  generalize wA.drew.setRow (g + 1 + 1) (part [] ((spl (zeroB 32) 0 ((l.take n).take n)).map bv) []) = w5 at hk5 hB5 h15 ⊢
  rw [spl_cut l n HL.out h2, ← bcells_part] at hk5
  have hlo := outOf_length l n HL.out h2
  have EC : Hid ((Tryd.prog.info? 24).map (·.size) = some (bcells (outOf l n)).size) := by rw [Hid, bcells_size, hlo]; exact (zero_of_info info26).2
  have Hsz : Hid ((bcells (zeroB 32)).size = (bcells (outOf l n)).size) := by rw [Hid, bcells_size, bcells_size, hlo]; rfl
  generalize hC : outOf l n = lC at hk5 EC Hsz ⊢
  have HCe := hid hC; clear hC
  have K5 := hid hk5; have B5 := hid hB5; have K15 := hid h15
  clear hk5 hB5 h15 gq hlo HSB HK2 K0 K1 B1
  unfold Held
  go_wp2_with (first
    | (refine wpList_load_blk rfl 24 _ rfl (g + 1 + 1) rfl 24 _ K5.out _ _ Tryd.underlying24 EC.out ?_)
    | (refine wpList_store_blk rfl 24 _ _ rfl (g + 1) _ rfl rfl 24 _ K15.out EC.out Hsz.out (bcells_oneCell _) ?_))
  refine bodyPost_ret (v := .tuple #[.agg (bcells lC), .int .i64 0]) (results_cell_tmp rfl _ _ (g + 1) 24 _ _ _ rfl rfl (K15.out.setRow _) Tryd.underlying24 EC.out) rfl ⟨by rw [HCe.out], ?_⟩
  rw [HG.out]
  exact B5.out.trans (below_of_grown (grown_setRow _ _ _) (by have := K15.out.lt; omega) (fun g' e => by cases e; omega))

theorem own_cut_calls (l : List UInt8) (v : Int) (w : World) (hl : l.length = 32) :
    Calls Tryd.prog 41 #[.agg (bcells l), .int .i64 v] w fun e w' => e = .returned (.tuple #[.agg (bcells (cutB l v)), .int .i64 (cutE v)]) ∧ Below w.heap.size w w' := by
  by_cases hv : v < 1 ∨ 32 < v
  · rw [cutB, cutE, if_pos hv, if_pos hv]; exact own_cut_out l v w hv
  · rw [cutB, cutE, if_neg hv, if_neg hv]
    have h := own_cut_in l v.toNat w hl (by omega) (by omega)
    rwa [show ((v.toNat : Nat) : Int) = v by omega] at h
set_option maxRecDepth 20000 in
theorem own_of_calls (B n c : Nat) (A : Option Addr) (bs : List UInt8) (v : Int) (w : World) (hs : SB w B A n bs) (hc : n ≤ c) (hG : Glob w) (hn : n ≤ 1099511627776) :
    Calls Tryd.prog 17 #[.slice A n c, .int .i64 v] w fun e w' => e = .returned (.tuple #[.agg (bcells (cutB (sha bs) v)), .int .i64 (cutE v)]) ∧ Below w.heap.size w w' := by
  have hz := (zero_of_info info26).1
  have K1 := hid (Blk.new w 24 (bcells (zeroB 32)))
  have B1 := hid (below_new w (.cells (bcells (zeroB 32)) 24))
  go_enter Tryd.func17, Tryd.ntmps17
  go_wp2_with fail
  clear hz
  generalize w.alloc (.cells (bcells (zeroB 32)) 24) = wA at K1 B1 ⊢
  refine (sum_calls B n c A bs wA (hs.keep B1.out) hc (hG.keep B1.out) hn).mono ?_
  rintro e w2 ⟨rfl, b2⟩
  have hl := sha_length bs
  generalize hC : sha bs = lS at hl ⊢
  have HCe := hid hC; clear hC
  have K2 := hid (K1.out.keep b2)
  have B2 := hid (B1.out.trans (b2.mono B1.out.size))
  clear b2 K1 B1
  go_wp2_with fail
  refine (own_cut_calls lS v w2 hl).mono ?_
  rintro e w3 ⟨rfl, b3⟩
  have hlo := cutB_length lS v hl
  have EC : Hid ((Tryd.prog.info? 24).map (·.size) = some (bcells (cutB lS v)).size) := by rw [Hid, bcells_size, hlo]; exact (zero_of_info info26).2
  have Hsz : Hid ((bcells (zeroB 32)).size = (bcells (cutB lS v)).size) := by rw [Hid, bcells_size, bcells_size, hlo]; rfl
  generalize hC : cutB lS v = lC at EC Hsz ⊢
  have HCd := hid hC; clear hC
  have K3 := hid (K2.out.keep b3)
  have B3 := hid (B2.out.trans (b3.mono B2.out.size))
  clear b3 K2 B2 hlo
  go_wp2_with (refine wpList_store_blk rfl 24 _ _ rfl w.heap.size _ rfl rfl 24 _ K3.out EC.out Hsz.out (bcells_oneCell _) ?_)
  refine bodyPost_ret (v := .tuple #[.agg (bcells lC), .int .i64 (cutE v)]) (results_cell_tmp rfl _ _ w.heap.size 24 _ _ _ rfl rfl (K3.out.setRow _) Tryd.underlying24 EC.out) rfl ⟨by rw [HCe.out, HCd.out], ?_⟩
  exact B3.out.trans (below_of_grown (grown_setRow _ _ _) B3.out.size (fun g' e => by cases e; omega))
end Go.Proofs.YtgacdimjbpkgoaaDoor
