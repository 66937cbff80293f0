/- Contract: the project's pass: a block taken in by eight words in memory. -/
import Derived.Test.YtgacdimjbpkgoaaDoorOwnMix
namespace Go.Proofs.YtgacdimjbpkgoaaDoor
open Go.RowKit Crc
attribute [local go_sem] n_add n_addw

theorem infoW8 : (Tryd.prog.info? 95).map (fun i => (i.zero, i.size)) = some (some (.agg (rcells (zeroW 8))), 8) := by rw [rcells_zeros]; kernel_rfl
theorem part_cells (l : List R) : (l.map rv).toArray = rcells l := rfl

set_option maxHeartbeats 4000000 in
set_option maxRecDepth 100000 in
theorem pass_calls (s : St) (B c : Nat) (A : Option Addr) (blk : List UInt8) (g off : Nat) (t : TypeId) (pre post : List Value) (hoff : pre.length = off) (w : World) (hs : SB w B A 64 blk) (hc : 64 ≤ c) (hG : Glob w) (hg : 1 < g) (hb : Blk w g t (part pre ((stL s).map rv) post)) :
    Calls Tryd.prog 64 #[.pointer (some ⟨g, off, none⟩), .slice A 64 c] w
      fun e w' => e = .returned (.tuple #[]) ∧ w.grownBy w' (some g) ∧ Blk w' g t (part pre ((stL (blockR s blk)).map rv) post) := by
  have HO := hid hoff; clear hoff
  have hz8 := (zero_of_info infoW8).1
  have k4 := Blk.new w 95 (rcells (zeroW 8))
  have hb0 := hb
  have EC : Hid ((Tryd.prog.info? 95).map (·.size) = some (rcells (stL s)).size) := (zero_of_info infoW8).2
  have lg := hb.lt
  have HGl := hid hG; have HS := hid hs; have HB0 := hid hb0; have K4 := hid k4
  clear hG hs hb0 hb k4
  go_enter Tryd.func64, Tryd.ntmps64
  go_wp2_with (first
    | (refine wpList_load_part rfl 95 _ rfl g off rfl HB0.out HO.out Tryd.underlying95 rfl infoWords ?_)
    | (refine wpList_store_blk rfl 95 _ _ rfl w.heap.size (rcells (stL s)) rfl rfl 95 _ K4.out EC.out rfl (rcells_oneCell _) ?_))
  clear hz8
  have kk := K4.out.setRow (rcells (stL s))
  have b1 : Below w.heap.size w ((w.alloc (.cells (rcells (zeroW 8)) 95)).setRow w.heap.size (rcells (stL s))) :=
    (below_new w _).trans (below_of_grown (grown_setRow _ w.heap.size _) (by rw [size_new]; omega) (fun g e => by cases e; exact Nat.le_refl _))
  obtain ⟨w1, e1, K1, B1⟩ : ∃ w1, (w.alloc (.cells (rcells (zeroW 8)) 95)).setRow w.heap.size (rcells (stL s)) = w1 ∧ Hid (Blk w1 w.heap.size 95 (rcells (stL s))) ∧ Hid (Below w.heap.size w w1) := ⟨_, rfl, kk, b1⟩
  rw [e1]
  clear kk b1 e1 K4
  refine (sched_calls B c A blk w1 (HS.out.keep B1.out) hc).mono ?_
  rintro e w2 ⟨rfl, b2⟩
  have e64 : (sched blk).length = 64 := by rw [← wjOf_end, wjOf_length _ _ (by omega) (by omega)]
  have hR : Hid (blockR s blk = addSt (rounds (sched blk) 64 s) s) := rfl
  generalize sched blk = ws at e64 hR ⊢
  have B2 := hid (B1.out.trans (b2.mono B1.out.size))
  have K2 := hid (K1.out.keep b2)
  have HB2 := hid (HB0.out.keep B2.out)
  have GL2 := hid (HGl.out.keep B2.out)
  have E64 := hid e64
  clear b2 B1 K1 HB0 HGl e64
  go_wp2_with fail
  refine (mix_calls s ws E64.out g off t pre post HO.out w2 GL2.out hg HB2.out).mono ?_
  rintro e w3 ⟨rfl, g3, hb3⟩
  generalize rounds ws 64 s = sR at hb3 hR
  have K3 := hid (K2.out.grown g3 (by simp; omega))
  have GR3 := hid ((below_grown (row := some g) B2.out).trans g3)
  have HB3 := hid hb3
  generalize w.heap.size = gb at K3 lg ⊢
  clear g3 hb3 K2 B2 HB2 GL2
  go_wp2_with (refine wpList_load_blk rfl 95 _ rfl gb rfl 95 _ K3.out _ _ Tryd.underlying95 EC.out ?_)
  have HB3' : Hid (Blk w3 g t (part pre ((addL (stL sR) (stL s) 0).map rv) post)) := by rw [addL_start]; exact HB3
  clear HB3 K3
  go_loopw [15] (fun i wr => ∃ m : Nat, m ≤ 8 ∧ i = .int .i64 (m : Int) ∧ Hid (w.grownBy wr (some g)) ∧ Hid (Blk wr g t (part pre ((addL (stL sR) (stL s) m).map rv) post))) (fun i _ => 8 - (intOf i).toNat)
  case atStart => exact ⟨0, by omega, rfl, GR3, HB3'⟩
  case round =>
    clear GR3 HB3'
    obtain ⟨m, hm, rfl, GR, HB⟩ := hrel
    by_cases hlt : m < 8
    · have hx : by32 (addL (stL sR) (stL s) m) m = by32 (stL sR) m := addL_at _ _ _ hlt
      have d1 := HB.out.cell (off + m) (v := .int .u32 ((by32 (stL sR) m).toNat : Int)) (by
        rw [← HO.out]; exact part_at (by rw [List.getElem?_map, by32_get (by rw [addL_length]; exact hlt), hx]; rfl))
      have f1 := HB.out.frozen (off + m)
      have hi := fun W => run_index_arr (P := Tryd.prog) 95 93 8 m .u32 (rcells (stL s)) (.int .u32 ((by32 (stL s) m).toNat : Int)) Tryd.underlying95 Tryd.underlying93 (by kernel_rfl) hlt (rcells_at (by32_get (by exact hlt))) W
      have HS3 := HB.out.set_ (off + m) (.int .u32 ((ad (by32 (stL sR) m) (by32 (stL s) m)).toNat : Int))
      rw [← HO.out, part_set _ _ _ _ _ (by rw [List.length_map, addL_length]; exact hlt)] at HS3
      rw [show Value.int .u32 ((ad (by32 (stL sR) m) (by32 (stL s) m)).toNat : Int) = rv (ad (by32 (stL sR) m) (by32 (stL s) m)) from rfl, ← List.map_set, addL_next _ _ _ hlt, HO.out] at HS3
      have HS4 := hid HS3; clear HS3 hx
      generalize by32 (stL sR) m = x1 at d1 HS4
      generalize by32 (stL s) m = x2 at hi HS4
      have q0 : (m : Int) < 8 := by omega
      have p0 : (0 : Int) ≤ (m : Int) := by omega
      go_wp2_with fail
      go_region
      clear d1 f1 q0 p0 hi
      go_wp2_with fail
      go_roundw
      case rel => exact ⟨m + 1, by omega, by go_num, (grown_drewN (GR.out.trans (grown_setCell _ g (off + m) _)) 1), HS4.out.drew⟩
      case measure => simp [intOf]; omega
    · obtain rfl : m = 8 := by omega
      have q0 : ¬ ((8 : Nat) : Int) < 8 := by omega
      go_wp2_with fail
      go_end0
      refine ⟨rfl, GR.out, ?_⟩
      have h := HB.out
      rw [addL_end, ← hR.out] at h
      exact h
end Go.Proofs.YtgacdimjbpkgoaaDoor
