/- Contract: the project's schedule: the 64 words of a block. -/
import Derived.Test.YtgacdimjbpkgoaaDoorOwnWord
import Derived.Test.YtgacdimjbpkgoaaDoorPart
import Derived.Test.YtgacdimjbpkgoaaDoorShaLists
import Derived.BigRegion
import Derived.BigQuiet
import Derived.Deep.QuietTactic
import Derived.Deep.RegionWith
namespace Go.Proofs.YtgacdimjbpkgoaaDoor
open Go.RowKit Crc
attribute [local go_sem] n_xor n_not n_not' n_bx n_shrk n_shr3 n_shr10 n_or n_and n_slk n_sl8 n_sl16 n_sl24 n_add n_addw

theorem infoW64 : (Tryd.prog.info? 134).map (fun i => (i.zero, i.size)) = some (some (.agg (rcells (zeroW 64))), 64) := by rw [rcells_zeros]; kernel_rfl

set_option maxHeartbeats 4000000 in
set_option maxRecDepth 100000 in
theorem sched_calls (B c : Nat) (A : Option Addr) (blk : List UInt8) (w : World) (hs : SB w B A 64 blk) (hc : 64 ≤ c) :
    Calls Tryd.prog 75 #[.slice A 64 c] w fun e w' => e = .returned (.agg (rcells (sched blk))) ∧ Below w.heap.size w w' := by
  obtain ⟨b, off, rfl, _, hcell⟩ := hs.2 (by omega)
  have hl := hs.1
  have hz64 := (zero_of_info infoW64).1
  have k4 := (Blk.new w 134 (rcells (zeroW 64))).alloc (.cells (rcells (zeroW 64)) 134)
  have k5 := Blk.new (w.alloc (.cells (rcells (zeroW 64)) 134)) 134 (rcells (zeroW 64))
  rw [size_new] at k5
  have hb : Below w.heap.size w ((w.alloc (.cells (rcells (zeroW 64)) 134)).alloc (.cells (rcells (zeroW 64)) 134)) :=
    (below_new w _).alloc (by rw [size_new]; omega) _
  have K4 := hid k4; have K5 := hid k5; have HB := hid hb
  have HL := hid hl
  have HC := hid hcell
  clear k4 k5 hb hs hl hcell
  go_enter Tryd.func75, Tryd.ntmps75
  go_wp2_with fail
  generalize (w.alloc (.cells (rcells (zeroW 64)) 134)).alloc (.cells (rcells (zeroW 64)) 134) = w3 at K4 K5 HB ⊢
  generalize hg : w.heap.size = g at K4 K5 HB ⊢
  have HG := hid hg; clear hg
  go_loopw [8] (fun i wr => ∃ k : Nat, k ≤ 16 ∧ i = .int .i64 (k : Int) ∧ Hid (Below g w wr) ∧ Hid (Blk wr g 134 (rcells (zeroW 64))) ∧ Hid (Blk wr (g + 1) 134 (rcells (wsOf blk k)))) (fun i _ => 16 - (intOf i).toNat)
  case atStart => exact ⟨0, by omega, rfl, HB, K4, K5⟩
  case round =>
    clear K4 K5 HB
    obtain ⟨k, hk, rfl, HB, K4, K5⟩ := hrel
    by_cases hlt : k < 16
    · --DEV
      have hx : ∀ j, j < 64 → wr.cell? ⟨b, off + j, none⟩ = some (.int .u8 ((by8 blk j).toNat : Int)) := fun j hj => by
        have h := HC.out j _ (by8_get (by rw [HL.out]; exact hj))
        have hb' : Below w.heap.size w wr := by rw [HG.out]; exact HB.out
        exact (hb'.cell (p := ⟨b, off + j, none⟩) (lt_of_cell h)).trans h
      have c0 := hx (4 * k) (by omega)
      have c1 := hx (4 * k + 1) (by omega)
      have c2 := hx (4 * k + 2) (by omega)
      have c3 := hx (4 * k + 3) (by omega)
      simp only [← Nat.add_assoc] at c1 c2 c3
      clear hx
      have m0 : IntKind.i64.wrap (4 * (k : Int)) = 4 * (k : Int) := IntWalk.i64_in _ (by omega)
      have p0 : (0 : Int) ≤ 4 * (k : Int) := by omega
      have q0 : 4 * (k : Int) ≤ 64 := by omega
      have r0 : (4 * (k : Int)).toNat = 4 * k := by omega
      have r1 : ¬ c = 4 * k := by omega
      have r2 : 4 * k ≤ 64 := by omega
      have r3 : 4 ≤ 64 - 4 * k := by omega
      have ha := fun W => run_arrayAt' (P := Tryd.prog) 141 5 4 (some ⟨b, off + 4 * k, none⟩) (64 - 4 * k) (c - 4 * k) Tryd.underlying141 r3 W
      go_wp2_with fail
      refine (word_calls _ _ _ _ _).mono ?_
      rintro e w2 ⟨rfl, b2⟩
      clear m0 p0 q0 r0 r1 r2 r3 c0 c1 c2 c3 ha
      have c5 := (K5.out.keep b2).cell k (rcells_at (by32_get (by rw [wsOf_length _ _ (by omega)]; omega)))
      have f5 := (K5.out.keep b2).frozen k
      have HW := hid ((K5.out.keep b2).set_ k (.int .u32 ((wordAt blk k).toNat : Int)))
      have K4b := hid (K4.out.keep b2)
      have l4 : g + 1 < wr.heap.size := K5.out.lt
      have HBb := hid (HB.out.trans (b2.mono (by omega)))
      clear b2 K4 K5 HB
      have hlt' : (k : Int) < 64 := by omega
      have hk0 : (0 : Int) ≤ (k : Int) := by omega
      go_wp2_with fail
      go_roundw
      case rel =>
        refine ⟨k + 1, by omega, by go_num, HBb.out.setCell (p := ⟨g + 1, k, none⟩) (by show g ≤ g + 1; omega) _, K4b.out.far (by show ¬ g = g + 1; omega) _, ?_⟩
        have h := HW.out
        rw [rcells_set, wsOf_next _ k (by omega)] at h
        exact h
      case measure => simp [intOf]; omega
      --VED
    · obtain rfl : k = 16 := by omega
      go_wp2_with fail
      go_loopw [5, 6, 7] (fun i _ _ wr => ∃ j : Nat, 16 ≤ j ∧ j ≤ 64 ∧ i = .int .i64 (j : Int) ∧ Hid (Below g w wr) ∧ Hid (Blk wr g 134 (rcells (zeroW 64))) ∧ Hid (Blk wr (g + 1) 134 (rcells (wjOf blk j)))) (fun i _ _ _ => 64 - (intOf i).toNat)
      case atStart => exact ⟨16, by omega, by omega, rfl, HB, K4, by rw [← wjOf_start]; exact K5⟩
      case round =>
        clear K4 K5 HB
        obtain ⟨j, hj16, hj, rfl, HB, K4, K5⟩ := hrel
        by_cases hlt : j < 64
        · --DEV
          have HW := hid (by32_get (l := wjOf blk j) (i := j) (by rw [wjOf_length _ _ hj16 hj]; omega))
          have c15 := K5.out.cell (j - 15) (rcells_at (by32_get (by rw [wjOf_length _ _ hj16 hj]; omega)))
          have m15 : IntKind.i64.wrap ((j : Int) - 15) = (j : Int) - 15 := IntWalk.i64_in _ (by omega)
          have p15 : (0 : Int) ≤ (j : Int) - 15 := by omega
          have q15 : (j : Int) - 15 < 64 := by omega
          have r15 : ((j : Int) - 15).toNat = j - 15 := by omega
          generalize hL15 : by32 (wjOf blk j) (j - 15) = x15 at c15
          have L15 := hid hL15; clear hL15
          go_wp2_with fail
          go_quiet ((first
            | (go_at_call_of 82 (Value.int IntKind.i64 7); exact Calls.quiet_of (quiet_turned (turned_7 x15 _)))
            | (go_at_call_of 82 (Value.int IntKind.i64 18); exact Calls.quiet_of (quiet_turned (turned_18 x15 _)))))
          clear c15 m15 p15 q15 r15
          obtain ⟨wa, ea, HBa, K4a, K5a⟩ : ∃ wa, wr.drewN nq = wa ∧ Hid (Below g w wa) ∧ Hid (Blk wa g 134 (rcells (zeroW 64))) ∧ Hid (Blk wa (g + 1) 134 (rcells (wjOf blk j))) :=
            ⟨_, rfl, ⟨HB.out.os, HB.out.tape, HB.out.output, HB.out.size, HB.out.block⟩, K4.out.drewN nq, K5.out.drewN nq⟩
          rw [ea]
          clear HB K4 K5 ea
          have c2 := K5a.out.cell (j - 2) (rcells_at (by32_get (by rw [wjOf_length _ _ hj16 hj]; omega)))
          have m2 : IntKind.i64.wrap ((j : Int) - 2) = (j : Int) - 2 := IntWalk.i64_in _ (by omega)
          have p2 : (0 : Int) ≤ (j : Int) - 2 := by omega
          have q2 : (j : Int) - 2 < 64 := by omega
          have r2 : ((j : Int) - 2).toNat = j - 2 := by omega
          generalize hL2 : by32 (wjOf blk j) (j - 2) = x2 at c2
          have L2 := hid hL2; clear hL2
          go_wp2_with fail
          go_quiet ((first
            | (go_at_call_of 82 (Value.int IntKind.i64 17); exact Calls.quiet_of (quiet_turned (turned_17 x2 _)))
            | (go_at_call_of 82 (Value.int IntKind.i64 19); exact Calls.quiet_of (quiet_turned (turned_19 x2 _)))))
          clear c2 m2 p2 q2 r2
          obtain ⟨wb, eb, HBb, K4b, K5b⟩ : ∃ wb, wa.drewN nq = wb ∧ Hid (Below g w wb) ∧ Hid (Blk wb g 134 (rcells (zeroW 64))) ∧ Hid (Blk wb (g + 1) 134 (rcells (wjOf blk j))) :=
            ⟨_, rfl, ⟨HBa.out.os, HBa.out.tape, HBa.out.output, HBa.out.size, HBa.out.block⟩, K4a.out.drewN nq, K5a.out.drewN nq⟩
          rw [eb]
          clear HBa K4a K5a eb
          have c16 := K5b.out.cell (j - 16) (rcells_at (by32_get (by rw [wjOf_length _ _ hj16 hj]; omega)))
          have c7 := K5b.out.cell (j - 7) (rcells_at (by32_get (by rw [wjOf_length _ _ hj16 hj]; omega)))
          have c5 := K5b.out.cell j (rcells_at HW.out)
          have f5 := K5b.out.frozen j
          have HS2 := hid (K5b.out.set_ j (.int .u32 ((ad (ad (ad (by32 (wjOf blk j) (j - 16)) (smallS (by32 (wjOf blk j) (j - 15)))) (by32 (wjOf blk j) (j - 7))) (smallT (by32 (wjOf blk j) (j - 2)))).toNat : Int)))
          have m16 : IntKind.i64.wrap ((j : Int) - 16) = (j : Int) - 16 := IntWalk.i64_in _ (by omega)
          have m7 : IntKind.i64.wrap ((j : Int) - 7) = (j : Int) - 7 := IntWalk.i64_in _ (by omega)
          have p16 : (0 : Int) ≤ (j : Int) - 16 := by omega
          have p7 : (0 : Int) ≤ (j : Int) - 7 := by omega
          have q16 : (j : Int) - 16 < 64 := by omega
          have q7 : (j : Int) - 7 < 64 := by omega
          have r16 : ((j : Int) - 16).toNat = j - 16 := by omega
          have r7 : ((j : Int) - 7).toNat = j - 7 := by omega
          have q0 : (j : Int) < 64 := by omega
          have p0 : (0 : Int) ≤ (j : Int) := by omega
          generalize hS : xr (xr (turnR 7 x15) (turnR 18 x15)) (sr 3 x15) = vS
          generalize hT : xr (xr (turnR 17 x2) (turnR 19 x2)) (sr 10 x2) = vT
          have HvS := hid hS; have HvT := hid hT; clear hS hT
          go_wp2_with fail
          go_region
          clear c16 c7 c5 f5 m16 m7 p16 p7 q16 q7 r16 r7 q0 p0
          go_wp2_with fail
          go_roundw
          case rel =>
            refine ⟨j + 1, by omega, by omega, by go_num, (HBb.out.setCell (p := ⟨g + 1, j, none⟩) (by show g ≤ g + 1; omega) _).drew, (K4b.out.far (by show ¬ g = g + 1; omega) _).drew, ?_⟩
            have h := HS2.out
            rw [rcells_set, wjOf_next _ _ hj16 hlt] at h
            rw [← HvS.out, ← HvT.out, ← L15.out, ← L2.out]
            exact h.drew
          case measure => simp [intOf]; omega
          --VED
        · obtain rfl : j = 64 := by omega
          have k5 := K5.out
          rw [wjOf_end] at k5
          have e64 : (sched blk).length = 64 := by rw [← wjOf_end, wjOf_length _ _ (by omega) (by omega)]
          generalize hC : sched blk = lC at k5 e64
          have HCe := hid hC; clear hC
          have EC : Hid ((Tryd.prog.info? 134).map (·.size) = some (rcells lC).size) := by rw [Hid, rcells_size, e64]; exact (zero_of_info infoW64).2
          have Hsz : Hid ((rcells (zeroW 64)).size = (rcells lC).size) := by rw [Hid, rcells_size, rcells_size, e64, zeroW_length]
          clear e64
          go_wp2_with (first
            | (refine wpList_load_blk rfl 134 _ rfl (g + 1) rfl 134 _ k5 _ _ Tryd.underlying134 EC.out ?_)
            | (refine wpList_store_blk rfl 134 _ _ rfl g _ rfl rfl 134 _ K4.out EC.out Hsz.out (rcells_oneCell _) ?_))
          refine bodyPost_ret (v := .agg (rcells lC)) (results_cell_row rfl _ _ g 134 _ (0, 0) _ rfl (K4.out.setRow _) Tryd.underlying134 rfl EC.out) rfl ⟨by rw [HCe.out], ?_⟩
          rw [HG.out]
          exact HB.out.trans (below_of_grown (grown_setRow wr g _) (by have := K4.out.lt; omega) (fun g' e => by cases e; omega))
end Go.Proofs.YtgacdimjbpkgoaaDoor
