/- Contract: the reference's block. -/
import Derived.Test.YtajojeajibonpaaDoorShaKeys
import Derived.Test.YtajojeajibonpaaDoorShaTurn
import Derived.Test.YtajojeajibonpaaDoorShaLists
import Derived.BigRegion
import Derived.BigQuiet
import Derived.Deep.QuietTactic
import Derived.Deep.RegionWith
namespace Go.Proofs.YtajojeajibonpaaDoor
open Go.RowKit Crc
attribute [local go_sem] n_xor n_not n_not' n_bx n_shrk n_shr3 n_shr10 n_or n_and n_slk n_sl8 n_sl16 n_sl24 n_add n_addw

theorem info56 : (Tryd.prog.info? 41).map (fun i => (i.zero, i.size)) = some (some (.agg (rcells (zeroW 8))), 8) := by rw [rcells_zeros]; kernel_rfl

set_option maxHeartbeats 8000000 in
set_option maxRecDepth 100000 in
theorem block_calls (s : St) (B c : Nat) (A : Option Addr) (blk : List UInt8) (w : World) (hs : SB w B A 64 blk) :
    Calls Tryd.prog 37 #[.agg (rcells (stL s)), .slice A 64 c] w fun e w' => e = .returned (.agg (rcells (stL (blockR s blk)))) ∧ Below w.heap.size w w' := by
  obtain ⟨b, off, rfl, _, hcell⟩ := hs.2 (by omega)
  have hl := hs.1
  have hz8 := (zero_of_info info56).1
  have hz64 := (zero_of_info info60).1
  have k2 := hid (((Blk.new w 41 (rcells (stL s))).alloc (.cells (rcells (zeroW 8)) 41)).alloc (.cells (rcells (zeroW 64)) 70))
  have k4 := ((Blk.new (w.alloc (.cells (rcells (stL s)) 41)) 41 (rcells (zeroW 8))).alloc (.cells (rcells (zeroW 64)) 70))
  have k5 := Blk.new ((w.alloc (.cells (rcells (stL s)) 41)).alloc (.cells (rcells (zeroW 8)) 41)) 70 (rcells (zeroW 64))
  rw [size_new] at k4 k5
  rw [size_new] at k5
  have hb : Below w.heap.size w (((w.alloc (.cells (rcells (stL s)) 41)).alloc (.cells (rcells (zeroW 8)) 41)).alloc (.cells (rcells (zeroW 64)) 70)) :=
    ((below_new w _).alloc (by rw [size_new]; omega) _).alloc (by rw [size_new, size_new]; omega) _
  have K4 := hid k4; have K5 := hid k5; have HB := hid hb
  have HS := hid hs; have HL := hid hl
  have HC := hid hcell
  clear k4 k5 hb hs hl hcell
  go_enter Tryd.func37, Tryd.ntmps37
  go_wp2_with fail
  generalize ((w.alloc (.cells (rcells (stL s)) 41)).alloc (.cells (rcells (zeroW 8)) 41)).alloc (.cells (rcells (zeroW 64)) 70) = w3 at k2 K4 K5 HB ⊢
  generalize hg : w.heap.size = g at k2 K4 K5 HB ⊢
  have HG := hid hg; clear hg
  go_loopw [6] (fun i wr => ∃ k : Nat, k ≤ 16 ∧ i = .int .i64 (k : Int) ∧ Below g w wr ∧ Blk wr g 41 (rcells (stL s)) ∧ Blk wr (g + 1) 41 (rcells (zeroW 8)) ∧ Blk wr (g + 1 + 1) 70 (rcells (wsOf blk k))) (fun i _ => 16 - (intOf i).toNat)
  case atStart => exact ⟨0, by omega, rfl, HB.out, k2.out, K4.out, K5.out⟩
  case round =>
    clear k2 K4 K5 HB
    obtain ⟨k, hk, rfl, hb, hk2, hk4, hk5⟩ := hrel
    by_cases hlt : k < 16
    · --DEV
      have hx : ∀ j, j < 64 → wr.cell? ⟨b, off + j, none⟩ = some (.int .u8 ((by8 blk j).toNat : Int)) := fun j hj => by
        have h := HC.out j _ (by8_get (by rw [HL.out]; exact hj))
        have hb' : Below w.heap.size w wr := by rw [HG.out]; exact hb
        exact (hb'.cell (p := ⟨b, off + j, none⟩) (lt_of_cell h)).trans h
      have c0 := hx (4 * k) (by omega)
      have c1 := hx (4 * k + 1) (by omega)
      have c2 := hx (4 * k + 2) (by omega)
      have c3 := hx (4 * k + 3) (by omega)
      have c5 := hk5.cell k (rcells_at (by32_get (by rw [wsOf_length _ _ (by omega)]; omega)))
      have f5 := hk5.frozen k
      clear hx
      have HB := hid hb; have K2 := hid hk2; have K4 := hid hk4; have K5 := hid hk5
      clear hb hk2 hk4 hk5
      have m0 : IntKind.i64.wrap (4 * (k : Int)) = 4 * (k : Int) := IntWalk.i64_in _ (by omega)
      have m1 : IntKind.i64.wrap (4 * (k : Int) + 1) = 4 * (k : Int) + 1 := IntWalk.i64_in _ (by omega)
      have m2 : IntKind.i64.wrap (4 * (k : Int) + 2) = 4 * (k : Int) + 2 := IntWalk.i64_in _ (by omega)
      have m3 : IntKind.i64.wrap (4 * (k : Int) + 3) = 4 * (k : Int) + 3 := IntWalk.i64_in _ (by omega)
      have p0 : (0 : Int) ≤ 4 * (k : Int) := by omega
      have p1 : (0 : Int) ≤ 4 * (k : Int) + 1 := by omega
      have p2 : (0 : Int) ≤ 4 * (k : Int) + 2 := by omega
      have p3 : (0 : Int) ≤ 4 * (k : Int) + 3 := by omega
      have q0 : 4 * (k : Int) < 64 := by omega
      have q1 : 4 * (k : Int) + 1 < 64 := by omega
      have q2 : 4 * (k : Int) + 2 < 64 := by omega
      have q3 : 4 * (k : Int) + 3 < 64 := by omega
      have r0 : (4 * (k : Int)).toNat = 4 * k := by omega
      have r1 : (4 * (k : Int) + 1).toNat = 4 * k + 1 := by omega
      have r2 : (4 * (k : Int) + 2).toNat = 4 * k + 2 := by omega
      have r3 : (4 * (k : Int) + 3).toNat = 4 * k + 3 := by omega
      have hlt' : (k : Int) < 64 := by omega
      have hk0 : (0 : Int) ≤ (k : Int) := by omega
      go_wp2_with fail
      have HW := hid (K5.out.set_ k (.int .u32 ((wordAt blk k).toNat : Int)))
      go_region
      clear m0 m1 m2 m3 p0 p1 p2 p3 q0 q1 q2 q3 r0 r1 r2 r3 c0 c1 c2 c3 c5 f5
      go_wp2_with fail
      go_roundw
      case rel =>
        refine ⟨k + 1, by omega, by go_num, (HB.out.setCell (p := ⟨g + 1 + 1, k, none⟩) (by show g ≤ g + 1 + 1; omega) _).drew, (K2.out.far (by show ¬ g = g + 1 + 1; omega) _).drew, (K4.out.far (by show ¬ g + 1 = g + 1 + 1; omega) _).drew, ?_⟩
        have h := HW.out
        rw [rcells_set, wsOf_next _ k (by omega)] at h
        exact h
      case measure => simp [intOf]; omega
      --VED
    · obtain rfl : k = 16 := by omega
      have HB := hid hb; have K2 := hid hk2; have K4 := hid hk4; have K5 := hid hk5
      clear hb hk2 hk4 hk5
      go_wp2_with fail
      go_loopw [7, 8, 9] (fun i _ _ wr => ∃ j : Nat, 16 ≤ j ∧ j ≤ 64 ∧ i = .int .i64 (j : Int) ∧ Below g w wr ∧ Blk wr g 41 (rcells (stL s)) ∧ Blk wr (g + 1) 41 (rcells (zeroW 8)) ∧ Blk wr (g + 1 + 1) 70 (rcells (wjOf blk j))) (fun i _ _ _ => 64 - (intOf i).toNat)
      case atStart => exact ⟨16, by omega, by omega, rfl, HB.out, K2.out, K4.out, by rw [← wjOf_start]; exact K5.out⟩
      case round =>
        clear K2 K4 K5 HB
        obtain ⟨j, hj16, hj, rfl, hb, hk2, hk4, hk5⟩ := hrel
        by_cases hlt : j < 64
        · --DEV
          have HW := hid (by32_get (l := wjOf blk j) (i := j) (by rw [wjOf_length _ _ hj16 hj]; omega))
          have c15 := hk5.cell (j - 15) (rcells_at (by32_get (by rw [wjOf_length _ _ hj16 hj]; omega)))
          have HB := hid hb; have K2 := hid hk2; have K4 := hid hk4; have K5 := hid hk5
          clear hb hk2 hk4 hk5
          have m15 : IntKind.i64.wrap ((j : Int) - 15) = (j : Int) - 15 := IntWalk.i64_in _ (by omega)
          have p15 : (0 : Int) ≤ (j : Int) - 15 := by omega
          have q15 : (j : Int) - 15 < 64 := by omega
          have r15 : ((j : Int) - 15).toNat = j - 15 := by omega
          generalize hL15 : by32 (wjOf blk j) (j - 15) = x15 at c15
          have L15 := hid hL15; clear hL15
          go_wp2_with fail
          go_quiet ((first
            | (go_at_call_of 44 (Value.int IntKind.i64 7); exact Calls.quiet_of (turn_7 x15 _))
            | (go_at_call_of 44 (Value.int IntKind.i64 18); exact Calls.quiet_of (turn_18 x15 _))))
          clear c15 m15 p15 q15 r15
          obtain ⟨wa, ea, HBa, K2a, K4a, K5a⟩ : ∃ wa, wr.drewN nq = wa ∧ Hid (Below g w wa) ∧ Hid (Blk wa g 41 (rcells (stL s))) ∧ Hid (Blk wa (g + 1) 41 (rcells (zeroW 8))) ∧ Hid (Blk wa (g + 1 + 1) 70 (rcells (wjOf blk j))) :=
            ⟨_, rfl, ⟨HB.out.os, HB.out.tape, HB.out.output, HB.out.size, HB.out.block⟩, K2.out.drewN nq, K4.out.drewN nq, K5.out.drewN nq⟩
          rw [ea]
          clear HB K2 K4 K5 ea
          have c2 := K5a.out.cell (j - 2) (rcells_at (by32_get (by rw [wjOf_length _ _ hj16 hj]; omega)))
          have m2 : IntKind.i64.wrap ((j : Int) - 2) = (j : Int) - 2 := IntWalk.i64_in _ (by omega)
          have p2 : (0 : Int) ≤ (j : Int) - 2 := by omega
          have q2 : (j : Int) - 2 < 64 := by omega
          have r2 : ((j : Int) - 2).toNat = j - 2 := by omega
          generalize hL2 : by32 (wjOf blk j) (j - 2) = x2 at c2
          have L2 := hid hL2; clear hL2
          go_wp2_with fail
          go_quiet ((first
            | (go_at_call_of 44 (Value.int IntKind.i64 17); exact Calls.quiet_of (turn_17 x2 _))
            | (go_at_call_of 44 (Value.int IntKind.i64 19); exact Calls.quiet_of (turn_19 x2 _))))
          clear c2 m2 p2 q2 r2
          obtain ⟨wb, eb, HBb, K2b, K4b, K5b⟩ : ∃ wb, wa.drewN nq = wb ∧ Hid (Below g w wb) ∧ Hid (Blk wb g 41 (rcells (stL s))) ∧ Hid (Blk wb (g + 1) 41 (rcells (zeroW 8))) ∧ Hid (Blk wb (g + 1 + 1) 70 (rcells (wjOf blk j))) :=
            ⟨_, rfl, ⟨HBa.out.os, HBa.out.tape, HBa.out.output, HBa.out.size, HBa.out.block⟩, K2a.out.drewN nq, K4a.out.drewN nq, K5a.out.drewN nq⟩
          rw [eb]
          clear HBa K2a K4a K5a eb
          have c16 := K5b.out.cell (j - 16) (rcells_at (by32_get (by rw [wjOf_length _ _ hj16 hj]; omega)))
          have c7 := K5b.out.cell (j - 7) (rcells_at (by32_get (by rw [wjOf_length _ _ hj16 hj]; omega)))
          have c5 := K5b.out.cell j (rcells_at HW.out)
          have f5 := K5b.out.frozen j
          have HS2 := hid (K5b.out.set_ j (.int .u32 ((ad (ad (ad (by32 (wjOf blk j) (j - 16)) (smallS (by32 (wjOf blk j) (j - 15)))) (by32 (wjOf blk j) (j - 7))) (smallT (by32 (wjOf blk j) (j - 2)))).toNat : Int)))
          have m16 : IntKind.i64.wrap ((j : Int) - 16) = (j : Int) - 16 := IntWalk.i64_in _ (by omega)
          have m7 : IntKind.i64.wrap ((j : Int) - 7) = (j : Int) - 7 := IntWalk.i64_in _ (by omega)
          have p16 : (0 : Int) ≤ (j : Int) - 16 := by omega
          have p7 : (0 : Int) ≤ (j : Int) - 7 := by omega
          have q16 : (j : Int) - 16 < 64 := by omega
          have q7 : (j : Int) - 7 < 64 := by omega
          have r16 : ((j : Int) - 16).toNat = j - 16 := by omega
          have r7 : ((j : Int) - 7).toNat = j - 7 := by omega
          have q0 : (j : Int) < 64 := by omega
          have p0 : (0 : Int) ≤ (j : Int) := by omega
          generalize hS : xr (xr (turnR 7 x15) (turnR 18 x15)) (sr 3 x15) = vS
          generalize hT : xr (xr (turnR 17 x2) (turnR 19 x2)) (sr 10 x2) = vT
          have HvS := hid hS; have HvT := hid hT; clear hS hT
          go_wp2_with fail
          go_region
          clear c16 c7 c5 f5 m16 m7 p16 p7 q16 q7 r16 r7 q0 p0
          go_wp2_with fail
          go_roundw
          case rel =>
            refine ⟨j + 1, by omega, by omega, by go_num, (HBb.out.setCell (p := ⟨g + 1 + 1, j, none⟩) (by show g ≤ g + 1 + 1; omega) _).drew, (K2b.out.far (by show ¬ g = g + 1 + 1; omega) _).drew, (K4b.out.far (by show ¬ g + 1 = g + 1 + 1; omega) _).drew, ?_⟩
            have h := HS2.out
            rw [rcells_set, wjOf_next _ _ hj16 hlt] at h
            rw [← HvS.out, ← HvT.out, ← L15.out, ← L2.out]
            exact h.drew
          case measure => simp [intOf]; omega
          --VED
        · obtain rfl : j = 64 := by omega
          rw [wjOf_end] at hk5
          have i8 : ∀ l : List R, l.length = 8 → Hid ((Tryd.prog.info? 41).map (·.size) = some (rcells l).size) := fun l h => by rw [rcells_size, h]; exact (zero_of_info info56).2
          have i64 : ∀ l : List R, l.length = 64 → Hid ((Tryd.prog.info? 70).map (·.size) = some (rcells l).size) := fun l h => by rw [rcells_size, h]; exact (zero_of_info info60).2
          have I8 := hid i8; have I64 := hid i64; clear i8 i64
          have HB := hid hb; have K4 := hid hk4; have K5 := hid hk5
          have k10 := Blk.new wr 41 (rcells (zeroW 8))
          clear hb hk4 hk5
          go_wp2_with (first
            | (refine wpList_load_blk rfl 41 _ rfl g rfl 41 _ hk2 _ _ Tryd.underlying41 (I8.out (stL s) rfl).out ?_)
            | (refine wpList_store_blk rfl 41 _ _ rfl wr.heap.size _ rfl rfl 41 _ k10 (I8.out (stL s) rfl).out rfl (rcells_oneCell _) ?_))
          have k10' := k10.setRow (rcells (stL s))
          have gr : ∀ t, wr.grownBy ((wr.alloc (.cells (rcells (zeroW 8)) t)).setRow wr.heap.size (rcells (stL s))) none := fun t =>
            grown_of_below ((below_new wr _).trans (below_of_grown (grown_setRow _ wr.heap.size _) (by rw [size_new]; omega) (fun g e => by cases e; exact Nat.le_refl _))) none
          obtain ⟨wc, ec, hk10, grc⟩ : ∃ wc, (wr.alloc (.cells (rcells (zeroW 8)) 41)).setRow wr.heap.size (rcells (stL s)) = wc ∧ Blk wc wr.heap.size 41 (rcells (stL s)) ∧ wr.grownBy wc none := ⟨_, rfl, k10', gr _⟩
          rw [ec]
          have K2c := hk2.grown grc (by simp)
          have K4c := K4.out.grown grc (by simp)
          have K5c := K5.out.grown grc (by simp)
          have l10 : g + 1 + 1 < wr.heap.size := K5.out.lt
          have HBc := HB.out.trans (below_of_grown grc (by omega) (fun g e => by cases e))
          clear k10 k10' gr ec grc hk2 K4 K5 HB
          generalize wr.heap.size = g10 at hk10 l10 ⊢
          go_wp2_with fail
          refine (keys_calls _).mono ?_
          rintro e wd ⟨rfl, hbd⟩
          have k11 := Blk.new wd 70 (rcells (zeroW 64))
          have K2d := hid (K2c.keep hbd)
          have K4d := hid (K4c.keep hbd)
          have K5d := hid (K5c.keep hbd)
          have k10d := hk10.keep hbd
          have K10d := hid k10d
          have HBd := hid (HBc.trans (hbd.mono (Nat.le_of_lt K2c.lt)))
          clear hbd K2c K4c K5c hk10 HBc k10d
          go_wp2_with (refine wpList_store_blk rfl 70 _ _ rfl wd.heap.size _ rfl rfl 70 _ k11 (I64.out keyList rfl).out rfl (rcells_oneCell _) ?_)
          have gr : ∀ t, wd.grownBy ((wd.alloc (.cells (rcells (zeroW 64)) t)).setRow wd.heap.size (rcells keyList)) none := fun t =>
            grown_of_below ((below_new wd _).trans (below_of_grown (grown_setRow _ wd.heap.size _) (by rw [size_new]; omega) (fun g e => by cases e; exact Nat.le_refl _))) none
          obtain ⟨we, ee, hk11, gre⟩ : ∃ we, (wd.alloc (.cells (rcells (zeroW 64)) 70)).setRow wd.heap.size (rcells keyList) = we ∧ Blk we wd.heap.size 70 (rcells keyList) ∧ wd.grownBy we none := ⟨_, rfl, k11.setRow _, gr _⟩
          rw [ee]
          have K2e := hid (K2d.out.grown gre (by simp))
          have K4e := hid (K4d.out.grown gre (by simp))
          have K5e := hid (K5d.out.grown gre (by simp))
          have K10e := hid (K10d.out.grown gre (by simp))
          have l11 : g10 < wd.heap.size := K10d.out.lt
          have HBe := hid (HBd.out.trans (below_of_grown gre (by omega) (fun g e => by cases e)))
          have K11e := hid hk11
          clear k11 gr ee gre K2d K4d K5d K10d HBd hk11 hz8 hz64
          generalize wd.heap.size = g11 at K11e l11 ⊢
          go_wp2_with fail
          go_loopw [12, 13, 14] (fun i _ _ wr => ∃ k : Nat, k ≤ 64 ∧ i = .int .i64 (k : Int) ∧ Hid (Below g w wr) ∧ Hid (Blk wr g 41 (rcells (stL s))) ∧ Hid (Blk wr (g + 1) 41 (rcells (zeroW 8))) ∧ Hid (Blk wr (g + 1 + 1) 70 (rcells (sched blk))) ∧ Hid (Blk wr g10 41 (rcells (stL (rounds (sched blk) k s)))) ∧ Hid (Blk wr g11 70 (rcells keyList))) (fun i _ _ _ => 64 - (intOf i).toNat)
          case atStart => exact ⟨0, by omega, rfl, HBe, K2e, K4e, K5e, K10e, K11e⟩
          case round =>
            clear HBe K2e K4e K5e K10e K11e
            obtain ⟨k, hk, rfl, HB, K2, K4, K5, K10, K11⟩ := hrel
            by_cases hlt : k < 64
            · --DEV
              have Hn := hid (show rounds (sched blk) (k + 1) s = rnd (by32 keyList k) (by32 (sched blk) k) (rounds (sched blk) k s) from rfl)
              have ck := K11.out.cell k (rcells_at (by32_get (by exact hlt)))
              have cw := K5.out.cell k (rcells_at (by32_get (by rw [← wjOf_end, wjOf_length _ _ (by omega) (by omega)]; exact hlt)))
              generalize by32 keyList k = kk at ck Hn
              generalize by32 (sched blk) k = wk at cw Hn
              generalize hst : rounds (sched blk) k s = st at K10 Hn
              have HST := hid hst; clear hst
              obtain ⟨sa, sb, sc, sd, se, sf, sg, sh'⟩ := st
              have d0 := K10.out.cell 0 (v := .int .u32 (sa.toNat : Int)) rfl
              have d1 := K10.out.cell 1 (v := .int .u32 (sb.toNat : Int)) rfl
              have d2 := K10.out.cell 2 (v := .int .u32 (sc.toNat : Int)) rfl
              have d3 := K10.out.cell 3 (v := .int .u32 (sd.toNat : Int)) rfl
              have d4 := K10.out.cell 4 (v := .int .u32 (se.toNat : Int)) rfl
              have d5 := K10.out.cell 5 (v := .int .u32 (sf.toNat : Int)) rfl
              have d6 := K10.out.cell 6 (v := .int .u32 (sg.toNat : Int)) rfl
              have d7 := K10.out.cell 7 (v := .int .u32 (sh'.toNat : Int)) rfl
              have q0 : (k : Int) < 64 := by omega
              have p0 : (0 : Int) ≤ (k : Int) := by omega
              go_wp2_with fail
              go_quiet ((first
                | (go_at_call_of 44 (Value.int IntKind.i64 6); exact Calls.quiet_of (turn_6 se _))
                | (go_at_call_of 44 (Value.int IntKind.i64 11); exact Calls.quiet_of (turn_11 se _))
                | (go_at_call_of 44 (Value.int IntKind.i64 25); exact Calls.quiet_of (turn_25 se _))))
              clear ck cw
              go_wp2_with fail
              obtain ⟨wa, ea, HBa, K2a, K4a, K5a, K10a, K11a⟩ : ∃ wa, wr.drewN nq = wa ∧ Hid (Below g w wa) ∧ Hid (Blk wa g 41 (rcells (stL s))) ∧ Hid (Blk wa (g + 1) 41 (rcells (zeroW 8))) ∧ Hid (Blk wa (g + 1 + 1) 70 (rcells (sched blk))) ∧ Hid (Blk wa g10 41 (rcells (stL ⟨sa, sb, sc, sd, se, sf, sg, sh'⟩))) ∧ Hid (Blk wa g11 70 (rcells keyList)) :=
                ⟨_, rfl, ⟨HB.out.os, HB.out.tape, HB.out.output, HB.out.size, HB.out.block⟩, K2.out.drewN nq, K4.out.drewN nq, K5.out.drewN nq, K10.out.drewN nq, K11.out.drewN nq⟩
              rw [ea, n_add4]
              clear HB K2 K4 K5 K10 K11 d0 d1 d2 d3 d4 d5 d6 d7 ea
              have d0 := K10a.out.cell 0 (v := .int .u32 (sa.toNat : Int)) rfl
              have d1 := K10a.out.cell 1 (v := .int .u32 (sb.toNat : Int)) rfl
              have d2 := K10a.out.cell 2 (v := .int .u32 (sc.toNat : Int)) rfl
              have d3 := K10a.out.cell 3 (v := .int .u32 (sd.toNat : Int)) rfl
              have d4 := K10a.out.cell 4 (v := .int .u32 (se.toNat : Int)) rfl
              have d5 := K10a.out.cell 5 (v := .int .u32 (sf.toNat : Int)) rfl
              have d6 := K10a.out.cell 6 (v := .int .u32 (sg.toNat : Int)) rfl
              generalize hX : ad (ad (ad (ad sh' (xr (xr (turnR 6 se) (turnR 11 se)) (turnR 25 se))) (xr (an se sf) (an (nt se) sg))) kk) wk = vX
              have HX := hid hX; clear hX
              go_quiet ((first
                | (go_at_call_of 44 (Value.int IntKind.i64 2); exact Calls.quiet_of (turn_2 sa _))
                | (go_at_call_of 44 (Value.int IntKind.i64 13); exact Calls.quiet_of (turn_13 sa _))
                | (go_at_call_of 44 (Value.int IntKind.i64 22); exact Calls.quiet_of (turn_22 sa _))))
              obtain ⟨wb, eb, HBb, K2b, K4b, K5b, K10b, K11b⟩ : ∃ wb, wa.drewN nq = wb ∧ Hid (Below g w wb) ∧ Hid (Blk wb g 41 (rcells (stL s))) ∧ Hid (Blk wb (g + 1) 41 (rcells (zeroW 8))) ∧ Hid (Blk wb (g + 1 + 1) 70 (rcells (sched blk))) ∧ Blk wb g10 41 (rcells (stL ⟨sa, sb, sc, sd, se, sf, sg, sh'⟩)) ∧ Hid (Blk wb g11 70 (rcells keyList)) :=
                ⟨_, rfl, ⟨HBa.out.os, HBa.out.tape, HBa.out.output, HBa.out.size, HBa.out.block⟩, K2a.out.drewN nq, K4a.out.drewN nq, K5a.out.drewN nq, K10a.out.drewN nq, K11a.out.drewN nq⟩
              rw [eb]
              clear HBa K2a K4a K5a K10a K11a d0 d1 d2 d3 d4 d5 d6 eb
              have d0 := K10b.cell 0 (v := .int .u32 (sa.toNat : Int)) rfl
              have d1 := K10b.cell 1 (v := .int .u32 (sb.toNat : Int)) rfl
              have d2 := K10b.cell 2 (v := .int .u32 (sc.toNat : Int)) rfl
              have d3 := K10b.cell 3 (v := .int .u32 (sd.toNat : Int)) rfl
              have d4 := K10b.cell 4 (v := .int .u32 (se.toNat : Int)) rfl
              have d5 := K10b.cell 5 (v := .int .u32 (sf.toNat : Int)) rfl
              have d6 := K10b.cell 6 (v := .int .u32 (sg.toNat : Int)) rfl
              generalize hY : ad (xr (xr (turnR 2 sa) (turnR 13 sa)) (turnR 22 sa)) (xr (xr (an sa sb) (an sa sc)) (an sb sc)) = vY
              have HY := hid hY; clear hY
              have e8 := (I8.out (stL ⟨ad vX vY, sa, sb, sc, ad sd vX, se, sf, sg⟩) rfl)
              go_wp2_with (refine wpList_store_blk rfl 41 _ _ rfl g10 (rcells (stL ⟨ad vX vY, sa, sb, sc, ad sd vX, se, sf, sg⟩)) rfl rfl 41 _ K10b e8.out rfl (rcells_oneCell _) ?_)
              go_roundw
              case rel =>
                have gs := grown_setRow wb g10 (rcells (stL ⟨ad vX vY, sa, sb, sc, ad sd vX, se, sf, sg⟩))
                refine ⟨k + 1, by omega, by go_num, HBb.out.trans (below_of_grown gs (by have := K10b.lt; omega) (fun g' e => by cases e; omega)), K2b.out.grown gs (by simp; omega), K4b.out.grown gs (by simp; omega), K5b.out.grown gs (by simp; omega), ?_, K11b.out.grown gs (by simp; omega)⟩
                rw [Hn.out]
                have h := K10b.setRow (rcells (stL ⟨ad vX vY, sa, sb, sc, ad sd vX, se, sf, sg⟩))
                rw [← HX.out, ← HY.out] at h ⊢
                exact h
              case measure => simp [intOf]; omega
              --VED
            · obtain rfl : k = 64 := by omega
              generalize hR : rounds (sched blk) 64 s = sR at K10
              have HR : Hid (blockR s blk = addSt sR s) := by unfold blockR; rw [hR]; exact rfl
              clear hR
              have K10' : Hid (Blk wr g10 41 (rcells (addL (stL sR) (stL s) 0))) := by rw [addL_start]; exact K10
              clear K10
              go_wp2_with fail
              go_loopw [15] (fun i wr => ∃ m : Nat, m ≤ 8 ∧ i = .int .i64 (m : Int) ∧ Hid (Below g w wr) ∧ Hid (Blk wr g 41 (rcells (stL s))) ∧ Hid (Blk wr (g + 1) 41 (rcells (zeroW 8))) ∧ Hid (Blk wr g10 41 (rcells (addL (stL sR) (stL s) m)))) (fun i _ => 8 - (intOf i).toNat)
              case atStart => exact ⟨0, by omega, rfl, HB, K2, K4, K10'⟩
              case round =>
                clear HB K2 K4 K5 K10' K11
                obtain ⟨m, hm, rfl, HB, K2, K4, K10⟩ := hrel
                by_cases hlt : m < 8
                · have d1 := K10.out.cell m (rcells_at (by32_get (by rw [addL_length]; exact hlt)))
                  rw [addL_at _ _ _ hlt] at d1
                  have d2 := K2.out.cell m (rcells_at (by32_get (by exact hlt)))
                  have f1 := K10.out.frozen m
                  have HS3 := hid (K10.out.set_ m (.int .u32 ((ad (by32 (stL sR) m) (by32 (stL s) m)).toNat : Int)))
                  have q0 : (m : Int) < 8 := by omega
                  have p0 : (0 : Int) ≤ (m : Int) := by omega
                  go_wp2_with fail
                  go_region
                  clear d1 d2 f1 q0 p0
                  go_wp2_with fail
                  go_roundw
                  case rel =>
                    refine ⟨m + 1, by omega, by go_num, (HB.out.setCell (p := ⟨g10, m, none⟩) (by show g ≤ g10; omega) _).drew, (K2.out.far (by show ¬ g = g10; omega) _).drew, (K4.out.far (by show ¬ g + 1 = g10; omega) _).drew, ?_⟩
                    have h := HS3.out
                    rw [rcells_set, addL_next _ _ _ hlt] at h
                    exact h.drew
                  case measure => simp [intOf]; omega
                · obtain rfl : m = 8 := by omega
                  have k10 := K10.out
                  rw [addL_end, ← HR.out] at k10
                  have k4 := K4.out
                  have e8 : (stL (blockR s blk)).length = 8 := rfl
                  generalize hC : stL (blockR s blk) = lC at k10 e8
                  have HCe := hid hC; clear hC
                  have EC := I8.out lC e8
                  have Hsz : Hid ((rcells (zeroW 8)).size = (rcells lC).size) := by rw [Hid, rcells_size, rcells_size, e8, zeroW_length]
                  clear e8
                  go_wp2_with (first
                    | (refine wpList_load_blk rfl 41 _ rfl g10 rfl 41 _ k10 _ _ Tryd.underlying41 EC.out ?_)
                    | (refine wpList_store_blk rfl 41 _ _ rfl (g + 1) _ rfl rfl 41 _ k4 EC.out Hsz.out (rcells_oneCell _) ?_))
                  refine bodyPost_ret (v := .agg (rcells lC)) (results_cell_row rfl _ _ (g + 1) 41 _ (0, 0) _ rfl (k4.setRow _) Tryd.underlying41 rfl EC.out) rfl ⟨by rw [HCe.out], ?_⟩
                  rw [HG.out]
                  exact HB.out.trans (below_of_grown (grown_setRow wr (g + 1) _) (by have := k4.lt; omega) (fun g' e => by cases e; omega))
end Go.Proofs.YtajojeajibonpaaDoor
