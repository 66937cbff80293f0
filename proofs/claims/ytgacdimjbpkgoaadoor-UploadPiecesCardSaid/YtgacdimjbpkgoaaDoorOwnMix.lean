/- Contract: the project's mix: 64 rounds on eight words in memory. -/
import Derived.Test.YtgacdimjbpkgoaaDoorOwnSched
namespace Go.Proofs.YtgacdimjbpkgoaaDoor
open Go.RowKit Crc
attribute [local go_sem] n_xor n_not n_not' n_bx n_shrk n_or n_and n_add n_addw

/-- the two tables of the package, as its text lays them -/
def Glob (w : World) : Prop := (∀ i x, keyList[i]? = some x → w.cell? ⟨1, i, none⟩ = some (rv x)) ∧ (∀ i x, (stL st0)[i]? = some x → w.cell? ⟨0, i, none⟩ = some (rv x))
theorem Glob.keep {w w' : World} (h : Glob w) (hb : Below w.heap.size w w') : Glob w' :=
  ⟨fun i x hx => (hb.cell (p := ⟨1, i, none⟩) (lt_of_cell (h.1 i x hx))).trans (h.1 i x hx), fun i x hx => (hb.cell (p := ⟨0, i, none⟩) (lt_of_cell (h.2 i x hx))).trans (h.2 i x hx)⟩
theorem Glob.grown {w w' : World} {g : Nat} (h : Glob w) (hb : w.grownBy w' (some g)) (hg : 1 < g) : Glob w' :=
  ⟨fun i x hx => (World.cell?_of_block (hb.block 1 (lt_of_cell (h.1 i x hx)) (fun e => by cases e; omega))).trans (h.1 i x hx),
   fun i x hx => (World.cell?_of_block (hb.block 0 (lt_of_cell (h.2 i x hx)) (fun e => by cases e; omega))).trans (h.2 i x hx)⟩
theorem Glob.drewN {w : World} (h : Glob w) (n : Nat) : Glob (w.drewN n) := h
theorem Glob.lt {w : World} (h : Glob w) : 1 < w.heap.size := lt_of_cell (h.1 0 _ rfl)

theorem infoWords : (Tryd.prog.info? 95).map (·.size) = some 8 := by kernel_rfl
theorem below_grown {w w' : World} {row : Option Nat} (h : Below w.heap.size w w') : w.grownBy w' row := grown_of_below h row
theorem grown_drewN {w w' : World} {row : Option Nat} (h : w.grownBy w' row) (n : Nat) : w.grownBy (w'.drewN n) row := ⟨h.os, h.tape, h.output, h.size, h.block⟩

set_option maxHeartbeats 4000000 in
set_option maxRecDepth 100000 in
theorem mix_calls (s : St) (ws : List R) (hw : ws.length = 64) (g off : Nat) (t : TypeId) (pre post : List Value) (hoff : pre.length = off) (w : World) (hG : Glob w) (_hg : 1 < g) (hb : Blk w g t (part pre ((stL s).map rv) post)) :
    Calls Tryd.prog 74 #[.pointer (some ⟨g, off, none⟩), .agg (rcells ws)] w
      fun e w' => e = .returned (.tuple #[]) ∧ w.grownBy w' (some g) ∧ Blk w' g t (part pre ((stL (rounds ws 64 s)).map rv) post) := by
  have HO := hid hoff; clear hoff
  have kb := Blk.new w 134 (rcells ws)
  have hg1 : w.grownBy (w.alloc (.cells (rcells ws) 134)) (some g) := below_grown (below_new w _)
  have hb1 := hb.keep (below_new w (.cells (rcells ws) 134))
  have hG1 := hG.keep (below_new w (.cells (rcells ws) 134))
  have lg := hb.lt
  have KB := hid kb; have HGR := hid hg1; have HB := hid hb1; have HGl := hid hG1; have HW := hid hw
  clear kb hg1 hb hb1 hG hG1 hw
  go_enter Tryd.func74, Tryd.ntmps74
  go_wp2_with fail
  generalize w.alloc (.cells (rcells ws) 134) = w1 at KB HGR HB HGl ⊢
  generalize w.heap.size = gb at KB lg ⊢
  obtain ⟨sa, sb, sc, sd, se, sf, sg, sh'⟩ := s
  have d0 := HB.out.cell off (v := .int .u32 (sa.toNat : Int)) (by rw [← HO.out]; exact part_at (i := 0) rfl)
  have d1 := HB.out.cell (off + 1) (v := .int .u32 (sb.toNat : Int)) (by rw [← HO.out]; exact part_at (i := 1) rfl)
  have d2 := HB.out.cell (off + 2) (v := .int .u32 (sc.toNat : Int)) (by rw [← HO.out]; exact part_at (i := 2) rfl)
  have d3 := HB.out.cell (off + 3) (v := .int .u32 (sd.toNat : Int)) (by rw [← HO.out]; exact part_at (i := 3) rfl)
  have d4 := HB.out.cell (off + 4) (v := .int .u32 (se.toNat : Int)) (by rw [← HO.out]; exact part_at (i := 4) rfl)
  have d5 := HB.out.cell (off + 5) (v := .int .u32 (sf.toNat : Int)) (by rw [← HO.out]; exact part_at (i := 5) rfl)
  have d6 := HB.out.cell (off + 6) (v := .int .u32 (sg.toNat : Int)) (by rw [← HO.out]; exact part_at (i := 6) rfl)
  have d7 := HB.out.cell (off + 7) (v := .int .u32 (sh'.toNat : Int)) (by rw [← HO.out]; exact part_at (i := 7) rfl)
  go_quiet (fail)
  clear d0 d1 d2 d3 d4 d5 d6 d7
  go_wp2_with fail
  obtain ⟨wa, ea, KBa, GRa, HBa, Gla⟩ : ∃ wa, w1.drewN nq = wa ∧ Hid (Blk wa gb 134 (rcells ws)) ∧ Hid (w.grownBy wa (some g)) ∧ Hid (Blk wa g t (part pre ((stL ⟨sa, sb, sc, sd, se, sf, sg, sh'⟩).map rv) post)) ∧ Hid (Glob wa) :=
    ⟨_, rfl, KB.out.drewN nq, grown_drewN HGR.out nq, HB.out.drewN nq, HGl.out.drewN nq⟩
  rw [ea]
  clear KB HGR HB HGl ea
  go_loopw [4, 5, 6, 7, 8, 9, 10, 11, 47] (fun v4 v5 v6 v7 v8 v9 v10 v11 i wr => ∃ (k : Nat) (st : St), k ≤ 64 ∧ i = .int .i64 (k : Int) ∧ Hid (rounds ws k ⟨sa, sb, sc, sd, se, sf, sg, sh'⟩ = st)
      ∧ v4 = .int .u32 (st.a.toNat : Int) ∧ v5 = .int .u32 (st.b.toNat : Int) ∧ v6 = .int .u32 (st.c.toNat : Int) ∧ v7 = .int .u32 (st.d.toNat : Int) ∧ v8 = .int .u32 (st.e.toNat : Int) ∧ v9 = .int .u32 (st.f.toNat : Int) ∧ v10 = .int .u32 (st.g.toNat : Int) ∧ v11 = .int .u32 (st.h.toNat : Int)
      ∧ Hid (Blk wr gb 134 (rcells ws)) ∧ Hid (w.grownBy wr (some g)) ∧ Hid (Blk wr g t (part pre ((stL ⟨sa, sb, sc, sd, se, sf, sg, sh'⟩).map rv) post)) ∧ Hid (Glob wr)) (fun _ _ _ _ _ _ _ _ i _ => 64 - (intOf i).toNat)
  case atStart => exact ⟨0, _, by omega, rfl, rfl, rfl, rfl, rfl, rfl, rfl, rfl, rfl, rfl, KBa, GRa, HBa, Gla⟩
  case round =>
    clear KBa GRa HBa Gla
    obtain ⟨k, st, hk, rfl, HST, rfl, rfl, rfl, rfl, rfl, rfl, rfl, rfl, KB, GR, HB, GL⟩ := hrel
    by_cases hlt : k < 64
    · --DEV
      have Hn := hid (show rounds ws (k + 1) ⟨sa, sb, sc, sd, se, sf, sg, sh'⟩ = rnd (by32 keyList k) (by32 ws k) st from by rw [← HST.out]; rfl)
      have ck : wr.cell? ⟨1, k, none⟩ = some (.int .u32 ((by32 keyList k).toNat : Int)) := GL.out.1 k _ (by32_get (by exact hlt))
      have cw := KB.out.cell k (rcells_at (by32_get (by rw [HW.out]; exact hlt)))
      generalize by32 keyList k = kk at ck Hn
      generalize by32 ws k = wk at cw Hn
      clear HST
      obtain ⟨ta, tb, tc, td, te, tf, tg, th⟩ := st
      simp only at Hn ⊢
      have q0 : (k : Int) < 64 := by omega
      have p0 : (0 : Int) ≤ (k : Int) := by omega
      go_wp2_with fail
      go_quiet ((first
        | (go_at_call_of 82 (Value.int IntKind.i64 6); exact Calls.quiet_of (quiet_turned (turned_6 te _)))
        | (go_at_call_of 82 (Value.int IntKind.i64 11); exact Calls.quiet_of (quiet_turned (turned_11 te _)))
        | (go_at_call_of 82 (Value.int IntKind.i64 25); exact Calls.quiet_of (quiet_turned (turned_25 te _)))))
      clear ck cw
      go_wp2_with fail
      obtain ⟨wb, eb, KBb, GRb, HBb, GLb⟩ : ∃ wb, wr.drewN nq = wb ∧ Hid (Blk wb gb 134 (rcells ws)) ∧ Hid (w.grownBy wb (some g)) ∧ Hid (Blk wb g t (part pre ((stL ⟨sa, sb, sc, sd, se, sf, sg, sh'⟩).map rv) post)) ∧ Hid (Glob wb) :=
        ⟨_, rfl, KB.out.drewN nq, grown_drewN GR.out nq, HB.out.drewN nq, GL.out.drewN nq⟩
      rw [eb, n_add4]
      clear KB GR HB GL eb
      generalize hX : ad (ad (ad (ad th (xr (xr (turnR 6 te) (turnR 11 te)) (turnR 25 te))) (xr (an te tf) (an (nt te) tg))) kk) wk = vX
      have HX := hid hX; clear hX
      refine (turned_2 ta _).mono ?_
      rintro e w' ⟨rfl, rfl⟩
      go_wp2_with fail
      refine (turned_13 ta _).mono ?_
      rintro e w' ⟨rfl, rfl⟩
      go_wp2_with fail
      refine (turned_22 ta _).mono ?_
      rintro e w' ⟨rfl, rfl⟩
      go_wp2_with fail
      go_roundw
      case rel =>
        refine ⟨k + 1, ⟨ad vX (ad (xr (xr (turnR 2 ta) (turnR 13 ta)) (turnR 22 ta)) (xr (xr (an ta tb) (an ta tc)) (an tb tc))), ta, tb, tc, ad td vX, te, tf, tg⟩, by omega, by go_num, ?_, rfl, rfl, rfl, rfl, rfl, rfl, rfl, rfl, KBb, GRb, HBb, GLb⟩
        rw [Hid, Hn.out, ← HX.out]; rfl
      case measure => simp [intOf]; omega
      --VED
    · obtain rfl : k = 64 := by omega
      obtain ⟨ta, tb, tc, td, te, tf, tg, th⟩ := st
      simp only
      have q0 : ¬ ((64 : Nat) : Int) < 64 := by omega
      have hB := HB.out
      go_wp2_with (refine wpList_store_part rfl 95 _ _ rfl g off ((stL ⟨ta, tb, tc, td, te, tf, tg, th⟩).map rv) rfl rfl hB HO.out infoWords rfl (rv_oneCell _) ?_)
      go_end0
      refine ⟨rfl, GR.out.trans (grown_setRow _ _ _), ?_⟩
      rw [HST.out]
      exact hB.setRow _
end Go.Proofs.YtgacdimjbpkgoaaDoor
