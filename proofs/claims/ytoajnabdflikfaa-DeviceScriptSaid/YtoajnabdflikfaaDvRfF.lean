/- Contract: the plain reference's Flush. Written by tools/mkdv.py out of XDvRfF.tpl. -/
import Derived.Test.YtoajnabdflikfaaDvRfW
import Derived.Test.YtoajnabdflikfaaDvApi
namespace Go.Proofs.Ytoajnabdflikfaa
open Go.RowKit

/-- reads, and one store in the end -/
structure StS (w1 : World) (is : Nat) (T : World → Prop) (f : Nat → Bool) (_gh : Nat → Unit) (W : World) : Prop where
  bel : f is = false → Below w1.heap.size w1 W
  up : f is = true → T W
section
variable {w1 W W' : World} {is : Nat} {T : World → Prop} {f : Nat → Bool} {gh gh' : Nat → Unit}
theorem StS.start {m : Nat} (hi : is < m) : StS w1 is T (fun j => decide (m ≤ j)) gh w1.drew := ⟨fun _ => (Below.refl _ _).drew, fun h => by have := of_decide_eq_true h; omega⟩
theorem StS.step (h : StS w1 is T f gh W) (j : Nat) (hj : is ≠ j) : StS w1 is T (upd f j) gh' W := ⟨fun e => h.bel (by rwa [ap_ne hj] at e), fun e => h.up (by rwa [ap_ne hj] at e)⟩
theorem StS.put (_h : StS w1 is T f gh W) (ht : T W') : StS w1 is T (upd f is) gh' W' := ⟨fun e => (by rw [ap_eq] at e; cases e), fun _ => ht⟩
end
/-- what the first loose writes make of a device -/
def flK (s : DS) (k : Nat) : DS := { s with img := flushL s.img (s.loose.take k) }
def dfVal (g k la r b c xi sn ln cA cR : Nat) : Nat → Unit → Value
  | 0, _ => .pointer (some ⟨g, 0, none⟩)
  | 1, _ => .pointer (some ⟨g, 0, none⟩)
  | 2, _ => .pointer (some ⟨g, 0, none⟩)
  | 3, _ => .slice (some ⟨la, 0, none⟩) sn cA
  | 4, _ => .pointer (some ⟨g, 0, none⟩)
  | 5, _ => .pointer (some ⟨g, 0, none⟩)
  | 6, _ => .pointer (some ⟨g, 1, none⟩)
  | 7, _ => .slice (some ⟨r, 0, none⟩) ln cR
  | 8, _ => .int .i64 (k : Int)
  | 9, _ => .pointer (some ⟨r, 2 * k, none⟩)
  | 10, _ => .pointer (some ⟨r, 2 * k, none⟩)
  | 11, _ => .int .i64 (xi : Int)
  | 12, _ => .pointer (some ⟨g, 0, none⟩)
  | 13, _ => .pointer (some ⟨g, 0, none⟩)
  | 14, _ => .pointer (some ⟨g, 1, none⟩)
  | 15, _ => .slice (some ⟨r, 0, none⟩) ln cR
  | 16, _ => .int .i64 (k : Int)
  | 17, _ => .pointer (some ⟨r, 2 * k, none⟩)
  | 18, _ => .pointer (some ⟨r, 2 * k + 1, none⟩)
  | 19, _ => .slice (some ⟨b, 0, none⟩) 64 c
  | 20, _ => .pointer (some ⟨la, xi, none⟩)
  | _, _ => undef
section
variable (base g m : Nat) (F : List Nat) (s : DS) (w : World)
set_option maxHeartbeats 4000000 in
set_option maxRecDepth 20000 in
theorem rFlush_calls (hm : m ≤ 1000) (h : RdB w base F g m s) (hlo : s.loose.length ≤ 1000000) :
    Calls Try.prog 38 #[.pointer (some ⟨g, 0, none⟩)] w (RdPost w base F g (m + 1) (flushD s) (.int .i64 (flushE s : Int))) := by
  have HS := hid h
  obtain ⟨A, R, cA, cR, vs, us, D, z, h, hok, hsn, hF, hlt⟩ := h
  have c4 := h.hd.cell 4 rfl
  by_cases ho : s.out = true
  · have HK := hid (show RdPost w base F g (m + 1) (flushD s) (.int .i64 (flushE s : Int)) (.returned (.int .i64 22)) w from by
      rw [show flushE s = 22 from if_pos ho, show flushD s = s from if_pos ho]; exact RdPost.same HS.out (by omega) _)
    rw [ho] at c4
    clear h ho hok hF hlt HS hlo hsn
    generalize flushD s = s' at HK ⊢
    generalize flushE s = e' at HK ⊢
    go_enter Try.func38, Try.ntmps38
    go_wp2_with fail
    go_ret
    exact HK.out
  have ho' : s.out = false := by simpa using ho
  rw [ho'] at c4
  have HT := hid (rThrough_calls base g m s w hm ho' h)
  by_cases hl : lets s = false
  · have HE := hid (show flushE s = 22 from by unfold flushE; rw [if_neg ho, if_pos hl])
    have HSS := hid (show flushD s = burn s from by unfold flushD; rw [if_neg ho, if_pos hl])
    have HFI := hid (show ∀ w' z', RdIn w' base g A R cA cR vs us D (m + 1) z' (burn s) → Chg [g] w w' → RdPost w base F g (m + 1) (burn s) (.int .i64 22) (.returned (.int .i64 22)) w' from fun w' z' h1 hc =>
      RdPost.of hF hlt h1 (burn_ok hok) hsn (hc.more (fun b hb => .inl (by rw [List.mem_singleton.1 hb]; exact hF g (.inl rfl)))) (fun b hb => .inl (hF b hb)) _)
    rw [hl] at HT
    rw [HE.out, HSS.out]
    clear h ho hok hF hlt HS hlo hsn ho' HE HSS hl
    generalize burn s = s' at HFI HT ⊢
    go_enter Try.func38, Try.ntmps38
    go_wp2_with fail
    refine HT.out.mono ?_
    rintro _ w1 ⟨rfl, z', h1, hc⟩
    have HK := hid (HFI.out _ _ h1 hc)
    clear h1 hc
    go_wp2_with fail
    go_ret
    exact HK.out
  · have hl' : lets s = true := by simpa using hl
    have HE := hid (show flushE s = 0 from by unfold flushE; rw [if_neg ho, if_neg hl])
    have HSS := hid (show flushD s = flushS (burn s) from by unfold flushD; rw [if_neg ho, if_neg hl])
    have hokb := burn_ok hok
    have HFI := hid (show ∀ w1 w' z' vs', Chg [g] w w1 → RdIn w' base g A none cA 0 vs' [] D (m + 1) z' (flushS (burn s)) → Chg (g :: (rowOf A).toList) w1 w' → RdPost w base F g (m + 1) (flushS (burn s)) (.int .i64 0) (.returned (.int .i64 0)) w' from fun w1 w' z' vs' hc h1 hc2 => by
      refine RdPost.of hF hlt h1 (flush_ok hokb) (by unfold Sane; show (burn s).now = flushL _ []; exact hsn) ((hc.more (L' := F) (fun b hb => .inl (by rw [List.mem_singleton.1 hb]; exact hF g (.inl rfl)))).trans hc2 (fun b hb => .inl ?_)) (fun b hb => .inl (hF b ?_)) _
      · rcases List.mem_cons.1 hb with e | hb
        · exact hF b (.inl e)
        · exact hF b (.inr (.inl (by simpa using hb)))
      · rcases hb with hb | hb | hb | hb
        · exact .inl hb
        · exact .inr (.inl hb)
        · cases hb
        · exact .inr (.inr (.inr hb)))
    have HLO := hid (show (burn s).loose.length ≤ 1000000 from hlo)
    have HOK := hid hokb
    rw [hl'] at HT
    rw [HE.out, HSS.out]
    clear h ho hok hF hlt HS hlo hsn ho' HE HSS hl hl' hokb
    generalize hsb : burn s = sb at HFI HT HLO HOK ⊢
    clear hsb
    go_enter Try.func38, Try.ntmps38
    go_wp2_with fail
    refine HT.out.mono ?_
    rintro _ w1 ⟨rfl, z', h1, hc⟩
    have HFI1 := hid (fun w' vs' => HFI.out w1 w' z' vs' hc)
    have HIN := hid (show RdIn w1 base g A R cA cR vs us D (m + 1) z' (flK sb 0) from h1)
    have HCH := hid (show Chg (g :: (rowOf A).toList) w1 w1 from Chg.refl _ _)
    clear h1 hc HT HFI c4
    go_wp2_with fail
    go_loopw [3] (fun i wr => ∃ (k : Nat) (vs' : List Value), k ≤ sb.loose.length ∧ i = .int .i64 (k : Int) ∧ Hid (RdIn wr base g A R cA cR vs' us D (m + 1) z' (flK sb k)) ∧ Hid (Chg (g :: (rowOf A).toList) w1 wr)) (fun i _ => sb.loose.length - (intOf i).toNat)
    case atStart => exact ⟨0, vs, Nat.zero_le _, rfl, HIN, HCH⟩
    case round =>
      clear HIN HCH
      obtain ⟨k, vs', hk, rfl, HIN, HCH⟩ := hrel
      have c1 : wr.cell? ⟨g, 1, none⟩ = some (.slice R sb.loose.length cR) := HIN.out.hd.cell 1 rfl
      by_cases hlt : k < sb.loose.length
      · obtain ⟨r, b, c, x, rfl, hx, k1, k2, hbD, hs, hu, h64⟩ := RdIn.wrs base g (flK sb k) wr HIN.out (show k < (flK sb k).loose.length from hlt)
        have hx : sb.loose[k]? = some x := hx
        have hxo := HOK.out.lo x (List.mem_of_getElem? hx)
        obtain ⟨la, b2, c2, rfl, -⟩ := RdIn.secs base g (flK sb k) wr HIN.out (show x.1 < (flK sb k).n from hxo.1)
        have HNX := hid (show ∀ W, Below wr.heap.size wr W → RdIn (W.setCell ⟨la, x.1, none⟩ (.slice (some ⟨b, 0, none⟩) 64 c)) base g (some ⟨la, 0, none⟩) (some ⟨r, 0, none⟩) cA cR (vs'.set x.1 (.slice (some ⟨b, 0, none⟩) 64 c)) us D (m + 1) z' (flK sb (k + 1)) ∧ Chg (g :: (rowOf (some ⟨la, 0, none⟩)).toList) w1 (W.setCell ⟨la, x.1, none⟩ (.slice (some ⟨b, 0, none⟩) 64 c)) from fun W hW => by
          have hI := (HIN.out.keep hW).sec (i := x.1) (x := x.2) (D' := D) (flushL_length (sb.loose.take k) HOK.out.n2 (fun y hy => HOK.out.lo y (List.mem_of_mem_take hy))) hxo.1 hxo.2 (fun b hb => hb) (fun b hb => .inl hb) ((show SecV wr D _ x.2 from ⟨b, c, rfl, hbD, hs, h64⟩).chg (L := []) (Chg.of_below hW) (fun _ _ => by simp))
          have e : ({ flK sb k with img := secPut (flK sb k).img x.1 x.2 } : DS) = flK sb (k + 1) := by
            unfold flK
            simp only
            rw [flushL_next _ _ _ _ hx]
          rw [e] at hI
          exact ⟨hI, (HCH.out.trans (Chg.of_below (L := []) hW) (fun _ hm => by cases hm)).trans (chg_set (L := [la]) (by simp) _ _) (fun b hb => .inl (by rw [List.mem_singleton.1 hb]; simp [rowOf]))⟩)
        have HC0 := hid (fun W (hW : Below wr.heap.size wr W) => ((hW.cell (lt_of_cell (HIN.out.hd.cell 0 rfl))).trans (HIN.out.hd.cell 0 rfl) : W.cell? ⟨g, 0, none⟩ = some (.slice (some ⟨la, 0, none⟩) sb.n cA)))
        have HC1 := hid (fun W (hW : Below wr.heap.size wr W) => ((hW.cell (lt_of_cell c1)).trans c1 : W.cell? ⟨g, 1, none⟩ = some (.slice (some ⟨r, 0, none⟩) sb.loose.length cR)))
        have HK1 := hid (fun W (hW : Below wr.heap.size wr W) => (hW.cell (lt_of_cell k1)).trans k1)
        have HK2 := hid (fun W (hW : Below wr.heap.size wr W) => (hW.cell (lt_of_cell k2)).trans k2)
        have HA0 := hid (fun W (hW : Below wr.heap.size wr W) => (show (∃ v, W.cell? ⟨la, x.1, none⟩ = some v) ∧ W.frozen? ⟨la, x.1, none⟩ = false from by
          have h1 := World.ownsRow.cellAt (HIN.out.keep hW).lr x.1 (by have := hxo.1; show x.1 < sb.n * 1; omega)
          have h2 := World.ownsRow.frozenAt (HIN.out.keep hW).lr x.1
          obtain ⟨v, hv⟩ : ∃ v, vs'[x.1]? = some v := ⟨_, List.getElem?_eq_getElem (by rw [HIN.out.vl]; exact hxo.1)⟩
          exact ⟨⟨v, h1.trans hv⟩, h2⟩))
        have hixw := fun W => ix_wr r sb.loose.length cR k hlt W
        have hixr := fun W => ix_row la sb.n cA x.1 hxo.1 W
        have q0 : (k : Int) < (sb.loose.length : Int) := by omega
        clear hbD hs hu hx hxo k1 k2 h64 HIN HCH HOK
        obtain ⟨xi, xb⟩ := x
        simp only at HNX HK1 HA0 hixr
        obtain ⟨T, hT⟩ : ∃ T : World → Prop, ∀ W, T W ↔ (RdIn W base g (some ⟨la, 0, none⟩) (some ⟨r, 0, none⟩) cA cR (vs'.set xi (.slice (some ⟨b, 0, none⟩) 64 c)) us D (m + 1) z' (flK sb (k + 1)) ∧ Chg (g :: (rowOf (some ⟨la, 0, none⟩)).toList) w1 W) := ⟨_, fun _ => Iff.rfl⟩
        have HST := hid (StS.start (w1 := wr) (is := 21) (m := 22) (T := T) (gh := fun _ => ()) (by decide))
        have HNT := hid (fun W hW => (hT _).2 (HNX.out W hW))
        have HTT := hid hT
        clear hT HNX
        go_wp2_with fail
        clear c1
        refine wp_region_invG 46 () (dfVal g k la r b c xi sb.n sb.loose.length cA cR) (StS wr 21 T) (by kernel_rfl) (by kernel_rfl) (by exact Nat.le_refl 46) ?_ ?_ ?_
        · exact HST.out
        · intro i o f gh a W hi hf hdep hsame hcl hval hS
          rcases i with _ | _ | _ | _ | _ | _ | _ | _ | _ | _ | _ | _ | _ | _ | _ | _ | _ | _ | _ | _ | _ | _ | i
          all_goals simp only [List.getElem?_cons_succ, List.getElem?_cons_zero, List.getElem?_nil, Option.some.injEq, reduceCtorEq] at hi
          all_goals subst hi
          · have E0 : a.tmps[0]? = some (.pointer (some ⟨g, 0, none⟩)) := (same_of hsame 0 (by rfl)).trans rfl
            refine g_plain rfl ?_
            exact does_value (w' := W) (v := .pointer (some ⟨g, 0, none⟩)) (by go_simp) ⟨(), .inr rfl, hS.step 0 (by decide)⟩
          · have E22 := hval 0 _ 22 rfl rfl (dep_of hdep 0 (by rfl))
            unfold dfVal at E22
            refine g_plain rfl ?_
            exact does_value (w' := W) (v := .pointer (some ⟨g, 0, none⟩)) (by go_simp) ⟨(), .inr rfl, hS.step 1 (by decide)⟩
          · have E23 := hval 1 _ 23 rfl rfl (dep_of hdep 1 (by rfl))
            unfold dfVal at E23
            refine g_plain rfl ?_
            exact does_value (w' := W) (v := .pointer (some ⟨g, 0, none⟩)) (by go_simp) ⟨(), .inr rfl, hS.step 2 (by decide)⟩
          · have E24 := hval 2 _ 24 rfl rfl (dep_of hdep 2 (by rfl))
            unfold dfVal at E24
            have n20 := not_yet hcl hf 20 (by rfl)
            have n21 := not_yet hcl n20 21 (by rfl)
            have c1 := HC0.out W (hS.bel n21)
            refine g_plain rfl ?_
            exact does_value (w' := W) (v := .slice (some ⟨la, 0, none⟩) sb.n cA) (by go_simp) ⟨(), .inr rfl, hS.step 3 (by decide)⟩
          · have E0 : a.tmps[0]? = some (.pointer (some ⟨g, 0, none⟩)) := (same_of hsame 0 (by rfl)).trans rfl
            refine g_plain rfl ?_
            exact does_value (w' := W) (v := .pointer (some ⟨g, 0, none⟩)) (by go_simp) ⟨(), .inr rfl, hS.step 4 (by decide)⟩
          · have E26 := hval 4 _ 26 rfl rfl (dep_of hdep 4 (by rfl))
            unfold dfVal at E26
            refine g_plain rfl ?_
            exact does_value (w' := W) (v := .pointer (some ⟨g, 0, none⟩)) (by go_simp) ⟨(), .inr rfl, hS.step 5 (by decide)⟩
          · have E27 := hval 5 _ 27 rfl rfl (dep_of hdep 5 (by rfl))
            unfold dfVal at E27
            refine g_plain rfl ?_
            exact does_value (w' := W) (v := .pointer (some ⟨g, 1, none⟩)) (by go_simp) ⟨(), .inr rfl, hS.step 6 (by decide)⟩
          · have E28 := hval 6 _ 28 rfl rfl (dep_of hdep 6 (by rfl))
            unfold dfVal at E28
            have n9 := not_yet hcl hf 9 (by rfl)
            have n10 := not_yet hcl n9 10 (by rfl)
            have n11 := not_yet hcl n10 11 (by rfl)
            have n20 := not_yet hcl n11 20 (by rfl)
            have n21 := not_yet hcl n20 21 (by rfl)
            have c1 := HC1.out W (hS.bel n21)
            refine g_plain rfl ?_
            exact does_value (w' := W) (v := .slice (some ⟨r, 0, none⟩) sb.loose.length cR) (by go_simp) ⟨(), .inr rfl, hS.step 7 (by decide)⟩
          · have E3 : a.tmps[3]? = some (.int .i64 (k : Int)) := (same_of hsame 3 (by rfl)).trans rfl
            refine g_plain rfl ?_
            exact does_value (w' := W) (v := .int .i64 (k : Int)) (by go_simp) ⟨(), .inr rfl, hS.step 8 (by decide)⟩
          · have E29 := hval 7 _ 29 rfl rfl (dep_of hdep 7 (by rfl))
            have E30 := hval 8 _ 30 rfl rfl (dep_of hdep 8 (by rfl))
            unfold dfVal at E29 E30
            refine g_plain rfl ?_
            exact does_value (w' := W) (v := .pointer (some ⟨r, 2 * k, none⟩)) (by go_simp) ⟨(), .inr rfl, hS.step 9 (by decide)⟩
          · have E31 := hval 9 _ 31 rfl rfl (dep_of hdep 9 (by rfl))
            unfold dfVal at E31
            refine g_plain rfl ?_
            exact does_value (w' := W) (v := .pointer (some ⟨r, 2 * k, none⟩)) (by go_simp) ⟨(), .inr rfl, hS.step 10 (by decide)⟩
          · have E32 := hval 10 _ 32 rfl rfl (dep_of hdep 10 (by rfl))
            unfold dfVal at E32
            have n20 := not_yet hcl hf 20 (by rfl)
            have n21 := not_yet hcl n20 21 (by rfl)
            have c1 := HK1.out W (hS.bel n21)
            refine g_plain rfl ?_
            exact does_value (w' := W) (v := .int .i64 (xi : Int)) (by go_simp) ⟨(), .inr rfl, hS.step 11 (by decide)⟩
          · have E0 : a.tmps[0]? = some (.pointer (some ⟨g, 0, none⟩)) := (same_of hsame 0 (by rfl)).trans rfl
            refine g_plain rfl ?_
            exact does_value (w' := W) (v := .pointer (some ⟨g, 0, none⟩)) (by go_simp) ⟨(), .inr rfl, hS.step 12 (by decide)⟩
          · have E34 := hval 12 _ 34 rfl rfl (dep_of hdep 12 (by rfl))
            unfold dfVal at E34
            refine g_plain rfl ?_
            exact does_value (w' := W) (v := .pointer (some ⟨g, 0, none⟩)) (by go_simp) ⟨(), .inr rfl, hS.step 13 (by decide)⟩
          · have E35 := hval 13 _ 35 rfl rfl (dep_of hdep 13 (by rfl))
            unfold dfVal at E35
            refine g_plain rfl ?_
            exact does_value (w' := W) (v := .pointer (some ⟨g, 1, none⟩)) (by go_simp) ⟨(), .inr rfl, hS.step 14 (by decide)⟩
          · have E36 := hval 14 _ 36 rfl rfl (dep_of hdep 14 (by rfl))
            unfold dfVal at E36
            have n17 := not_yet hcl hf 17 (by rfl)
            have n18 := not_yet hcl n17 18 (by rfl)
            have n19 := not_yet hcl n18 19 (by rfl)
            have n21 := not_yet hcl n19 21 (by rfl)
            have c1 := HC1.out W (hS.bel n21)
            refine g_plain rfl ?_
            exact does_value (w' := W) (v := .slice (some ⟨r, 0, none⟩) sb.loose.length cR) (by go_simp) ⟨(), .inr rfl, hS.step 15 (by decide)⟩
          · have E3 : a.tmps[3]? = some (.int .i64 (k : Int)) := (same_of hsame 3 (by rfl)).trans rfl
            refine g_plain rfl ?_
            exact does_value (w' := W) (v := .int .i64 (k : Int)) (by go_simp) ⟨(), .inr rfl, hS.step 16 (by decide)⟩
          · have E37 := hval 15 _ 37 rfl rfl (dep_of hdep 15 (by rfl))
            have E38 := hval 16 _ 38 rfl rfl (dep_of hdep 16 (by rfl))
            unfold dfVal at E37 E38
            refine g_plain rfl ?_
            exact does_value (w' := W) (v := .pointer (some ⟨r, 2 * k, none⟩)) (by go_simp) ⟨(), .inr rfl, hS.step 17 (by decide)⟩
          · have E39 := hval 17 _ 39 rfl rfl (dep_of hdep 17 (by rfl))
            unfold dfVal at E39
            refine g_plain rfl ?_
            exact does_value (w' := W) (v := .pointer (some ⟨r, 2 * k + 1, none⟩)) (by go_simp) ⟨(), .inr rfl, hS.step 18 (by decide)⟩
          · have E40 := hval 18 _ 40 rfl rfl (dep_of hdep 18 (by rfl))
            unfold dfVal at E40
            have n21 := not_yet hcl hf 21 (by rfl)
            have c1 := HK2.out W (hS.bel n21)
            refine g_plain rfl ?_
            exact does_value (w' := W) (v := .slice (some ⟨b, 0, none⟩) 64 c) (by go_simp) ⟨(), .inr rfl, hS.step 19 (by decide)⟩
          · have E25 := hval 3 _ 25 rfl rfl (dep_of hdep 3 (by rfl))
            have E33 := hval 11 _ 33 rfl rfl (dep_of hdep 11 (by rfl))
            unfold dfVal at E25 E33
            refine g_plain rfl ?_
            exact does_value (w' := W) (v := .pointer (some ⟨la, xi, none⟩)) (by go_simp) ⟨(), .inr rfl, hS.step 20 (by decide)⟩
          · have E42 := hval 20 _ 42 rfl rfl (dep_of hdep 20 (by rfl))
            have E41 := hval 19 _ 41 rfl rfl (dep_of hdep 19 (by rfl))
            unfold dfVal at E42 E41
            refine g_plain rfl ?_
            have hB := hS.bel hf
            obtain ⟨⟨v0, c0⟩, z0⟩ := HA0.out W hB
            exact does_skip (w' := W.setCell ⟨la, xi, none⟩ (.slice (some ⟨b, 0, none⟩) 64 c)) (by go_simp) ⟨(), .inl rfl, hS.put (HNT.out W hB)⟩
        · intro gh w8 hS
          have HI8 := hid ((HTT.out w8).1 (hS.up rfl)).1
          have HC8 := hid ((HTT.out w8).1 (hS.up rfl)).2
          clear hS HST HNT HTT HC0 HC1 HK1 HK2 HA0
          simp only [putAll, dfVal, Nat.reduceAdd, Nat.zero_add, Act.put, List.setIfInBounds_toArray, List.set_cons_zero, List.set_cons_succ]
          have hlo9 := HLO.out
          go_wp2_with fail
          go_roundw
          case rel => exact ⟨k + 1, _, by omega, by go_num, HI8, HC8⟩
          case measure => simp [intOf]; omega
      · obtain rfl : k = sb.loose.length := by omega
        have q0 : ¬ (sb.loose.length : Int) < (sb.loose.length : Int) := by omega
        have hE : flK sb sb.loose.length = { sb with img := flushL sb.img sb.loose } := by unfold flK; rw [List.take_length]
        have HFIN := hid (show ∀ w', Chg [g] wr w' → Blk w' g 69 #[.slice A sb.n cA, .slice none 0 0, .bool sb.fuse.isSome, .int .i64 z', .bool sb.out] → RdPost w base F g (m + 1) (flushS sb) (.int .i64 0) (.returned (.int .i64 0)) w' from fun w' hc hb =>
          HFI1.out w' vs' (HIN.out.none_ (s' := flushS sb) hc rfl (by rw [hE]; rfl) rfl hb HIN.out.zf) (HCH.out.trans hc (fun b hb => .inl (by rw [List.mem_singleton.1 hb]; simp))))
        have hhd : Blk wr g 69 #[.slice A sb.n cA, .slice R sb.loose.length cR, .bool sb.fuse.isSome, .int .i64 z', .bool sb.out] := HIN.out.hd
        have f1 := hhd.frozen 1
        clear HIN HCH hE HFI1
        go_wp2_with fail
        go_ret
        exact HFIN.out _ (chg_set (by simp) 1 _) (by simpa using hhd.set_ 1 (.slice none 0 0))
end
end Go.Proofs.Ytoajnabdflikfaa
