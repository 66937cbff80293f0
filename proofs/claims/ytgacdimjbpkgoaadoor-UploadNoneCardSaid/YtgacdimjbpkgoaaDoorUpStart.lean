/- Contract: an upload is started. -/
import Derived.Test.YtgacdimjbpkgoaaDoorUpTab
namespace Go.Proofs.YtgacdimjbpkgoaaDoor
open Go.RowKit
attribute [local go_sem] up_mkf

theorem up_info_ptr : (Tryd.prog.info? 68).map (fun i => (i.zero, i.size, i.bytes)) = some (some (.pointer none), 1, 8) := by kernel_rfl
/-- a new session -/
def StP (w1 : World) (base : Nat) (s : US) (v : Value) (W : World) : Prop := ∃ q pv us, v = .pointer (some ⟨q, 0, none⟩) ∧ SessB W base q s pv us ∧ ∀ b ∈ upBlocks q pv us, w1.heap.size ≤ b
theorem stp_st {w : World} {base t : Nat} {width next : Int} {ss : List US} {sv : Value} {qs : List (Nat × Value × List Value)} {s : US} (h : UpB w base t width next ss sv qs) : ∀ v W W', w.heap.size ≤ W.heap.size → Chg (t :: sv.ownBlock.toList) W W' → StP w base s v W → StP w base s v W' := fun v W W' _ hc ⟨q, pv, us, e, hs, hb⟩ =>
  ⟨q, pv, us, e, hs.chg hc (fun b hbb hm => by
    have h1 := hb b hbb
    rcases List.mem_cons.1 hm with rfl | hm
    · have := h.hd.lt; omega
    · have := (World.ownsRow.lt h.row b (by simpa using hm)).2; omega), hb⟩
def stVal (t : Nat) (sv : Value) (next : Int) (r : ByteArray) : Nat → Value → Value
  | 0, _ => .pointer (some ⟨t, 0, none⟩)
  | 1, _ => .pointer (some ⟨t, 0, none⟩)
  | 2, _ => .pointer (some ⟨t, 0, none⟩)
  | 3, _ => .pointer (some ⟨t, 3, none⟩)
  | 4, _ => sv
  | 5, _ => .int .i64 next
  | 6, _ => .string r
  | 7, _ => .agg #[.int .i64 next, .string r, .slice none 0 0]
  | 8, k => k
  | 9, k => k
  | 10, k => k
  | 11, _ => .pointer (some ⟨t, 0, none⟩)
  | 12, _ => .pointer (some ⟨t, 3, none⟩)
  | _, _ => undef
section
variable {w : World} {base t : Nat} {width next : Int} {ss : List US} {sv : Value} {qs : List (Nat × Value × List Value)}
set_option maxHeartbeats 8000000 in
set_option maxRecDepth 20000 in
theorem up_start (h : UpB w base t width next ss sv qs) (hbs : base ≤ w.heap.size) (r : ByteArray) (hrs : r.size ≤ 281474976710656) (hr : ∀ W, Below w.heap.size w W → Calls Tryd.prog 29 #[.string r] W fun e w' => e = .returned (.bool true) ∧ Below W.heap.size W w') (h8 : ss.length < 8) (hx0 : 1 ≤ next) (hx : next ≤ 1048576) :
    Calls Tryd.prog 8 #[.pointer (some ⟨t, 0, none⟩), .string r] w fun e w' => e = .returned (.tuple #[.int .i64 next, .int .i64 0]) ∧ ∃ sv' qs', UpB w' base t width (next + 1) (ss ++ [US.mk' next r []]) sv' qs' ∧ Chg (t :: sv.ownBlock.toList) w w' ∧ (∀ b ∈ upF t sv' qs', b ∈ upF t sv qs ∨ w.heap.size ≤ b) := by
  obtain ⟨W, hW, k0, k1, hB, hZ⟩ := up_two w #[.int .i64 0] #[.int .i64 0] 31 65
  have HLT := hid (fun b (hb : b ∈ upF t sv qs) => (h.lt b hb).2)
  have HH := hid (h.keep hB); have HB := hid hB; have HW := hid hW
  have K0 := hid k0; have K1 := hid k1; have HR := hid hr; have HRS := hid hrs
  have HU := hid (fun W' (b : Bool) (hb : b = true) (e : Int) (h : Blk W' (w.heap.size + 1) 65 #[.int .i64 0]) => up_unless (w.heap.size + 1) b e 0 W' h)
  obtain ⟨N, hN⟩ : ∃ N, ss.length = N := ⟨_, rfl⟩
  have HNL := hid hN
  obtain ⟨A, c, hsv⟩ : ∃ A c, sv = .slice A N c := by
    rcases h.row.2 with ⟨rfl, h0⟩ | ⟨g, cap, cur, rfl, _⟩
    · exact ⟨none, 0, by rw [← hN, h0]⟩
    · exact ⟨_, cap, by rw [hN]⟩
  have h8' : (N : Int) < 8 := by omega
  have HSV := hid hsv; have HBS := hid hbs
  clear h hB hW k0 k1 hr hN h8 hrs hZ hsv hbs
  go_enter_defers Tryd.func8, Tryd.ntmps8
  go_wp2_with fail
  rw [← HW.out]
  refine (up_valid HH.out.hd).mono ?_
  rintro _ _ ⟨rfl, rfl⟩
  go_wp2_with fail
  refine (HU.out W true rfl 1 K1.out).mono ?_
  rintro _ w1 ⟨rfl, hc, hz, hb⟩
  have HH1 := hid (HH.out.chg hc (fun b hb hm => by have := HLT.out b hb; simp at hm; omega))
  have K0 := hid (K0.out.chg hc (by simp)); have K1 := hid (show Blk w1 (w.heap.size + 1) 65 #[.int .i64 0] by simpa using hb)
  have HB1 := hid (HB.out.trans (hc.below (B := w.heap.size) (fun b hb => by simp at hb; omega) HB.out.size))
  clear hc hz hb HW HH HB
  go_wp2_with fail
  refine (HR.out w1 HB1.out).mono ?_
  rintro _ w2 ⟨rfl, hb⟩
  have HH2 := hid (HH1.out.keep hb); have K0 := hid (K0.out.keep hb); have K1 := hid (K1.out.keep hb); have HB2 := hid (HB1.out.trans (hb.mono HB1.out.size))
  clear hb HH1 HB1
  go_wp2_with fail
  refine (HU.out w2 true rfl 7 K1.out).mono ?_
  rintro _ w3 ⟨rfl, hc, hz, hb⟩
  have HH3 := hid (HH2.out.chg hc (fun b hb hm => by have := HLT.out b hb; simp at hm; omega))
  have K0 := hid (K0.out.chg hc (by simp)); have K1 := hid (show Blk w3 (w.heap.size + 1) 65 #[.int .i64 0] by simpa using hb)
  have HB3 := hid (HB2.out.trans (hc.below (B := w.heap.size) (fun b hb => by simp at hb; omega) HB2.out.size))
  have c3 : w3.cell? ⟨t, 3, none⟩ = some (.slice A N c) := by rw [← HSV.out]; exact HH3.out.hd.cell 3 rfl
  clear hc hz hb HH2 HB2
  go_wp2_with fail
  refine (HU.out w3 _ rfl 10 K1.out).mono ?_
  rintro _ w4 ⟨rfl, hc, hz, hb⟩
  have HH4 := hid (HH3.out.chg hc (fun b hb hm => by have := HLT.out b hb; simp at hm; omega))
  have K0 := hid (K0.out.chg hc (by simp)); have K1 := hid (show Blk w4 (w.heap.size + 1) 65 #[.int .i64 0] by simpa using hb)
  have HB4 := hid (HB3.out.trans (hc.below (B := w.heap.size) (fun b hb => by simp at hb; omega) HB3.out.size))
  have c2 : w4.cell? ⟨t, 2, none⟩ = some (.int .i64 next) := HH4.out.hd.cell 2 rfl
  clear hc hz hb HH3 HB3 c3
  go_wp2_with fail
  refine (HU.out w4 _ rfl 21 K1.out).mono ?_
  rintro _ w4b ⟨rfl, hc, hz, hb⟩
  have HH5 := hid (HH4.out.chg hc (fun b hb hm => by have := HLT.out b hb; simp at hm; omega))
  have K0 := hid (K0.out.chg hc (by simp)); have K1 := hid (show Blk w4b (w.heap.size + 1) 65 #[.int .i64 0] by simpa using hb)
  have HB5 := hid (HB4.out.trans (hc.below (B := w.heap.size) (fun b hb => by simp at hb; omega) HB4.out.size))
  have HD := HH5.out.hd
  have c2 : w4b.cell? ⟨t, 2, none⟩ = some (.int .i64 next) := HD.cell 2 rfl
  have z2 := HD.frozen 2
  have hnx : IntKind.i64.wrap (next + 1) = next + 1 := IntWalk.i64_in _ (by omega)
  have hset := HD.set_ 2 (.int .i64 (next + 1))
  have hcset : Chg [t] w4b (w4b.setCell ⟨t, 2, none⟩ (.int .i64 (next + 1))) := Chg.of_grown (grown_setCell w4b t 2 _) (fun g e => by cases e; simp)
  have htn : ∀ x ∈ qs, t ∉ upBlocks x.1 x.2.1 x.2.2 := fun x hx hm => by
    obtain ⟨s, _, hs⟩ := HH5.out.at_ hx
    rcases hs.tys hm with h | h | h
    · exact HD.ty.ne h (by decide) rfl
    · exact HD.ty.ne h (by decide) rfl
    · exact HD.ty.ne h (by decide) rfl
  have htr : sv.ownBlock ≠ some t := fun e => HD.ty.ne (row_ty HH5.out.row e) (by decide) rfl
  have HT := hid (show UpB (w4b.setCell ⟨t, 2, none⟩ (.int .i64 (next + 1))) base t width (next + 1) ss sv qs from
    { hd := by simpa [upCells] using hset
      row := row_chg HH5.out.row hcset (fun b hb hm => htr (by rw [← List.mem_singleton.1 hm]; exact hb))
      each := fun k s x hs hx => (HH5.out.each k s x hs hx).chg hcset (fun b hb hm => htn x (List.mem_of_getElem? hx) (by rw [← List.mem_singleton.1 hm]; exact hb))
      apart := HH5.out.apart
      ht := HH5.out.ht })
  have HNE := hid htr
  have HN := hid (show N ≤ 1000000 by omega)
  have K0 := hid (K0.out.chg hcset (by have := HLT.out t (mem_upF.2 (.inl rfl)); simp; omega)); have K1 := hid (K1.out.chg hcset (by have := HLT.out t (mem_upF.2 (.inl rfl)); simp; omega))
  have HCS := hid (show Chg [t] w (w4b.setCell ⟨t, 2, none⟩ (.int .i64 (next + 1))) from (Chg.of_below HB5.out).trans hcset (fun b hb => .inl hb))
  have HQN := hid (show ∀ W, Chg [w.heap.size] W W → True from fun _ _ => trivial)
  clear hc hz hb HH4 HB4 hset hcset htn htr HH5 HB5 HD HU HR HQN
  go_wp2_with fail
  generalize w4b.setCell ⟨t, 2, none⟩ (.int .i64 (next + 1)) = w5 at HT K0 K1 HCS ⊢
  have HBS := hid (Nat.le_trans HBS.out HCS.out.size)
  have HSZ := hid (fun W (hW : Below w5.heap.size w5 W) => (Nat.le_trans HBS.out hW.size : base ≤ W.heap.size))
  obtain ⟨next1, hnext1⟩ : ∃ x, next + 1 = x := ⟨_, rfl⟩
  have HX1 := hid hnext1
  rw [hnext1] at HT
  clear hnx z2 c2 hnext1
  refine wp_region_invG 58 (.pointer none) (stVal t sv next r) (ApS w5 base t 3 29 68 (upCells t width next1 sv) sv N (qs.map fun x => .pointer (some ⟨x.1, 0, none⟩)) 8 9 10 13 (StP w5 base (US.mk' next r [])) (fun _ _ => True)) (by kernel_rfl) (by kernel_rfl) (by exact Nat.le_refl 58) ?_ ?_ ?_
  · exact ApS.start w5 base t 3 _ _ _ _ _ _ 8 9 10 13 14 _ _ (by decide) _ HT.out.hd rfl (by rw [← HNL.out]; exact HT.out.row) HBS.out (by intro e; exact HNE.out e) (stp_st HT.out)
  · intro i o f gh a W hi hf hdep hsame hcl hval hS
    rcases i with _ | _ | _ | _ | _ | _ | _ | _ | _ | _ | _ | _ | _ | _ | i
    all_goals simp only [List.getElem?_cons_succ, List.getElem?_cons_zero, List.getElem?_nil, Option.some.injEq, reduceCtorEq] at hi
    all_goals subst hi
    · have E0 : a.tmps[0]? = some (.pointer (some ⟨t, 0, none⟩)) := (same_of hsame 0 (by rfl)).trans rfl
      refine g_plain rfl ?_
      exact does_value (w' := W) (v := .pointer (some ⟨t, 0, none⟩)) (by go_simp) ⟨.pointer none, .inr rfl, hS.step (Below.refl _ _) 0 (.pointer none) (by decide) (by decide) (by decide) (by decide)⟩
    · have E0 : a.tmps[0]? = some (.pointer (some ⟨t, 0, none⟩)) := (same_of hsame 0 (by rfl)).trans rfl
      refine g_plain rfl ?_
      exact does_value (w' := W) (v := .pointer (some ⟨t, 0, none⟩)) (by go_simp) ⟨.pointer none, .inr rfl, hS.step (Below.refl _ _) 1 (.pointer none) (by decide) (by decide) (by decide) (by decide)⟩
    · have E45 := hval 1 _ 45 rfl rfl (dep_of hdep 1 (by rfl))
      unfold stVal at E45
      refine g_plain rfl ?_
      exact does_value (w' := W) (v := .pointer (some ⟨t, 0, none⟩)) (by go_simp) ⟨.pointer none, .inr rfl, hS.step (Below.refl _ _) 2 (.pointer none) (by decide) (by decide) (by decide) (by decide)⟩
    · have E46 := hval 2 _ 46 rfl rfl (dep_of hdep 2 (by rfl))
      unfold stVal at E46
      refine g_plain rfl ?_
      exact does_value (w' := W) (v := .pointer (some ⟨t, 3, none⟩)) (by go_simp) ⟨.pointer none, .inr rfl, hS.step (Below.refl _ _) 3 (.pointer none) (by decide) (by decide) (by decide) (by decide)⟩
    · have E47 := hval 3 _ 47 rfl rfl (dep_of hdep 3 (by rfl))
      unfold stVal at E47
      have n10 := not_yet hcl hf 10 (by rfl)
      have n13 := not_yet hcl n10 13 (by rfl)
      have c0 := hS.cell n13
      refine g_plain rfl ?_
      exact does_value (w' := W) (v := sv) (by go_simp) ⟨.pointer none, .inr rfl, hS.step (Below.refl _ _) 4 (.pointer none) (by decide) (by decide) (by decide) (by decide)⟩
    · have E4 : a.tmps[4]? = some (.int .i64 next) := (same_of hsame 4 (by rfl)).trans rfl
      refine g_plain rfl ?_
      exact does_value (w' := W) (v := .int .i64 next) (by go_simp) ⟨.pointer none, .inr rfl, hS.step (Below.refl _ _) 5 (.pointer none) (by decide) (by decide) (by decide) (by decide)⟩
    · have E1 : a.tmps[1]? = some (.string r) := (same_of hsame 1 (by rfl)).trans rfl
      refine g_plain rfl ?_
      exact does_value (w' := W) (v := .string r) (by go_simp) ⟨.pointer none, .inr rfl, hS.step (Below.refl _ _) 6 (.pointer none) (by decide) (by decide) (by decide) (by decide)⟩
    · have E49 := hval 5 _ 49 rfl rfl (dep_of hdep 5 (by rfl))
      have E50 := hval 6 _ 50 rfl rfl (dep_of hdep 6 (by rfl))
      unfold stVal at E49 E50
      refine g_plain rfl ?_
      exact does_value (w' := W) (v := .agg #[.int .i64 next, .string r, .slice none 0 0]) (by go_simp) ⟨.pointer none, .inr rfl, hS.step (Below.refl _ _) 7 (.pointer none) (by decide) (by decide) (by decide) (by decide)⟩
    · have E51 := hval 7 _ 51 rfl rfl (dep_of hdep 7 (by rfl))
      unfold stVal at E51
      refine g_plain rfl ?_
      refine does_call 30 #[.agg #[.int .i64 next, .string r, .slice none 0 0]] (by go_simp) ((up_new next r none 0 0 0 [] W (SB.nil _ _ _) (by omega) HRS.out).mono ?_)
      rintro _ W' ⟨q, pv, us, rfl, hse, hb⟩
      exact ⟨_, rfl, .pointer (some ⟨q, 0, none⟩), .inr rfl, hS.call hf (by decide) (by decide) (by decide) hb _ ⟨q, pv, us, rfl, hse.lower (HSZ.out W (hS.pre hf)), fun b hbb => Nat.le_trans hS.chg.size (hse.lt b hbb).1⟩⟩
    · have E52 := hval 8 _ 52 rfl rfl (dep_of hdep 8 (by rfl))
      unfold stVal at E52
      refine g_plain rfl ?_
      obtain ⟨q, pv, us, eq, -, -⟩ := hS.post (dep_of hdep 8 (by rfl))
      rw [eq] at E52
      have hB := hS.build (dep_of hdep 8 (by rfl)) hf (by decide) (by decide) (by decide)
      rw [eq] at hB
      exact does_value (w' := W.alloc (.cells #[.pointer (some ⟨q, 0, none⟩)] 68)) (v := .slice (some ⟨W.heap.size, 0, none⟩) 1 1) (by go_simp) ⟨.slice (some ⟨W.heap.size, 0, none⟩) 1 1, .inr rfl, hB⟩
    · have E48 := hval 4 _ 48 rfl rfl (dep_of hdep 4 (by rfl))
      have E53 := hval 9 _ 53 rfl rfl (dep_of hdep 9 (by rfl))
      unfold stVal at E48 E53
      refine g_plain rfl ?_
      have hpost := hS.post ((hS.lit (dep_of hdep 9 (by rfl))).1)
      obtain ⟨q, pv, us, eq, -, -⟩ := hpost
      obtain ⟨qq, v', W', e6, hr, hS'⟩ := hS.app (P := Tryd.prog) (dep_of hdep 9 (by rfl)) hf (by decide) (by decide) (by decide) 27 27 Tryd.underlying27 up_info_ptr rfl HN.out (by decide) (by rw [eq]; rfl) trivial
      rw [e6] at E53
      exact does_append _ _ _ rfl (by rw [eval_getD, E48]; rfl) (by rw [eval_getD, E53]; rfl) hr ⟨v', .inr rfl, hS'⟩
    · have E44 := hval 0 _ 44 rfl rfl (dep_of hdep 0 (by rfl))
      unfold stVal at E44
      refine g_plain rfl ?_
      exact does_value (w' := W) (v := .pointer (some ⟨t, 0, none⟩)) (by go_simp) ⟨.pointer none, .inr rfl, hS.step (Below.refl _ _) 11 (.pointer none) (by decide) (by decide) (by decide) (by decide)⟩
    · have E55 := hval 11 _ 55 rfl rfl (dep_of hdep 11 (by rfl))
      unfold stVal at E55
      refine g_plain rfl ?_
      exact does_value (w' := W) (v := .pointer (some ⟨t, 3, none⟩)) (by go_simp) ⟨.pointer none, .inr rfl, hS.step (Below.refl _ _) 12 (.pointer none) (by decide) (by decide) (by decide) (by decide)⟩
    · have E56 := hval 12 _ 56 rfl rfl (dep_of hdep 12 (by rfl))
      have E54 := hval 10 _ 54 rfl rfl (dep_of hdep 10 (by rfl))
      unfold stVal at E56 E54
      refine g_plain rfl ?_
      obtain ⟨g2, c2, e7⟩ := hS.form (dep_of hdep 10 (by rfl))
      rw [e7] at E54
      have c0 := hS.cell hf; have z0 := hS.frozen hf
      exact does_skip (w' := W.setCell ⟨t, 3, none⟩ (.slice (some ⟨g2, 0, none⟩) (N + 1) c2)) (by go_simp) ⟨.pointer none, .inl rfl, hS.put (dep_of hdep 10 (by rfl)) hf (by decide) (by decide) (by decide) (.pointer none) e7⟩
  · intro gh W hS
    obtain ⟨hap, hup⟩ := hS.up rfl
    obtain ⟨g2, c2, e8⟩ := hS.form rfl
    obtain ⟨-, hrow, hmv⟩ := hS.ap rfl
    obtain ⟨q, pv, us, eq, hse, hge⟩ := hS.post rfl
    have hch := hS.chg
    rw [e8] at hup hrow hmv
    rw [eq] at hrow
    have hd : Blk W t 29 (upCells t width next1 (.slice (some ⟨g2, 0, none⟩) (N + 1) c2)) := by simpa [upCells] using hup
    have hold : ∀ x ∈ qs, ∀ b ∈ upBlocks x.1 x.2.1 x.2.2, b < w5.heap.size ∧ b ∉ t :: sv.ownBlock.toList := fun x hx b hb => by
      obtain ⟨s, _, hs⟩ := HT.out.at_ hx
      refine ⟨(hs.lt b hb).2, fun hm => ?_⟩
      rcases List.mem_cons.1 hm with rfl | hm
      · rcases hs.tys hb with h | h | h
        · exact HT.out.hd.ty.ne h (by decide) rfl
        · exact HT.out.hd.ty.ne h (by decide) rfl
        · exact HT.out.hd.ty.ne h (by decide) rfl
      · have hr := row_ty HT.out.row (b := b) (by simpa using hm)
        rcases hs.tys hb with h | h | h
        · exact hr.ne h (by decide) rfl
        · exact hr.ne h (by decide) rfl
        · exact hr.ne h (by decide) rfl
    have hql := HT.out.len
    have HEnd := hid (show UpB W base t width next1 (ss ++ [US.mk' next r []]) (.slice (some ⟨g2, 0, none⟩) (N + 1) c2) (qs ++ [(q, pv, us)]) from
      { hd := hd
        row := by rw [List.length_append, HNL.out, List.map_append]; exact hrow
        each := fun k s x hs hx => by
          by_cases hk : k < ss.length
          · rw [List.getElem?_append_left hk] at hs
            rw [List.getElem?_append_left (by omega)] at hx
            exact (HT.out.each k s x hs hx).chg hch (fun b hb => (hold x (List.mem_of_getElem? hx) b hb).2)
          · rw [List.getElem?_append_right (by omega)] at hs hx
            have e1 : k - ss.length = 0 := by
              have := (List.getElem?_eq_some_iff.1 hs).1
              simp at this; omega
            rw [e1] at hs
            rw [show k - qs.length = 0 by omega] at hx
            cases hs; cases hx
            exact hse
        apart := fun i j x y hij hx hy b hb hb2 => by
          by_cases hi : i < qs.length
          · rw [List.getElem?_append_left hi] at hx
            by_cases hj : j < qs.length
            · rw [List.getElem?_append_left hj] at hy
              exact HT.out.apart i j x y hij hx hy b hb hb2
            · rw [List.getElem?_append_right (by omega)] at hy
              have e1 : j - qs.length = 0 := by
                have := (List.getElem?_eq_some_iff.1 hy).1
                simp at this; omega
              rw [e1] at hy
              cases hy
              have h1 := (hold x (List.mem_of_getElem? hx) b hb).1
              have h2 := hge b hb2
              omega
          · rw [List.getElem?_append_right (by omega)] at hx
            have e0 : i - qs.length = 0 := by
              have := (List.getElem?_eq_some_iff.1 hx).1
              simp at this; omega
            rw [e0] at hx
            cases hx
            by_cases hj : j < qs.length
            · rw [List.getElem?_append_left hj] at hy
              have h1 := (hold y (List.mem_of_getElem? hy) b hb2).1
              have h2 := hge b hb
              omega
            · rw [List.getElem?_append_right (by omega)] at hy
              have := (List.getElem?_eq_some_iff.1 hy).1
              simp at this; omega
        ht := HT.out.ht })
    have HF := hid (show ∀ b ∈ upF t (.slice (some ⟨g2, 0, none⟩) (N + 1) c2) (qs ++ [(q, pv, us)]), b ∈ upF t sv qs ∨ w.heap.size ≤ b from fun b hb => by
      have hw5 := HCS.out.size
      rcases mem_upF.1 hb with rfl | hb | ⟨x, hx, hb⟩
      · exact .inl (mem_upF.2 (.inl rfl))
      · rcases hmv with hm | ⟨b', hm, hb', -⟩
        · rw [hb] at hm
          exact .inl (mem_upF.2 (.inr (.inl hm.symm)))
        · rw [hb] at hm
          cases hm
          exact .inr (by omega)
      · rcases List.mem_append.1 hx with hx | hx
        · exact .inl (mem_upF.2 (.inr (.inr ⟨x, hx, hb⟩)))
        · rw [List.mem_singleton.1 hx] at hb
          exact .inr (Nat.le_trans hw5 (hge b hb)))
    have hrl : ∀ b, sv.ownBlock = some b → b < w.heap.size := fun b hb => HLT.out b (mem_upF.2 (.inr (.inl hb)))
    have htl := HLT.out t (mem_upF.2 (.inl rfl))
    have hnm : w.heap.size ∉ t :: sv.ownBlock.toList ∧ w.heap.size + 1 ∉ t :: sv.ownBlock.toList := ⟨fun hm => by
      rcases List.mem_cons.1 hm with e | hm
      · omega
      · have := hrl _ (by simpa using hm); omega, fun hm => by
      rcases List.mem_cons.1 hm with e | hm
      · omega
      · have := hrl _ (by simpa using hm); omega⟩
    have K0 := hid (K0.out.chg hch hnm.1); have K1 := hid (K1.out.chg hch hnm.2)
    have HCW := hid (show Chg (t :: sv.ownBlock.toList) w W from (HCS.out.more (fun b hb => .inl (by rw [List.mem_singleton.1 hb]; exact List.mem_cons_self ..))).trans hch (fun b hb => .inl hb))
    have HNG := hid (show ∀ b ∈ upF t (.slice (some ⟨g2, 0, none⟩) (N + 1) c2) (qs ++ [(q, pv, us)]), b ≠ w.heap.size from fun b hb e => by
      subst e
      have hk := K0.out.ty
      rcases mem_upF.1 hb with hb | hb | ⟨x, hx, hb⟩
      · omega
      · exact hk.ne (row_ty hrow hb) (by decide) rfl
      · obtain ⟨s, _, hs⟩ := HEnd.out.at_ hx
        rcases hs.tys hb with h | h | h
        · exact hk.ne h (by decide) rfl
        · exact hk.ne h (by decide) rfl
        · exact hk.ne h (by decide) rfl)
    have c0 : W.cell? ⟨w.heap.size, 0, none⟩ = some (.int .i64 0) := K0.out.cell 0 rfl
    have z0 := K0.out.frozen 0
    clear hS hap hup e8 hrow hmv hch hd hold hql hrl htl hnm hse hge eq
    simp only [putAll, stVal, Nat.reduceAdd, Nat.zero_add, Act.put, List.setIfInBounds_toArray, List.set_cons_zero, List.set_cons_succ]
    go_wp2_with fail
    refine up_door rfl 0 0 0 _ rfl (fun _ => by simp [go_sem]) (fun W z hy hx => up_doorStart _ _ _ _ _ W hy hx) K0.out K1.out rfl rfl (fun W' hW => ⟨rfl, _, _, by rw [HX1.out]; exact HEnd.out.chg hW (fun b hb hm => HNG.out b hb (List.mem_singleton.1 hm)), HCW.out.trans hW (fun b hb => .inr (by rw [List.mem_singleton.1 hb]; exact Nat.le_refl _)), HF.out⟩)
end
end Go.Proofs.YtgacdimjbpkgoaaDoor
