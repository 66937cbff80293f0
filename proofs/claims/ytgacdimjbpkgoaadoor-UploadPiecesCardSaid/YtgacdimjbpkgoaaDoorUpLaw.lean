/- Contract: an upload is started. -/
import Derived.Test.YtgacdimjbpkgoaaDoorUpTab
import Derived.Test.YtgacdimjbpkgoaaDoorNmRepoOf
import Derived.Lib.ConvBytes
namespace Go.Proofs.YtgacdimjbpkgoaaDoor
open Go.RowKit
attribute [local go_sem] up_mkf

theorem up_info_ptr : (Tryd.prog.info? 68).map (fun i => (i.zero, i.size, i.bytes)) = some (some (.pointer none), 1, 8) := by kernel_rfl
/-- a new session -/
def StP (w1 : World) (base : Nat) (s : US) (v : Value) (W : World) : Prop := ∃ q pv us, v = .pointer (some ⟨q, 0, none⟩) ∧ SessB W base q s pv us ∧ ∀ b ∈ upBlocks q pv us, w1.heap.size ≤ b
theorem stp_st {w : World} {base t : Nat} {width next : Int} {ss : List US} {sv : Value} {qs : List (Nat × Value × List Value)} {s : US} (h : UpB w base t width next ss sv qs) : ∀ v W W', w.heap.size ≤ W.heap.size → Chg (t :: sv.ownBlock.toList) W W' → StP w base s v W → StP w base s v W' := fun v W W' _ hc ⟨q, pv, us, e, hs, hb⟩ =>
  ⟨q, pv, us, e, hs.chg hc (fun b hbb hm => by
    have h1 := hb b hbb
    rcases List.mem_cons.1 hm with rfl | hm
    · have := h.hd.lt; omega
    · have := (World.ownsRow.lt h.row b (by simpa using hm)).2; omega), hb⟩
def stVal (t : Nat) (sv : Value) (next : Int) (r : ByteArray) : Nat → Value → Value
  | 0, _ => .pointer (some ⟨t, 0, none⟩)
  | 1, _ => .pointer (some ⟨t, 0, none⟩)
  | 2, _ => .pointer (some ⟨t, 0, none⟩)
  | 3, _ => .pointer (some ⟨t, 3, none⟩)
  | 4, _ => sv
  | 5, _ => .int .i64 next
  | 6, _ => .string r
  | 7, _ => .agg #[.int .i64 next, .string r, .slice none 0 0]
  | 8, k => k
  | 9, k => k
  | 10, k => k
  | 11, _ => .pointer (some ⟨t, 0, none⟩)
  | 12, _ => .pointer (some ⟨t, 3, none⟩)
  | _, _ => undef
section
variable {w : World} {base t : Nat} {width next : Int} {ss : List US} {sv : Value} {qs : List (Nat × Value × List Value)}
set_option maxHeartbeats 8000000 in
set_option maxRecDepth 20000 in
theorem up_start (h : UpB w base t width next ss sv qs) (hbs : base ≤ w.heap.size) (r : ByteArray) (hrs : r.size ≤ 281474976710656) (hr : ∀ W, Below w.heap.size w W → Calls Tryd.prog 29 #[.string r] W fun e w' => e = .returned (.bool true) ∧ Below W.heap.size W w') (h8 : ss.length < 8) (hx0 : 1 ≤ next) (hx : next ≤ 1048576) :
    Calls Tryd.prog 8 #[.pointer (some ⟨t, 0, none⟩), .string r] w fun e w' => e = .returned (.tuple #[.int .i64 next, .int .i64 0]) ∧ ∃ sv' qs', UpB w' base t width (next + 1) (ss ++ [US.mk' next r []]) sv' qs' ∧ Chg (t :: sv.ownBlock.toList) w w' ∧ (∀ b ∈ upF t sv' qs', b ∈ upF t sv qs ∨ w.heap.size ≤ b) := by
  obtain ⟨W, hW, k0, k1, hB, hZ⟩ := up_two w #[.int .i64 0] #[.int .i64 0] 31 65
  have HLT := hid (fun b (hb : b ∈ upF t sv qs) => (h.lt b hb).2)
  have HH := hid (h.keep hB); have HB := hid hB; have HW := hid hW
  have K0 := hid k0; have K1 := hid k1; have HR := hid hr; have HRS := hid hrs
  have HU := hid (fun W' (b : Bool) (hb : b = true) (e : Int) (h : Blk W' (w.heap.size + 1) 65 #[.int .i64 0]) => up_unless (w.heap.size + 1) b e 0 W' h)
  obtain ⟨N, hN⟩ : ∃ N, ss.length = N := ⟨_, rfl⟩
  have HNL := hid hN
  obtain ⟨A, c, hsv⟩ : ∃ A c, sv = .slice A N c := by
    rcases h.row.2 with ⟨rfl, h0⟩ | ⟨g, cap, cur, rfl, _⟩
    · exact ⟨none, 0, by rw [← hN, h0]⟩
    · exact ⟨_, cap, by rw [hN]⟩
  have h8' : (N : Int) < 8 := by omega
  have HSV := hid hsv; have HBS := hid hbs
  clear h hB hW k0 k1 hr hN h8 hrs hZ hsv hbs
  go_enter_defers Tryd.func8, Tryd.ntmps8
  go_wp2_with fail
  rw [← HW.out]
  refine (up_valid HH.out.hd).mono ?_
  rintro _ _ ⟨rfl, rfl⟩
  go_wp2_with fail
  refine (HU.out W true rfl 1 K1.out).mono ?_
  rintro _ w1 ⟨rfl, hc, hz, hb⟩
  have HH1 := hid (HH.out.chg hc (fun b hb hm => by have := HLT.out b hb; simp at hm; omega))
  have K0 := hid (K0.out.chg hc (by simp)); have K1 := hid (show Blk w1 (w.heap.size + 1) 65 #[.int .i64 0] by simpa using hb)
  have HB1 := hid (HB.out.trans (hc.below (B := w.heap.size) (fun b hb => by simp at hb; omega) HB.out.size))
  clear hc hz hb HW HH HB
  go_wp2_with fail
  refine (HR.out w1 HB1.out).mono ?_
  rintro _ w2 ⟨rfl, hb⟩
  have HH2 := hid (HH1.out.keep hb); have K0 := hid (K0.out.keep hb); have K1 := hid (K1.out.keep hb); have HB2 := hid (HB1.out.trans (hb.mono HB1.out.size))
  clear hb HH1 HB1
  go_wp2_with fail
  refine (HU.out w2 true rfl 7 K1.out).mono ?_
  rintro _ w3 ⟨rfl, hc, hz, hb⟩
  have HH3 := hid (HH2.out.chg hc (fun b hb hm => by have := HLT.out b hb; simp at hm; omega))
  have K0 := hid (K0.out.chg hc (by simp)); have K1 := hid (show Blk w3 (w.heap.size + 1) 65 #[.int .i64 0] by simpa using hb)
  have HB3 := hid (HB2.out.trans (hc.below (B := w.heap.size) (fun b hb => by simp at hb; omega) HB2.out.size))
  have c3 : w3.cell? ⟨t, 3, none⟩ = some (.slice A N c) := by rw [← HSV.out]; exact HH3.out.hd.cell 3 rfl
  clear hc hz hb HH2 HB2
  go_wp2_with fail
  refine (HU.out w3 _ rfl 10 K1.out).mono ?_
  rintro _ w4 ⟨rfl, hc, hz, hb⟩
  have HH4 := hid (HH3.out.chg hc (fun b hb hm => by have := HLT.out b hb; simp at hm; omega))
  have K0 := hid (K0.out.chg hc (by simp)); have K1 := hid (show Blk w4 (w.heap.size + 1) 65 #[.int .i64 0] by simpa using hb)
  have HB4 := hid (HB3.out.trans (hc.below (B := w.heap.size) (fun b hb => by simp at hb; omega) HB3.out.size))
  have c2 : w4.cell? ⟨t, 2, none⟩ = some (.int .i64 next) := HH4.out.hd.cell 2 rfl
  clear hc hz hb HH3 HB3 c3
  go_wp2_with fail
  refine (HU.out w4 _ rfl 21 K1.out).mono ?_
  rintro _ w4b ⟨rfl, hc, hz, hb⟩
  have HH5 := hid (HH4.out.chg hc (fun b hb hm => by have := HLT.out b hb; simp at hm; omega))
  have K0 := hid (K0.out.chg hc (by simp)); have K1 := hid (show Blk w4b (w.heap.size + 1) 65 #[.int .i64 0] by simpa using hb)
  have HB5 := hid (HB4.out.trans (hc.below (B := w.heap.size) (fun b hb => by simp at hb; omega) HB4.out.size))
  have HD := HH5.out.hd
  have c2 : w4b.cell? ⟨t, 2, none⟩ = some (.int .i64 next) := HD.cell 2 rfl
  have z2 := HD.frozen 2
  have hnx : IntKind.i64.wrap (next + 1) = next + 1 := IntWalk.i64_in _ (by omega)
  have hset := HD.set_ 2 (.int .i64 (next + 1))
  have hcset : Chg [t] w4b (w4b.setCell ⟨t, 2, none⟩ (.int .i64 (next + 1))) := Chg.of_grown (grown_setCell w4b t 2 _) (fun g e => by cases e; simp)
  have htn : ∀ x ∈ qs, t ∉ upBlocks x.1 x.2.1 x.2.2 := fun x hx hm => by
    obtain ⟨s, _, hs⟩ := HH5.out.at_ hx
    rcases hs.tys hm with h | h | h
    · exact HD.ty.ne h (by decide) rfl
    · exact HD.ty.ne h (by decide) rfl
    · exact HD.ty.ne h (by decide) rfl
  have htr : sv.ownBlock ≠ some t := fun e => HD.ty.ne (row_ty HH5.out.row e) (by decide) rfl
  have HT := hid (show UpB (w4b.setCell ⟨t, 2, none⟩ (.int .i64 (next + 1))) base t width (next + 1) ss sv qs from
    { hd := by simpa [upCells] using hset
      row := row_chg HH5.out.row hcset (fun b hb hm => htr (by rw [← List.mem_singleton.1 hm]; exact hb))
      each := fun k s x hs hx => (HH5.out.each k s x hs hx).chg hcset (fun b hb hm => htn x (List.mem_of_getElem? hx) (by rw [← List.mem_singleton.1 hm]; exact hb))
      apart := HH5.out.apart
      ht := HH5.out.ht })
  have HNE := hid htr
  have HN := hid (show N ≤ 1000000 by omega)
  have K0 := hid (K0.out.chg hcset (by have := HLT.out t (mem_upF.2 (.inl rfl)); simp; omega)); have K1 := hid (K1.out.chg hcset (by have := HLT.out t (mem_upF.2 (.inl rfl)); simp; omega))
  have HCS := hid (show Chg [t] w (w4b.setCell ⟨t, 2, none⟩ (.int .i64 (next + 1))) from (Chg.of_below HB5.out).trans hcset (fun b hb => .inl hb))
  have HQN := hid (show ∀ W, Chg [w.heap.size] W W → True from fun _ _ => trivial)
  clear hc hz hb HH4 HB4 hset hcset htn htr HH5 HB5 HD HU HR HQN
  go_wp2_with fail
  generalize w4b.setCell ⟨t, 2, none⟩ (.int .i64 (next + 1)) = w5 at HT K0 K1 HCS ⊢
  have HBS := hid (Nat.le_trans HBS.out HCS.out.size)
  have HSZ := hid (fun W (hW : Below w5.heap.size w5 W) => (Nat.le_trans HBS.out hW.size : base ≤ W.heap.size))
  obtain ⟨next1, hnext1⟩ : ∃ x, next + 1 = x := ⟨_, rfl⟩
  have HX1 := hid hnext1
  rw [hnext1] at HT
  clear hnx z2 c2 hnext1
  refine wp_region_invG 58 (.pointer none) (stVal t sv next r) (ApS w5 base t 3 29 68 (upCells t width next1 sv) sv N (qs.map fun x => .pointer (some ⟨x.1, 0, none⟩)) 8 9 10 13 (StP w5 base (US.mk' next r [])) (fun _ _ => True)) (by kernel_rfl) (by kernel_rfl) (by exact Nat.le_refl 58) ?_ ?_ ?_
  · exact ApS.start w5 base t 3 _ _ _ _ _ _ 8 9 10 13 14 _ _ (by decide) _ HT.out.hd rfl (by rw [← HNL.out]; exact HT.out.row) HBS.out (by intro e; exact HNE.out e) (stp_st HT.out)
  · intro i o f gh a W hi hf hdep hsame hcl hval hS
    rcases i with _ | _ | _ | _ | _ | _ | _ | _ | _ | _ | _ | _ | _ | _ | i
    all_goals simp only [List.getElem?_cons_succ, List.getElem?_cons_zero, List.getElem?_nil, Option.some.injEq, reduceCtorEq] at hi
    all_goals subst hi
    · have E0 : a.tmps[0]? = some (.pointer (some ⟨t, 0, none⟩)) := (same_of hsame 0 (by rfl)).trans rfl
      refine g_plain rfl ?_
      exact does_value (w' := W) (v := .pointer (some ⟨t, 0, none⟩)) (by go_simp) ⟨.pointer none, .inr rfl, hS.step (Below.refl _ _) 0 (.pointer none) (by decide) (by decide) (by decide) (by decide)⟩
    · have E0 : a.tmps[0]? = some (.pointer (some ⟨t, 0, none⟩)) := (same_of hsame 0 (by rfl)).trans rfl
      refine g_plain rfl ?_
      exact does_value (w' := W) (v := .pointer (some ⟨t, 0, none⟩)) (by go_simp) ⟨.pointer none, .inr rfl, hS.step (Below.refl _ _) 1 (.pointer none) (by decide) (by decide) (by decide) (by decide)⟩
    · have E45 := hval 1 _ 45 rfl rfl (dep_of hdep 1 (by rfl))
      unfold stVal at E45
      refine g_plain rfl ?_
      exact does_value (w' := W) (v := .pointer (some ⟨t, 0, none⟩)) (by go_simp) ⟨.pointer none, .inr rfl, hS.step (Below.refl _ _) 2 (.pointer none) (by decide) (by decide) (by decide) (by decide)⟩
    · have E46 := hval 2 _ 46 rfl rfl (dep_of hdep 2 (by rfl))
      unfold stVal at E46
      refine g_plain rfl ?_
      exact does_value (w' := W) (v := .pointer (some ⟨t, 3, none⟩)) (by go_simp) ⟨.pointer none, .inr rfl, hS.step (Below.refl _ _) 3 (.pointer none) (by decide) (by decide) (by decide) (by decide)⟩
    · have E47 := hval 3 _ 47 rfl rfl (dep_of hdep 3 (by rfl))
      unfold stVal at E47
      have n10 := not_yet hcl hf 10 (by rfl)
      have n13 := not_yet hcl n10 13 (by rfl)
      have c0 := hS.cell n13
      refine g_plain rfl ?_
      exact does_value (w' := W) (v := sv) (by go_simp) ⟨.pointer none, .inr rfl, hS.step (Below.refl _ _) 4 (.pointer none) (by decide) (by decide) (by decide) (by decide)⟩
    · have E4 : a.tmps[4]? = some (.int .i64 next) := (same_of hsame 4 (by rfl)).trans rfl
      refine g_plain rfl ?_
      exact does_value (w' := W) (v := .int .i64 next) (by go_simp) ⟨.pointer none, .inr rfl, hS.step (Below.refl _ _) 5 (.pointer none) (by decide) (by decide) (by decide) (by decide)⟩
    · have E1 : a.tmps[1]? = some (.string r) := (same_of hsame 1 (by rfl)).trans rfl
      refine g_plain rfl ?_
      exact does_value (w' := W) (v := .string r) (by go_simp) ⟨.pointer none, .inr rfl, hS.step (Below.refl _ _) 6 (.pointer none) (by decide) (by decide) (by decide) (by decide)⟩
    · have E49 := hval 5 _ 49 rfl rfl (dep_of hdep 5 (by rfl))
      have E50 := hval 6 _ 50 rfl rfl (dep_of hdep 6 (by rfl))
      unfold stVal at E49 E50
      refine g_plain rfl ?_
      exact does_value (w' := W) (v := .agg #[.int .i64 next, .string r, .slice none 0 0]) (by go_simp) ⟨.pointer none, .inr rfl, hS.step (Below.refl _ _) 7 (.pointer none) (by decide) (by decide) (by decide) (by decide)⟩
    · have E51 := hval 7 _ 51 rfl rfl (dep_of hdep 7 (by rfl))
      unfold stVal at E51
      refine g_plain rfl ?_
      refine does_call 30 #[.agg #[.int .i64 next, .string r, .slice none 0 0]] (by go_simp) ((up_new next r none 0 0 0 [] W (SB.nil _ _ _) (by omega) HRS.out).mono ?_)
      rintro _ W' ⟨q, pv, us, rfl, hse, hb⟩
      exact ⟨_, rfl, .pointer (some ⟨q, 0, none⟩), .inr rfl, hS.call hf (by decide) (by decide) (by decide) hb _ ⟨q, pv, us, rfl, hse.lower (HSZ.out W (hS.pre hf)), fun b hbb => Nat.le_trans hS.chg.size (hse.lt b hbb).1⟩⟩
    · have E52 := hval 8 _ 52 rfl rfl (dep_of hdep 8 (by rfl))
      unfold stVal at E52
      refine g_plain rfl ?_
      obtain ⟨q, pv, us, eq, -, -⟩ := hS.post (dep_of hdep 8 (by rfl))
      rw [eq] at E52
      have hB := hS.build (dep_of hdep 8 (by rfl)) hf (by decide) (by decide) (by decide)
      rw [eq] at hB
      exact does_value (w' := W.alloc (.cells #[.pointer (some ⟨q, 0, none⟩)] 68)) (v := .slice (some ⟨W.heap.size, 0, none⟩) 1 1) (by go_simp) ⟨.slice (some ⟨W.heap.size, 0, none⟩) 1 1, .inr rfl, hB⟩
    · have E48 := hval 4 _ 48 rfl rfl (dep_of hdep 4 (by rfl))
      have E53 := hval 9 _ 53 rfl rfl (dep_of hdep 9 (by rfl))
      unfold stVal at E48 E53
      refine g_plain rfl ?_
      have hpost := hS.post ((hS.lit (dep_of hdep 9 (by rfl))).1)
      obtain ⟨q, pv, us, eq, -, -⟩ := hpost
      obtain ⟨qq, v', W', e6, hr, hS'⟩ := hS.app (P := Tryd.prog) (dep_of hdep 9 (by rfl)) hf (by decide) (by decide) (by decide) 27 27 Tryd.underlying27 up_info_ptr rfl HN.out (by decide) (by rw [eq]; rfl) trivial
      rw [e6] at E53
      exact does_append _ _ _ rfl (by rw [eval_getD, E48]; rfl) (by rw [eval_getD, E53]; rfl) hr ⟨v', .inr rfl, hS'⟩
    · have E44 := hval 0 _ 44 rfl rfl (dep_of hdep 0 (by rfl))
      unfold stVal at E44
      refine g_plain rfl ?_
      exact does_value (w' := W) (v := .pointer (some ⟨t, 0, none⟩)) (by go_simp) ⟨.pointer none, .inr rfl, hS.step (Below.refl _ _) 11 (.pointer none) (by decide) (by decide) (by decide) (by decide)⟩
    · have E55 := hval 11 _ 55 rfl rfl (dep_of hdep 11 (by rfl))
      unfold stVal at E55
      refine g_plain rfl ?_
      exact does_value (w' := W) (v := .pointer (some ⟨t, 3, none⟩)) (by go_simp) ⟨.pointer none, .inr rfl, hS.step (Below.refl _ _) 12 (.pointer none) (by decide) (by decide) (by decide) (by decide)⟩
    · have E56 := hval 12 _ 56 rfl rfl (dep_of hdep 12 (by rfl))
      have E54 := hval 10 _ 54 rfl rfl (dep_of hdep 10 (by rfl))
      unfold stVal at E56 E54
      refine g_plain rfl ?_
      obtain ⟨g2, c2, e7⟩ := hS.form (dep_of hdep 10 (by rfl))
      rw [e7] at E54
      have c0 := hS.cell hf; have z0 := hS.frozen hf
      exact does_skip (w' := W.setCell ⟨t, 3, none⟩ (.slice (some ⟨g2, 0, none⟩) (N + 1) c2)) (by go_simp) ⟨.pointer none, .inl rfl, hS.put (dep_of hdep 10 (by rfl)) hf (by decide) (by decide) (by decide) (.pointer none) e7⟩
  · intro gh W hS
    obtain ⟨hap, hup⟩ := hS.up rfl
    obtain ⟨g2, c2, e8⟩ := hS.form rfl
    obtain ⟨-, hrow, hmv⟩ := hS.ap rfl
    obtain ⟨q, pv, us, eq, hse, hge⟩ := hS.post rfl
    have hch := hS.chg
    rw [e8] at hup hrow hmv
    rw [eq] at hrow
    have hd : Blk W t 29 (upCells t width next1 (.slice (some ⟨g2, 0, none⟩) (N + 1) c2)) := by simpa [upCells] using hup
    have hold : ∀ x ∈ qs, ∀ b ∈ upBlocks x.1 x.2.1 x.2.2, b < w5.heap.size ∧ b ∉ t :: sv.ownBlock.toList := fun x hx b hb => by
      obtain ⟨s, _, hs⟩ := HT.out.at_ hx
      refine ⟨(hs.lt b hb).2, fun hm => ?_⟩
      rcases List.mem_cons.1 hm with rfl | hm
      · rcases hs.tys hb with h | h | h
        · exact HT.out.hd.ty.ne h (by decide) rfl
        · exact HT.out.hd.ty.ne h (by decide) rfl
        · exact HT.out.hd.ty.ne h (by decide) rfl
      · have hr := row_ty HT.out.row (b := b) (by simpa using hm)
        rcases hs.tys hb with h | h | h
        · exact hr.ne h (by decide) rfl
        · exact hr.ne h (by decide) rfl
        · exact hr.ne h (by decide) rfl
    have hql := HT.out.len
    have HEnd := hid (show UpB W base t width next1 (ss ++ [US.mk' next r []]) (.slice (some ⟨g2, 0, none⟩) (N + 1) c2) (qs ++ [(q, pv, us)]) from
      { hd := hd
        row := by rw [List.length_append, HNL.out, List.map_append]; exact hrow
        each := fun k s x hs hx => by
          by_cases hk : k < ss.length
          · rw [List.getElem?_append_left hk] at hs
            rw [List.getElem?_append_left (by omega)] at hx
            exact (HT.out.each k s x hs hx).chg hch (fun b hb => (hold x (List.mem_of_getElem? hx) b hb).2)
          · rw [List.getElem?_append_right (by omega)] at hs hx
            have e1 : k - ss.length = 0 := by
              have := (List.getElem?_eq_some_iff.1 hs).1
              simp at this; omega
            rw [e1] at hs
            rw [show k - qs.length = 0 by omega] at hx
            cases hs; cases hx
            exact hse
        apart := fun i j x y hij hx hy b hb hb2 => by
          by_cases hi : i < qs.length
          · rw [List.getElem?_append_left hi] at hx
            by_cases hj : j < qs.length
            · rw [List.getElem?_append_left hj] at hy
              exact HT.out.apart i j x y hij hx hy b hb hb2
            · rw [List.getElem?_append_right (by omega)] at hy
              have e1 : j - qs.length = 0 := by
                have := (List.getElem?_eq_some_iff.1 hy).1
                simp at this; omega
              rw [e1] at hy
              cases hy
              have h1 := (hold x (List.mem_of_getElem? hx) b hb).1
              have h2 := hge b hb2
              omega
          · rw [List.getElem?_append_right (by omega)] at hx
            have e0 : i - qs.length = 0 := by
              have := (List.getElem?_eq_some_iff.1 hx).1
              simp at this; omega
            rw [e0] at hx
            cases hx
            by_cases hj : j < qs.length
            · rw [List.getElem?_append_left hj] at hy
              have h1 := (hold y (List.mem_of_getElem? hy) b hb2).1
              have h2 := hge b hb
              omega
            · rw [List.getElem?_append_right (by omega)] at hy
              have := (List.getElem?_eq_some_iff.1 hy).1
              simp at this; omega
        ht := HT.out.ht })
    have HF := hid (show ∀ b ∈ upF t (.slice (some ⟨g2, 0, none⟩) (N + 1) c2) (qs ++ [(q, pv, us)]), b ∈ upF t sv qs ∨ w.heap.size ≤ b from fun b hb => by
      have hw5 := HCS.out.size
      rcases mem_upF.1 hb with rfl | hb | ⟨x, hx, hb⟩
      · exact .inl (mem_upF.2 (.inl rfl))
      · rcases hmv with hm | ⟨b', hm, hb', -⟩
        · rw [hb] at hm
          exact .inl (mem_upF.2 (.inr (.inl hm.symm)))
        · rw [hb] at hm
          cases hm
          exact .inr (by omega)
      · rcases List.mem_append.1 hx with hx | hx
        · exact .inl (mem_upF.2 (.inr (.inr ⟨x, hx, hb⟩)))
        · rw [List.mem_singleton.1 hx] at hb
          exact .inr (Nat.le_trans hw5 (hge b hb)))
    have hrl : ∀ b, sv.ownBlock = some b → b < w.heap.size := fun b hb => HLT.out b (mem_upF.2 (.inr (.inl hb)))
    have htl := HLT.out t (mem_upF.2 (.inl rfl))
    have hnm : w.heap.size ∉ t :: sv.ownBlock.toList ∧ w.heap.size + 1 ∉ t :: sv.ownBlock.toList := ⟨fun hm => by
      rcases List.mem_cons.1 hm with e | hm
      · omega
      · have := hrl _ (by simpa using hm); omega, fun hm => by
      rcases List.mem_cons.1 hm with e | hm
      · omega
      · have := hrl _ (by simpa using hm); omega⟩
    have K0 := hid (K0.out.chg hch hnm.1); have K1 := hid (K1.out.chg hch hnm.2)
    have HCW := hid (show Chg (t :: sv.ownBlock.toList) w W from (HCS.out.more (fun b hb => .inl (by rw [List.mem_singleton.1 hb]; exact List.mem_cons_self ..))).trans hch (fun b hb => .inl hb))
    have HNG := hid (show ∀ b ∈ upF t (.slice (some ⟨g2, 0, none⟩) (N + 1) c2) (qs ++ [(q, pv, us)]), b ≠ w.heap.size from fun b hb e => by
      subst e
      have hk := K0.out.ty
      rcases mem_upF.1 hb with hb | hb | ⟨x, hx, hb⟩
      · omega
      · exact hk.ne (row_ty hrow hb) (by decide) rfl
      · obtain ⟨s, _, hs⟩ := HEnd.out.at_ hx
        rcases hs.tys hb with h | h | h
        · exact hk.ne h (by decide) rfl
        · exact hk.ne h (by decide) rfl
        · exact hk.ne h (by decide) rfl)
    have c0 : W.cell? ⟨w.heap.size, 0, none⟩ = some (.int .i64 0) := K0.out.cell 0 rfl
    have z0 := K0.out.frozen 0
    clear hS hap hup e8 hrow hmv hch hd hold hql hrl htl hnm hse hge eq
    simp only [putAll, stVal, Nat.reduceAdd, Nat.zero_add, Act.put, List.setIfInBounds_toArray, List.set_cons_zero, List.set_cons_succ]
    go_wp2_with fail
    refine up_door rfl 0 0 0 _ rfl (fun _ => by simp [go_sem]) (fun W z hy hx => up_doorStart _ _ _ _ _ W hy hx) K0.out K1.out rfl rfl (fun W' hW => ⟨rfl, _, _, by rw [HX1.out]; exact HEnd.out.chg hW (fun b hb hm => HNG.out b hb (List.mem_singleton.1 hm)), HCW.out.trans hW (fun b hb => .inr (by rw [List.mem_singleton.1 hb]; exact Nat.le_refl _)), HF.out⟩)
end
end Go.Proofs.YtgacdimjbpkgoaaDoor
/- Contracts: bytes arrive; which texts name a repository. -/
namespace Go.Proofs.YtgacdimjbpkgoaaDoor
open Go.RowKit
attribute [local go_sem] up_mkf

theorem rrun_none (b : List UInt8) : b.foldl (fun (st : Option (FuncId × Nat)) c => st.bind fun x => rstep x.1 x.2 (c.toNat : Int)) none = none := by
  induction b with
  | nil => rfl
  | cons c r ih => exact ih
theorem rdone_not {l : List UInt8} {pos : Nat} (h : RDone l) : ¬ RStop l pos := fun hs => by
  obtain ⟨-, h2⟩ := hs
  by_cases hp : pos < l.length
  · rw [if_pos hp] at h2
    have hr : rrun l = none := by
      have e : l = l.take (pos + 1) ++ l.drop (pos + 1) := (List.take_append_drop _ _).symm
      rw [e]
      unfold rrun at h2 ⊢
      rw [List.foldl_append, h2]
      exact rrun_none _
    rw [RDone, hr] at h
    exact absurd h.1 (by decide)
  · rw [if_neg hp] at h2
    rw [RDone, h2] at h
    exact absurd h.2 (by decide)
theorem up_isRepo_ok (s : ByteArray) (l : List UInt8) (hl : l = s.data.toList) (ha : ∀ b ∈ l, b.toNat < 128) (hs : s.size ≤ 128) (hd : RDone l) (w : World) :
    Calls Tryd.prog 29 #[.string s] w fun e w' => e = .returned (.bool true) ∧ Below w.heap.size w w' := by
  have HR := hid (repo_calls s l hl ha hs w); have HD := hid hd
  clear hl ha hs hd
  go_enter Tryd.func29, Tryd.ntmps29
  go_wp2_with fail
  refine HR.out.mono ?_
  rintro _ w1 ⟨⟨x, y, rfl, hor⟩, hb⟩
  obtain ⟨rfl, rfl⟩ : x = 0 ∧ y = 0 := by
    rcases hor with ⟨pos, hst, _⟩ | ⟨_, h1, h2⟩
    · exact absurd hst (rdone_not HD.out)
    · exact ⟨h1, h2⟩
  have HB := hid hb
  have hfd : ∀ w, (Instr.field 85 (.agg #[.int .i64 0, .int .i64 0]) 0).run Tryd.prog w = .ok (.int .i64 0) w := fun _ => by kernel_rfl
  clear hb hor HR
  go_wp2_with fail
  go_ret
  exact ⟨rfl, HB.out⟩
theorem up_isRepo_bad (s : ByteArray) (l : List UInt8) (hl : l = s.data.toList) (ha : ∀ b ∈ l, b.toNat < 128) (hs : s.size ≤ 128) (hd : ¬ RDone l) (w : World) :
    Calls Tryd.prog 29 #[.string s] w fun e w' => e = .returned (.bool false) ∧ Below w.heap.size w w' := by
  have HR := hid (repo_calls s l hl ha hs w); have HD := hid hd
  clear hl ha hs hd
  go_enter Tryd.func29, Tryd.ntmps29
  go_wp2_with fail
  refine HR.out.mono ?_
  rintro _ w1 ⟨⟨x, y, rfl, hor⟩, hb⟩
  obtain ⟨rfl, pos, rfl⟩ : x = 7 ∧ ∃ pos : Nat, y = (pos : Int) := by
    rcases hor with ⟨pos, hst, h1, h2⟩ | ⟨h0, _⟩
    · exact ⟨h1, pos, h2⟩
    · exact absurd h0 HD.out
  have HB := hid hb
  have hfd : ∀ w, (Instr.field 85 (.agg #[.int .i64 7, .int .i64 (pos : Int)]) 0).run Tryd.prog w = .ok (.int .i64 7) w := fun _ => by kernel_rfl
  clear hb hor HR
  go_wp2_with fail
  go_ret
  exact ⟨rfl, HB.out⟩
section
variable {w : World} {base t : Nat} {width next : Int} {ss : List US} {sv : Value} {qs : List (Nat × Value × List Value)}
set_option maxHeartbeats 4000000 in
set_option maxRecDepth 20000 in
theorem up_start_name (h : UpB w base t width next ss sv qs) (r : ByteArray) (hr : ∀ W, Below w.heap.size w W → Calls Tryd.prog 29 #[.string r] W fun e w' => e = .returned (.bool false) ∧ Below W.heap.size W w') :
    Calls Tryd.prog 8 #[.pointer (some ⟨t, 0, none⟩), .string r] w fun e w' => e = .returned (.tuple #[.int .i64 0, .int .i64 7]) ∧ Below w.heap.size w w' := by
  obtain ⟨W, hW, k0, k1, hB, hZ⟩ := up_two w #[.int .i64 0] #[.int .i64 0] 31 65
  have HH := hid (h.keep hB); have HB := hid hB; have HW := hid hW
  have K0 := hid k0; have K1 := hid k1; have HR := hid hr
  clear h hB hW k0 k1 hr hZ
  go_enter_defers Tryd.func8, Tryd.ntmps8
  go_wp2_with fail
  rw [← HW.out]
  refine (up_valid HH.out.hd).mono ?_
  rintro _ _ ⟨rfl, rfl⟩
  go_wp2_with fail
  refine (up_unless (w.heap.size + 1) true 1 0 W K1.out).mono ?_
  rintro _ w1 ⟨rfl, hc, hz, hb⟩
  have K0 := hid (K0.out.chg hc (by simp)); have K1 := hid (show Blk w1 (w.heap.size + 1) 65 #[.int .i64 0] by simpa using hb)
  have HB1 := hid (HB.out.trans (hc.below (B := w.heap.size) (fun b hb => by simp at hb; omega) HB.out.size))
  clear hc hz hb HW HH HB
  go_wp2_with fail
  refine (HR.out w1 HB1.out).mono ?_
  rintro _ w2 ⟨rfl, hb⟩
  have K0 := hid (K0.out.keep hb); have K1 := hid (K1.out.keep hb); have HB2 := hid (HB1.out.trans (hb.mono HB1.out.size))
  clear hb HB1
  go_wp2_with fail
  refine (up_unless (w.heap.size + 1) false 7 0 w2 K1.out).mono ?_
  rintro _ w3 ⟨rfl, hc, hz, hb⟩
  have K0 := hid (K0.out.chg hc (by simp)); have K1 := hid (show Blk w3 (w.heap.size + 1) 65 #[.int .i64 7] by simpa using hb)
  have HB3 := hid (HB2.out.trans (hc.below (B := w.heap.size) (fun b hb => by simp at hb; omega) HB2.out.size))
  have c0 : w3.cell? ⟨w.heap.size, 0, none⟩ = some (.int .i64 0) := K0.out.cell 0 rfl
  have z0 := K0.out.frozen 0
  clear hc hz hb HB2
  go_wp2_with fail
  refine up_door rfl 7 0 0 _ rfl (fun _ => by simp [go_sem]) (fun W z hy hx => up_doorStart _ _ _ _ _ W hy hx) K0.out K1.out rfl rfl (fun W hW => ⟨rfl, HB3.out.trans (hW.below (B := w.heap.size) (fun b hb => by simp at hb; omega) HB3.out.size)⟩)
set_option maxHeartbeats 4000000 in
set_option maxRecDepth 20000 in
/-- no such session -/
theorem up_write_no (h : UpB w base t width next ss sv qs) (hs : (nosOf ss).Pairwise (· < ·)) (hm : ss.length ≤ 1000000) (x off : Int) (A : Option Addr) (n c : Nat) (hno : hasNo ss x = false) :
    Calls Tryd.prog 9 #[.pointer (some ⟨t, 0, none⟩), .int .i64 x, .int .i64 off, .slice A n c] w fun e w' => e = .returned (.tuple #[.int .i64 0, .int .i64 12]) ∧ Below w.heap.size w w' := by
  obtain ⟨W, hW, k0, k1, hB, hZ⟩ := up_two w #[.int .i64 0] #[.int .i64 0] 31 65
  have HF := hid (up_find_no (h.keep hB) hs hm x (w.heap.size + 1) 0 k1 (fun hb => by have := (h.lt _ hb).2; omega) hno)
  have HW := hid hW; have K0 := hid k0; have HB := hid hB
  clear h hs hm hno hW k0 k1 hB hZ
  go_enter_defers Tryd.func9, Tryd.ntmps9
  go_wp2_with fail
  rw [← HW.out]
  refine HF.out.mono ?_
  rintro _ w2 ⟨rfl, hc, hz, hb⟩
  have K2 := hid (K0.out.chg hc (by simp)); have Y2 := hid hb
  have HB2 := hid (HB.out.trans (hc.below (B := w.heap.size) (fun b hb => by simp at hb; omega) HB.out.size))
  have c0 : w2.cell? ⟨w.heap.size, 0, none⟩ = some (.int .i64 0) := K2.out.cell 0 rfl
  have z0 := K2.out.frozen 0
  clear hc hz hb HF HW
  go_wp2_with fail
  refine up_door rfl 12 0 0 _ rfl (fun _ => by simp [go_sem]) (fun W z hy hx => up_doorWrite _ _ _ _ _ W hy hx) K2.out Y2.out rfl rfl (fun W hW => ⟨rfl, HB2.out.trans (hW.below (B := w.heap.size) (fun b hb => by simp at hb; omega) HB2.out.size)⟩)
set_option maxHeartbeats 4000000 in
set_option maxRecDepth 20000 in
/-- another offset -/
theorem up_write_off (h : UpB w base t width next ss sv qs) (hs : (nosOf ss).Pairwise (· < ·)) (hm : ss.length ≤ 1000000) (x off : Int) (A : Option Addr) (n c : Nat) {s : US} (hss : ss[aheadN (nosOf ss) x]? = some s) (hno : hasNo ss x = true) (ho : off ≠ (s.len : Int)) :
    Calls Tryd.prog 9 #[.pointer (some ⟨t, 0, none⟩), .int .i64 x, .int .i64 off, .slice A n c] w fun e w' => e = .returned (.tuple #[.int .i64 (s.len : Int), .int .i64 13]) ∧ Below w.heap.size w w' := by
  obtain ⟨W, hW, k0, k1, hB, hZ⟩ := up_two w #[.int .i64 0] #[.int .i64 0] 31 65
  have hyf : w.heap.size + 1 ∉ upF t sv qs := fun hb => by have := (h.lt _ hb).2; omega
  have HF := hid (up_find_yes (h.keep hB) hs hm x (w.heap.size + 1) 0 k1 hyf hno)
  have HC := hid (fun q pv us W' (hq : qs[aheadN (nosOf ss) x]? = some (q, pv, us)) (hc : Chg [w.heap.size + 1] W W') => (show W'.cell? ⟨q, 3, none⟩ = some (.int .i64 (s.len : Int)) from
    (((h.keep hB).chg hc (fun b hb hm => hyf (by rw [← List.mem_singleton.1 hm]; exact hb))).each _ s _ hss hq).hd.cell 3 rfl))
  have HW := hid hW; have K0 := hid k0; have HB := hid hB
  generalize (s.len : Int) = sl at HC ho ⊢
  have hod : (off == sl) = false := by simpa using ho
  clear h hs hm hno hW k0 k1 hB hZ hyf
  go_enter_defers Tryd.func9, Tryd.ntmps9
  go_wp2_with fail
  rw [← HW.out]
  refine HF.out.mono ?_
  rintro _ w2 ⟨q, pv, us, hq, rfl, hc, hz, hb⟩
  have cl := HC.out q pv us w2 hq hc
  have K2 := hid (K0.out.chg hc (by simp)); have Y2 := hid hb
  have HB2 := hid (HB.out.trans (hc.below (B := w.heap.size) (fun b hb => by simp at hb; omega) HB.out.size))
  have HC2 := hid (fun W' (hc' : Chg [w.heap.size + 1] w2 W') => HC.out q pv us W' hq (hc.trans hc' (fun b hb => .inl hb)))
  clear hc hz hb hq HF HW HC hss
  go_wp2_with fail
  refine (up_unless (w.heap.size + 1) false 13 0 w2 Y2.out).mono ?_
  rintro _ w3 ⟨rfl, hc, hz, hb⟩
  have cl3 := HC2.out w3 hc
  have K3 := hid (K2.out.chg hc (by simp)); have Y3 := hid (show Blk w3 (w.heap.size + 1) 65 #[.int .i64 13] by simpa using hb)
  have HB3 := hid (HB2.out.trans (hc.below (B := w.heap.size) (fun b hb => by simp at hb; omega) HB2.out.size))
  have c0 : w3.cell? ⟨w.heap.size, 0, none⟩ = some (.int .i64 0) := K3.out.cell 0 rfl
  have z0 := K3.out.frozen 0
  clear hc hz hb cl ho hod
  go_wp2_with fail
  refine up_door rfl 13 0 0 _ rfl (fun _ => by simp [go_sem]) (fun W z hy hx => up_doorWrite _ _ _ _ _ W hy hx) K3.out Y3.out rfl rfl (fun W hW => ⟨rfl, HB3.out.trans (hW.below (B := w.heap.size) (fun b hb => by simp at hb; omega) HB3.out.size)⟩)
set_option maxHeartbeats 4000000 in
set_option maxRecDepth 20000 in
/-- too many bytes -/
theorem up_write_long (h : UpB w base t width next ss sv qs) (hs : (nosOf ss).Pairwise (· < ·)) (hm : ss.length ≤ 1000000) (x : Int) (A : Option Addr) (n c : Nat) {s : US} (hss : ss[aheadN (nosOf ss) x]? = some s) (hno : hasNo ss x = true) (hl : s.len ≤ 4096) (hn : 4096 < s.len + n) :
    Calls Tryd.prog 9 #[.pointer (some ⟨t, 0, none⟩), .int .i64 x, .int .i64 (s.len : Int), .slice A n c] w fun e w' => e = .returned (.tuple #[.int .i64 (s.len : Int), .int .i64 4]) ∧ Below w.heap.size w w' := by
  obtain ⟨W, hW, k0, k1, hB, hZ⟩ := up_two w #[.int .i64 0] #[.int .i64 0] 31 65
  have hyf : w.heap.size + 1 ∉ upF t sv qs := fun hb => by have := (h.lt _ hb).2; omega
  have HF := hid (up_find_yes (h.keep hB) hs hm x (w.heap.size + 1) 0 k1 hyf hno)
  have HC := hid (fun q pv us W' (hq : qs[aheadN (nosOf ss) x]? = some (q, pv, us)) (hc : Chg [w.heap.size + 1] W W') => (show W'.cell? ⟨q, 3, none⟩ = some (.int .i64 (s.len : Int)) from
    (((h.keep hB).chg hc (fun b hb hm => hyf (by rw [← List.mem_singleton.1 hm]; exact hb))).each _ s _ hss hq).hd.cell 3 rfl))
  have HW := hid hW; have K0 := hid k0; have HB := hid hB
  generalize s.len = sl at HC hl hn ⊢
  have hsub : IntKind.i64.wrap (4096 - (sl : Int)) = 4096 - (sl : Int) := IntWalk.i64_in _ (by omega)
  have hgt : ¬ (n : Int) ≤ 4096 - (sl : Int) := by omega
  have hgd : decide ((n : Int) ≤ 4096 - (sl : Int)) = false := decide_eq_false hgt
  clear h hs hm hno hW k0 k1 hB hZ hyf hl hn
  go_enter_defers Tryd.func9, Tryd.ntmps9
  go_wp2_with fail
  rw [← HW.out]
  refine HF.out.mono ?_
  rintro _ w2 ⟨q, pv, us, hq, rfl, hc, hz, hb⟩
  have cl := HC.out q pv us w2 hq hc
  have K2 := hid (K0.out.chg hc (by simp)); have Y2 := hid hb
  have HB2 := hid (HB.out.trans (hc.below (B := w.heap.size) (fun b hb => by simp at hb; omega) HB.out.size))
  have HC2 := hid (fun W' (hc' : Chg [w.heap.size + 1] w2 W') => HC.out q pv us W' hq (hc.trans hc' (fun b hb => .inl hb)))
  clear hc hz hb hq HF HW HC hss
  go_wp2_with fail
  refine (up_unless (w.heap.size + 1) true 13 0 w2 Y2.out).mono ?_
  rintro _ w3 ⟨rfl, hc, hz, hb⟩
  have cl3 := HC2.out w3 hc
  have K3 := hid (K2.out.chg hc (by simp)); have Y3 := hid (show Blk w3 (w.heap.size + 1) 65 #[.int .i64 0] by simpa using hb)
  have HB3 := hid (HB2.out.trans (hc.below (B := w.heap.size) (fun b hb => by simp at hb; omega) HB2.out.size))
  have HC3 := hid (fun W' (hc' : Chg [w.heap.size + 1] w3 W') => HC2.out W' (hc.trans hc' (fun b hb => .inl hb)))
  clear hc hz hb cl HC2
  go_wp2_with fail
  refine (up_unless (w.heap.size + 1) false 4 0 w3 Y3.out).mono ?_
  rintro _ w4 ⟨rfl, hc, hz, hb⟩
  have cl4 := HC3.out w4 hc
  have K4 := hid (K3.out.chg hc (by simp)); have Y4 := hid (show Blk w4 (w.heap.size + 1) 65 #[.int .i64 4] by simpa using hb)
  have HB4 := hid (HB3.out.trans (hc.below (B := w.heap.size) (fun b hb => by simp at hb; omega) HB3.out.size))
  have c0 : w4.cell? ⟨w.heap.size, 0, none⟩ = some (.int .i64 0) := K4.out.cell 0 rfl
  have z0 := K4.out.frozen 0
  clear hc hz hb cl3 hsub hgt hgd
  go_wp2_with fail
  refine up_door rfl 4 0 0 _ rfl (fun _ => by simp [go_sem]) (fun W z hy hx => up_doorWrite _ _ _ _ _ W hy hx) K4.out Y4.out rfl rfl (fun W hW => ⟨rfl, HB4.out.trans (hW.below (B := w.heap.size) (fun b hb => by simp at hb; omega) HB4.out.size)⟩)
/-- one session is another one -/
theorem UpB.put {w w' : World} (h : UpB w base t width next ss sv qs) {k q : Nat} {pv : Value} {us : List Value} {s' : US} {pv' : Value} {us' : List Value} (hk : qs[k]? = some (q, pv, us)) (hs : SessB w' base q s' pv' us') (hc : Chg (q :: pv.ownBlock.toList) w w') (hb : ∀ b ∈ upBlocks q pv' us', b ∈ upBlocks q pv us ∨ w.heap.size ≤ b) :
    UpB w' base t width next (ss.set k s') sv (qs.set k (q, pv', us')) ∧ (∀ b ∈ upF t sv (qs.set k (q, pv', us')), b ∈ upF t sv qs ∨ w.heap.size ≤ b) := by
  have hkl := (List.getElem?_eq_some_iff.1 hk).1
  obtain ⟨s0, _, hs0⟩ := h.at_ (List.mem_of_getElem? hk)
  have hin : ∀ b ∈ q :: pv.ownBlock.toList, b ∈ upBlocks q pv us := fun b hb => by
    rcases List.mem_cons.1 hb with rfl | hb
    · exact mem_upBlocks.2 (.inl rfl)
    · exact mem_upBlocks.2 (.inr (.inl (by simpa using hb)))
  have hoth : ∀ j x, j ≠ k → qs[j]? = some x → ∀ b ∈ upBlocks x.1 x.2.1 x.2.2, b < w.heap.size ∧ b ∉ upBlocks q pv us := fun j x hj hx b hbb => by
    obtain ⟨s1, _, hs1⟩ := h.at_ (List.mem_of_getElem? hx)
    exact ⟨(hs1.lt b hbb).2, h.apart j k x _ hj hx hk b hbb⟩
  have hnt : ∀ b ∈ upBlocks q pv us, b ≠ t ∧ sv.ownBlock ≠ some b := fun b hbb => by
    refine ⟨fun e => ?_, fun e => ?_⟩
    · subst e
      rcases hs0.tys hbb with h1 | h1 | h1
      · exact h.hd.ty.ne h1 (by decide) rfl
      · exact h.hd.ty.ne h1 (by decide) rfl
      · exact h.hd.ty.ne h1 (by decide) rfl
    · have hr := row_ty h.row e
      rcases hs0.tys hbb with h1 | h1 | h1
      · exact hr.ne h1 (by decide) rfl
      · exact hr.ne h1 (by decide) rfl
      · exact hr.ne h1 (by decide) rfl
  refine ⟨{ hd := h.hd.chg hc (fun hm => (hnt t (hin t hm)).1 rfl), row := ?_, each := fun j s x hs1 hx => ?_, apart := fun i j x y hij hx hy b hbx hby => ?_, ht := h.ht }, fun b hbb => ?_⟩
  · have hr := row_chg h.row hc (fun b e hm => (hnt b (hin b hm)).2 e)
    rw [List.length_set]
    have : (qs.set k (q, pv', us')).map (fun x => Value.pointer (some ⟨x.1, 0, none⟩)) = qs.map fun x => Value.pointer (some ⟨x.1, 0, none⟩) := by
      refine List.ext_getElem? fun j => ?_
      rw [List.getElem?_map, List.getElem?_map, List.getElem?_set]
      by_cases hj : k = j
      · subst hj
        rw [if_pos rfl, if_pos hkl, hk]
        rfl
      · rw [if_neg hj]
    rw [this]
    exact hr
  · rw [List.getElem?_set] at hs1 hx
    by_cases hj : k = j
    · subst hj
      simp only [if_true, hkl] at hx hs1
      split at hs1
      · cases hs1; cases hx; exact hs
      · cases hs1
    · rw [if_neg hj] at hs1 hx
      exact (h.each j s x hs1 hx).chg hc (fun b hbb hm => (hoth j x (Ne.symm hj) hx b hbb).2 (hin b hm))
  · rw [List.getElem?_set] at hx hy
    by_cases hi : k = i
    · subst hi
      simp only [if_true, hkl] at hx
      rw [if_neg hij] at hy
      cases hx
      obtain ⟨h1, h2⟩ := hoth j y (Ne.symm hij) hy b hby
      rcases hb b hbx with h3 | h3
      · exact h2 h3
      · omega
    · rw [if_neg hi] at hx
      by_cases hj : k = j
      · subst hj
        simp only [if_true, hkl] at hy
        cases hy
        obtain ⟨h1, h2⟩ := hoth i x (Ne.symm hi) hx b hbx
        rcases hb b hby with h3 | h3
        · exact h2 h3
        · omega
      · rw [if_neg hj] at hy
        exact h.apart i j x y hij hx hy b hbx hby
  · rcases mem_upF.1 hbb with rfl | hbb | ⟨x, hx, hbb⟩
    · exact .inl (mem_upF.2 (.inl rfl))
    · exact .inl (mem_upF.2 (.inr (.inl hbb)))
    · rcases List.mem_or_eq_of_mem_set hx with hx | rfl
      · exact .inl (mem_upF.2 (.inr (.inr ⟨x, hx, hbb⟩)))
      · rcases hb b hbb with h3 | h3
        · exact .inl (mem_upF.2 (.inr (.inr ⟨_, List.mem_of_getElem? hk, h3⟩)))
        · exact .inr h3
end
end Go.Proofs.YtgacdimjbpkgoaaDoor
/- Contract: bytes are added. -/
namespace Go.Proofs.YtgacdimjbpkgoaaDoor
open Go.RowKit
attribute [local go_sem] up_mkf
section
variable {w : World} {base t : Nat} {width next : Int} {ss : List US} {sv : Value} {qs : List (Nat × Value × List Value)}
theorem push_len (s : US) (bs : List UInt8) : (s.push bs).len = s.len + bs.length := by
  unfold US.push
  by_cases h : bs = []
  · rw [if_pos h, h]; rfl
  · rw [if_neg h]; simp [US.len]
set_option maxHeartbeats 4000000 in
set_option maxRecDepth 20000 in
theorem up_write (h : UpB w base t width next ss sv qs) (hbs : base ≤ w.heap.size) (hs : (nosOf ss).Pairwise (· < ·)) (hm : ss.length ≤ 1000000) (x : Int) (A : Option Addr) (n c : Nat) (bs : List UInt8) (hsb : SB w w.heap.size A n bs) {s : US} (hss : ss[aheadN (nosOf ss) x]? = some s) (hno : hasNo ss x = true) (hl : s.len + n ≤ 4096) :
    Calls Tryd.prog 9 #[.pointer (some ⟨t, 0, none⟩), .int .i64 x, .int .i64 (s.len : Int), .slice A n c] w fun e w' => e = .returned (.tuple #[.int .i64 ((s.len + n : Nat) : Int), .int .i64 0]) ∧ ∃ qs', UpB w' base t width next (ss.set (aheadN (nosOf ss) x) (s.push bs)) sv qs' ∧ Chg (upF t sv qs) w w' ∧ (∀ b ∈ upF t sv qs', b ∈ upF t sv qs ∨ w.heap.size ≤ b) := by
  obtain ⟨W, hW, k0, k1, hB, hZ⟩ := up_two w #[.int .i64 0] #[.int .i64 0] 31 65
  have hyf : w.heap.size + 1 ∉ upF t sv qs := fun hb => by have := (h.lt _ hb).2; omega
  have HF := hid (up_find_yes (h.keep hB) hs hm x (w.heap.size + 1) 0 k1 hyf hno)
  have HLT := hid (fun b (hb : b ∈ upF t sv qs) => (h.lt b hb).2)
  have HH := hid (h.keep hB); have HSB := hid (hsb.keep hB)
  have HW := hid hW; have K0 := hid k0; have HB := hid hB; have HZ := hid hZ
  have hbl := hsb.1
  have hpl := push_len s bs
  rw [hbl] at hpl
  have HPL := hid hpl; have HSS := hid hss; have HBS := hid hbs; have HBL := hid hbl
  generalize aheadN (nosOf ss) x = R at HF HSS hss ⊢
  obtain ⟨sl, hsl⟩ : ∃ sl, s.len = sl := ⟨_, rfl⟩
  have HSL := hid hsl
  rw [hsl] at hl HPL ⊢
  have HL := hid hl
  have hsub : IntKind.i64.wrap (4096 - (sl : Int)) = 4096 - (sl : Int) := IntWalk.i64_in _ (by omega)
  have hgt : (n : Int) ≤ 4096 - (sl : Int) := by omega
  have hgd : decide ((n : Int) ≤ 4096 - (sl : Int)) = true := decide_eq_true hgt
  clear h hs hm hno hW k0 k1 hB hZ hyf hl hsb hss hsl hpl hbs hbl
  go_enter_defers Tryd.func9, Tryd.ntmps9
  go_wp2_with fail
  rw [← HW.out]
  refine HF.out.mono ?_
  rintro _ w2 ⟨q, pv, us, hq, rfl, hc, hz, hb⟩
  have HH2 := hid (HH.out.chg hc (fun b hb hm => by have := HLT.out b hb; simp at hm; omega))
  have HQ := hid hq
  have K2 := hid (K0.out.chg hc (by simp)); have Y2 := hid hb
  have HB2 := hid (HB.out.trans (hc.below (B := w.heap.size) (fun b hb => by simp at hb; omega) HB.out.size))
  have HZ2 := hid (hz.trans HZ.out)
  have HSB2 := hid (show SB w2 w.heap.size A n bs from HSB.out.chg hc (fun b off e hlt hm => by simp at hm; omega))
  have cl : w2.cell? ⟨q, 3, none⟩ = some (.int .i64 (sl : Int)) := by rw [← HSL.out]; exact (HH2.out.each _ s _ HSS.out hq).hd.cell 3 rfl
  clear hc hz hb hq HF HW HH HB HZ HSB
  go_wp2_with fail
  refine (up_unless (w.heap.size + 1) true 13 0 w2 Y2.out).mono ?_
  rintro _ w3 ⟨rfl, hc, hz, hb⟩
  have HH3 := hid (HH2.out.chg hc (fun b hb hm => by have := HLT.out b hb; simp at hm; omega))
  have K3 := hid (K2.out.chg hc (by simp)); have Y3 := hid (show Blk w3 (w.heap.size + 1) 65 #[.int .i64 0] by simpa using hb)
  have HB3 := hid (HB2.out.trans (hc.below (B := w.heap.size) (fun b hb => by simp at hb; omega) HB2.out.size))
  have HZ3 := hid (hz.trans HZ2.out)
  have HSB3 := hid (show SB w3 w.heap.size A n bs from HSB2.out.chg hc (fun b off e hlt hm => by simp at hm; omega))
  have cl3 : w3.cell? ⟨q, 3, none⟩ = some (.int .i64 (sl : Int)) := by rw [← HSL.out]; exact (HH3.out.each _ s _ HSS.out HQ.out).hd.cell 3 rfl
  clear hc hz hb cl HH2 K2 Y2 HB2 HZ2 HSB2
  go_wp2_with fail
  refine (up_unless (w.heap.size + 1) true 4 0 w3 Y3.out).mono ?_
  rintro _ w4 ⟨rfl, hc, hz, hb⟩
  have HH4 := hid (HH3.out.chg hc (fun b hb hm => by have := HLT.out b hb; simp at hm; omega))
  have K4 := hid (K3.out.chg hc (by simp)); have Y4 := hid (show Blk w4 (w.heap.size + 1) 65 #[.int .i64 0] by simpa using hb)
  have HB4 := hid (HB3.out.trans (hc.below (B := w.heap.size) (fun b hb => by simp at hb; omega) HB3.out.size))
  have HZ4 := hid (hz.trans HZ3.out)
  have HSB4 := hid (show SB w4 w.heap.size A n bs from HSB3.out.chg hc (fun b off e hlt hm => by simp at hm; omega))
  have hse := HH4.out.each _ s _ HSS.out HQ.out
  have HA := hid (up_add A n c w.heap.size bs hse (Nat.le_trans HBS.out HB4.out.size) HSB4.out (by rw [HSL.out]; have := HL.out; omega))
  clear hc hz hb cl3 HH3 K3 Y3 HB3 HZ3 HSB3 hsub hgt hgd hse
  go_wp2_with fail
  refine HA.out.mono ?_
  rintro _ w5 ⟨rfl, pv', us', hse, hc, hbl⟩
  obtain ⟨hu, hf⟩ := HH4.out.put HQ.out hse hc hbl
  have c5 : w5.cell? ⟨q, 3, none⟩ = some (.int .i64 ((sl + n : Nat) : Int)) := by
    rw [← HPL.out]; exact hse.hd.cell 3 rfl
  have hin : ∀ b ∈ q :: pv.ownBlock.toList, b ∈ upF t sv qs := fun b hb => mem_upF.2 (.inr (.inr ⟨_, List.mem_of_getElem? HQ.out, (by
    rcases List.mem_cons.1 hb with rfl | hb
    · exact mem_upBlocks.2 (.inl rfl)
    · exact mem_upBlocks.2 (.inr (.inl (by simpa using hb))))⟩))
  have K5 := hid (K4.out.chg hc (fun hm => by have := HLT.out _ (hin _ hm); omega))
  have Y5 := hid (Y4.out.chg hc (fun hm => by have := HLT.out _ (hin _ hm); omega))
  have HC5 := hid (show Chg (upF t sv qs) w w5 from (Chg.of_below HB4.out).trans hc (fun b hb => .inl (hin b hb)))
  have HU := hid hu; have HFB := hid hf
  have c0 : w5.cell? ⟨w.heap.size, 0, none⟩ = some (.int .i64 0) := K5.out.cell 0 rfl
  have z0 := K5.out.frozen 0
  clear hse hc hbl hu hf hin HA
  go_wp2_with fail
  refine up_door rfl 0 0 0 _ rfl (fun _ => by simp [go_sem]) (fun W z hy hx => up_doorWrite _ _ _ _ _ W hy hx) K5.out Y5.out rfl rfl (fun W hW => ⟨rfl, _, HU.out.chg hW (fun b hb hm => ?_), HC5.out.trans hW (fun b hb => .inr (by rw [List.mem_singleton.1 hb]; exact Nat.le_refl _)), fun b hb => ?_⟩)
  · rw [List.mem_singleton.1 hm] at hb
    have hz4 := HZ4.out
    rcases HFB.out _ hb with h1 | h1
    · have := HLT.out _ h1; omega
    · omega
  · have hz4 := HZ4.out
    rcases HFB.out _ hb with h1 | h1
    · exact .inl h1
    · exact .inr (by omega)
end
end Go.Proofs.YtgacdimjbpkgoaaDoor
/- The law's starts and writes; the chapter's table. -/
namespace Go.Proofs.YtgacdimjbpkgoaaDoor
open Go.RowKit

/-- a text as bytes: a new row -/
theorem up_text_bytes {P : Program} {w : World} {ops : Array Oper} {rest : List Oper} {o : Oper} {a : Act} {Q : Exit → Act → World → Prop} (hgd : o.guard = none) (src dst e : TypeId) (x : Operand) (ho : o.op = .convert src dst x)
    (hs : P.underlying src = some .string) (hd : P.underlying dst = some (.slice e)) (he : P.underlying e = some (.int .u8)) (cs : List UInt8) (hx : a.eval x = .string (strB cs))
    (h : ∀ w' c, Below w.heap.size w w' → w'.heap.size = w.heap.size + 1 → SB w' w'.heap.size (some ⟨w.heap.size, 0, none⟩) cs.length cs → cs.length ≤ c → wpList P ops Q rest (a.put o.dst (.slice (some ⟨w.heap.size, 0, none⟩) cs.length c)) w') : wpList P ops Q (o :: rest) a w := by
  refine wpList_plain hgd fun K hK => ?_
  have hr := Lib.run_convert_string_bytes (P := P) w src dst e (strB cs) hs hd he
  have hsz := Lib.bytesWorld_size w e (strB cs)
  unfold Oper.wp execOp
  simp only [ho, hx, Sem.run_bind, Sem.run_pure, Result.andThen_ok, hr]
  refine hK _ _ (h _ _ ⟨rfl, rfl, rfl, by omega, fun k hk => Lib.bytesWorld_at_old w e (strB cs) k hk⟩ hsz ⟨rfl, fun _ => ⟨w.heap.size, 0, rfl, by omega, fun j y hj => ?_⟩⟩ (grownCap_ge w cs.length 0 e))
  have hlt : j < cs.length := (List.getElem?_eq_some_iff.1 hj).1
  have := Lib.bytesWorld_cell w e (strB cs) j hlt
  rw [Nat.zero_add, this]
  simp [strB, List.getD, hj, bv]
/-- Since w0 only new blocks have changed; some of them are a table. -/
def Up1 (w0 w : World) (t : Nat) (width next : Int) (ss : List US) : Prop := Below w0.heap.size w0 w ∧ ∃ sv qs, UpB w w0.heap.size t width next ss sv qs
section
variable {w0 w w1 : World} {t : Nat} {width next : Int} {ss : List US}
theorem Up1.keep (h : Up1 w0 w t width next ss) (hb : Below w.heap.size w w1) : Up1 w0 w1 t width next ss := by
  obtain ⟨h0, sv, qs, h1⟩ := h
  exact ⟨h0.trans (hb.mono h0.size), sv, qs, h1.keep hb⟩
theorem Up1.start (h : Up1 w0 w t width next ss) (r : ByteArray) (hrs : r.size ≤ 281474976710656) (hr : ∀ W, Below w.heap.size w W → Calls Tryd.prog 29 #[.string r] W fun e w' => e = .returned (.bool true) ∧ Below W.heap.size W w') (h8 : ss.length < 8) (hx0 : 1 ≤ next) (hx : next ≤ 1048576) :
    Calls Tryd.prog 8 #[.pointer (some ⟨t, 0, none⟩), .string r] w fun e w' => e = .returned (.tuple #[.int .i64 next, .int .i64 0]) ∧ Up1 w0 w' t width (next + 1) (ss ++ [US.mk' next r []]) := by
  obtain ⟨h0, sv, qs, h1⟩ := h
  exact (up_start h1 h0.size r hrs hr h8 hx0 hx).mono fun e w' ⟨he, sv', qs', hu, hc, _⟩ => ⟨he, h0.trans (hc.below (fun b hb => by
    rcases List.mem_cons.1 hb with rfl | hb
    · exact h1.ht
    · exact (World.ownsRow.lt h1.row b (by simpa using hb)).1) h0.size), sv', qs', hu⟩
theorem Up1.write (h : Up1 w0 w t width next ss) (hs : (nosOf ss).Pairwise (· < ·)) (hm : ss.length ≤ 1000000) (x : Int) (A : Option Addr) (n c : Nat) (bs : List UInt8) (hb : Below w.heap.size w w1) (hsb : SB w1 w1.heap.size A n bs) {s : US} (hss : ss[aheadN (nosOf ss) x]? = some s) (hno : hasNo ss x = true) (hl : s.len + n ≤ 4096) :
    Calls Tryd.prog 9 #[.pointer (some ⟨t, 0, none⟩), .int .i64 x, .int .i64 (s.len : Int), .slice A n c] w1 fun e w' => e = .returned (.tuple #[.int .i64 ((s.len + n : Nat) : Int), .int .i64 0]) ∧ Up1 w0 w' t width next (ss.set (aheadN (nosOf ss) x) (s.push bs)) := by
  obtain ⟨h0, sv, qs, h1⟩ := h.keep hb
  exact (up_write h1 h0.size hs hm x A n c bs hsb hss hno hl).mono fun e w' ⟨he, qs', hu, hc, _⟩ => ⟨he, h0.trans (hc.below (fun b hb => (h1.lt b hb).1) h0.size), sv, qs', hu⟩
end
section
variable {w0 w : World} {t : Nat} {width next : Int} {ss : List US}
set_option maxHeartbeats 1000000 in
theorem ul_starts (h : Up1 w0 w t width next ss) (r : ByteArray) (hrs : r.size ≤ 281474976710656) (hr : ∀ W, Calls Tryd.prog 29 #[.string r] W fun e w' => e = .returned (.bool true) ∧ Below W.heap.size W w') (h8 : ss.length < 8) (hx0 : 1 ≤ next) (hx : next ≤ 1048576) :
    Calls Tryd.prog 20 #[.pointer (some ⟨t, 0, none⟩), .string r, .int .i64 next, .int .i64 0] w fun e w' => e = .returned (.bool true) ∧ Up1 w0 w' t width (next + 1) (ss ++ [US.mk' next r []]) := by
  have HS := hid (h.start r hrs (fun W _ => hr W) h8 hx0 hx)
  clear h hrs hr h8 hx0 hx
  go_enter Tryd.func20, Tryd.ntmps20
  go_wp2_with fail
  refine HS.out.mono ?_
  rintro _ w1 ⟨rfl, hu⟩
  have HU := hid hu
  clear hu HS
  go_wp2_with fail
  go_ret
  exact ⟨rfl, HU.out⟩
set_option maxHeartbeats 1000000 in
theorem ul_starts_name (h : Up1 w0 w t width next ss) (r : ByteArray) (hr : ∀ W, Calls Tryd.prog 29 #[.string r] W fun e w' => e = .returned (.bool false) ∧ Below W.heap.size W w') :
    Calls Tryd.prog 20 #[.pointer (some ⟨t, 0, none⟩), .string r, .int .i64 0, .int .i64 7] w fun e w' => e = .returned (.bool true) ∧ Up1 w0 w' t width next ss := by
  have HK := hid h
  obtain ⟨h0, sv, qs, h1⟩ := h
  have HS := hid (up_start_name h1 r (fun W _ => hr W))
  clear h0 h1 hr
  go_enter Tryd.func20, Tryd.ntmps20
  go_wp2_with fail
  refine HS.out.mono ?_
  rintro _ w1 ⟨rfl, hu⟩
  have HU := hid (HK.out.keep hu)
  clear hu HS
  go_wp2_with fail
  go_ret
  exact ⟨rfl, HU.out⟩
set_option maxHeartbeats 1000000 in
theorem ul_writes (h : Up1 w0 w t width next ss) (hs : (nosOf ss).Pairwise (· < ·)) (hm : ss.length ≤ 1000000) (x : Int) (bs : List UInt8) {s : US} (hss : ss[aheadN (nosOf ss) x]? = some s) (hno : hasNo ss x = true) (n : Nat) (hn : bs.length = n) (hl : s.len + n ≤ 4096) (sl : Int) (hsl : (s.len : Int) = sl) (want : Int) (hw : ((s.len + n : Nat) : Int) = want) :
    Calls Tryd.prog 22 #[.pointer (some ⟨t, 0, none⟩), .int .i64 x, .int .i64 sl, .string (strB bs), .int .i64 want, .int .i64 0] w fun e w' => e = .returned (.bool true) ∧ Up1 w0 w' t width next (ss.set (aheadN (nosOf ss) x) (s.push bs)) := by
  have HS := hid (fun (W : World) A c (hb : Below w.heap.size w W) (hsb : SB W W.heap.size A n bs) => h.write hs hm x A n c bs hb hsb hss hno hl)
  rw [hsl, hw] at HS
  have HN := hid hn
  clear h hs hm hss hno hl hsl hw
  go_enter Tryd.func22, Tryd.ntmps22
  go_wp2_with ((refine up_text_bytes rfl 9 22 5 _ rfl Tryd.underlying9 Tryd.underlying22 Tryd.underlying5 bs rfl ?_); refine Held.go ?_)
  unfold Held
  intro w1 c1 hb1 hz1 hs1 hle1
  have HW := hid (HS.out w1 _ c1 hb1 hs1)
  clear hb1 hz1 hs1 hle1 HS
  go_wp2_with fail
  refine HW.out.mono ?_
  rintro _ w2 ⟨rfl, hu⟩
  have HU := hid hu
  clear hu HW
  go_wp2_with fail
  go_ret
  exact ⟨rfl, HU.out⟩
set_option maxHeartbeats 1000000 in
theorem ul_writes_off (h : Up1 w0 w t width next ss) (hs : (nosOf ss).Pairwise (· < ·)) (hm : ss.length ≤ 1000000) (x off : Int) (bs : List UInt8) {s : US} (hss : ss[aheadN (nosOf ss) x]? = some s) (hno : hasNo ss x = true) (ho : off ≠ (s.len : Int)) (want : Int) (hw : (s.len : Int) = want) :
    Calls Tryd.prog 22 #[.pointer (some ⟨t, 0, none⟩), .int .i64 x, .int .i64 off, .string (strB bs), .int .i64 want, .int .i64 13] w fun e w' => e = .returned (.bool true) ∧ Up1 w0 w' t width next ss := by
  have HS := hid (fun (W : World) A n c (hb : Below w.heap.size w W) => (show Calls Tryd.prog 9 #[.pointer (some ⟨t, 0, none⟩), .int .i64 x, .int .i64 off, .slice A n c] W fun e w' => e = .returned (.tuple #[.int .i64 want, .int .i64 13]) ∧ Up1 w0 w' t width next ss from by
    have hk := h.keep hb
    obtain ⟨h0, sv, qs, h1⟩ := h.keep hb
    rw [← hw]
    exact (up_write_off h1 hs hm x off A n c hss hno ho).mono fun e w' ⟨he, hb⟩ => ⟨he, hk.keep hb⟩))
  clear h hs hm hss hno hw ho
  go_enter Tryd.func22, Tryd.ntmps22
  go_wp2_with ((refine up_text_bytes rfl 9 22 5 _ rfl Tryd.underlying9 Tryd.underlying22 Tryd.underlying5 bs rfl ?_); refine Held.go ?_)
  unfold Held
  intro w1 c1 hb1 hz1 hs1 hle1
  have HW := hid (HS.out w1 (some ⟨w.heap.size, 0, none⟩) bs.length c1 hb1)
  clear hb1 hz1 hs1 hle1 HS
  go_wp2_with fail
  refine HW.out.mono ?_
  rintro _ w2 ⟨rfl, hu⟩
  have HU := hid hu
  clear hu HW
  go_wp2_with fail
  go_ret
  exact ⟨rfl, HU.out⟩
set_option maxHeartbeats 1000000 in
theorem ul_writes_long (h : Up1 w0 w t width next ss) (hs : (nosOf ss).Pairwise (· < ·)) (hm : ss.length ≤ 1000000) (x : Int) (bs : List UInt8) {s : US} (hss : ss[aheadN (nosOf ss) x]? = some s) (hno : hasNo ss x = true) (hl : s.len ≤ 4096) (hn : 4096 < s.len + bs.length) (want : Int) (hw : (s.len : Int) = want) :
    Calls Tryd.prog 22 #[.pointer (some ⟨t, 0, none⟩), .int .i64 x, .int .i64 want, .string (strB bs), .int .i64 want, .int .i64 4] w fun e w' => e = .returned (.bool true) ∧ Up1 w0 w' t width next ss := by
  have HS := hid (fun (W : World) A c (hb : Below w.heap.size w W) => (show Calls Tryd.prog 9 #[.pointer (some ⟨t, 0, none⟩), .int .i64 x, .int .i64 want, .slice A bs.length c] W fun e w' => e = .returned (.tuple #[.int .i64 want, .int .i64 4]) ∧ Up1 w0 w' t width next ss from by
    have hk := h.keep hb
    obtain ⟨h0, sv, qs, h1⟩ := h.keep hb
    rw [← hw]
    exact (up_write_long h1 hs hm x A bs.length c hss hno hl hn).mono fun e w' ⟨he, hb⟩ => ⟨he, hk.keep hb⟩))
  clear h hs hm hss hno hw hl hn
  go_enter Tryd.func22, Tryd.ntmps22
  go_wp2_with ((refine up_text_bytes rfl 9 22 5 _ rfl Tryd.underlying9 Tryd.underlying22 Tryd.underlying5 bs rfl ?_); refine Held.go ?_)
  unfold Held
  intro w1 c1 hb1 hz1 hs1 hle1
  have HW := hid (HS.out w1 (some ⟨w.heap.size, 0, none⟩) c1 hb1)
  clear hb1 hz1 hs1 hle1 HS
  go_wp2_with fail
  refine HW.out.mono ?_
  rintro _ w2 ⟨rfl, hu⟩
  have HU := hid hu
  clear hu HW
  go_wp2_with fail
  go_ret
  exact ⟨rfl, HU.out⟩
end
/-- the chapter's table behind its first line -/
def uR : ByteArray := strB [114]
def ss1 : List US := [⟨1, uR, []⟩]
def ss2 : List US := [⟨1, uR, [[97]]⟩]
def ss3 : List US := [⟨1, uR, [[97], [98]]⟩]
theorem repo_r (w : World) : Calls Tryd.prog 29 #[.string uR] w fun e w' => e = .returned (.bool true) ∧ Below w.heap.size w w' :=
  up_isRepo_ok uR [114] (by decide) (by decide) (by decide) (by unfold RDone; decide +kernel) w
theorem repo_R (w : World) : Calls Tryd.prog 29 #[.string (strB [82])] w fun e w' => e = .returned (.bool false) ∧ Below w.heap.size w w' :=
  up_isRepo_bad (strB [82]) [82] (by decide) (by decide) (by decide) (by unfold RDone; decide +kernel) w
set_option maxHeartbeats 2000000 in
set_option maxRecDepth 20000 in
theorem uone_calls (w0 w : World) (hb : Below w0.heap.size w0 w) : Calls Tryd.prog 16 #[] w fun e w' => ∃ t, e = .returned (.pointer (some ⟨t, 0, none⟩)) ∧ Up1 w0 w' t 32 2 ss3 := by
  have HB := hid hb
  clear hb
  go_enter Tryd.func16, Tryd.ntmps16
  go_wp2_with fail
  refine (up_new_table 32 (by omega) (by omega) w).mono ?_
  rintro _ w1 ⟨t, rfl, hu, hb⟩
  have H := hid (show Up1 w0 w1 t 32 1 [] from ⟨HB.out.trans (hb.mono HB.out.size), _, _, { hu with row := World.ownsRow_nil _ _ _ _, ht := Nat.le_trans HB.out.size hu.ht, each := fun k s x hs => by simp at hs }⟩)
  clear hu hb HB
  go_wp2_with fail
  refine (ul_starts H.out uR (by decide) repo_r (by decide) (by omega) (by omega)).mono ?_
  rintro _ w2 ⟨rfl, h⟩
  have H := hid (show Up1 w0 w2 t 32 2 ss1 from h)
  clear h
  go_wp2_with fail
  refine (ul_starts_name H.out (strB [82]) repo_R).mono ?_
  rintro _ w3 ⟨rfl, h⟩
  have H := hid h
  clear h
  go_wp2_with fail
  refine (ul_writes H.out (by decide) (by decide) 1 [97] (s := ⟨1, uR, []⟩) rfl (by decide) 1 rfl (by decide) 0 rfl 1 rfl).mono ?_
  rintro _ w4 ⟨rfl, h⟩
  have H := hid (show Up1 w0 w4 t 32 2 ss2 from h)
  clear h
  go_wp2_with fail
  refine (ul_writes_off H.out (by decide) (by decide) 1 0 [98] (s := ⟨1, uR, [[97]]⟩) rfl (by decide) (by decide) 1 rfl).mono ?_
  rintro _ w5 ⟨rfl, h⟩
  have H := hid h
  clear h
  go_wp2_with fail
  refine (ul_writes H.out (by decide) (by decide) 1 [98] (s := ⟨1, uR, [[97]]⟩) rfl (by decide) 1 rfl (by decide) 1 rfl 2 rfl).mono ?_
  rintro _ w6 ⟨rfl, h⟩
  have H := hid (show Up1 w0 w6 t 32 2 ss3 from h)
  clear h
  go_wp2_with fail
  go_ret
  exact ⟨t, rfl, H.out⟩
set_option maxHeartbeats 2000000 in
set_option maxRecDepth 20000 in
theorem uawake_calls (w : World) : Calls Tryd.prog 7 #[] w fun e w' => e = .returned (.bool true) ∧ Below w.heap.size w w' := by
  go_enter Tryd.func7, Tryd.ntmps7
  go_wp2_with fail
  refine (uone_calls w w (Below.refl _ _)).mono ?_
  rintro _ w1 ⟨t, rfl, h⟩
  obtain ⟨h0, sv, qs, h1⟩ := h
  have H0 := hid h0; have H1 := hid h1
  clear h0 h1
  go_wp2_with fail
  refine (up_offset_yes H1.out (by decide) (by decide) 1 (s := ⟨1, uR, [[97], [98]]⟩) rfl (by decide)).mono ?_
  rintro _ w2 ⟨rfl, hb⟩
  rw [show (((US.mk 1 uR [[97], [98]]).len : Int)) = 2 from rfl]
  have H0 := hid (H0.out.trans (hb.mono H0.out.size)); have H1 := hid (H1.out.keep hb)
  clear hb
  go_wp2_with fail
  refine (up_offset_no H1.out (by decide) (by decide) 2 (by decide)).mono ?_
  rintro _ w3 ⟨rfl, hb⟩
  have H0 := hid (H0.out.trans (hb.mono H0.out.size)); have H1 := hid (H1.out.keep hb)
  clear hb
  go_wp2_with fail
  refine (up_next H1.out.hd).mono ?_
  rintro _ _ ⟨rfl, rfl⟩
  go_wp2_with fail
  go_ret
  exact ⟨rfl, H0.out⟩
end Go.Proofs.YtgacdimjbpkgoaaDoor
