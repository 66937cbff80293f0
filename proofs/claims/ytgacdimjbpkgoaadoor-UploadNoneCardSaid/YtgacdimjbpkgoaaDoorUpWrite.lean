/- Contracts: bytes arrive; which texts name a repository. -/
import Derived.Test.YtgacdimjbpkgoaaDoorUpStart
import Derived.Test.YtgacdimjbpkgoaaDoorNmRepoOf
namespace Go.Proofs.YtgacdimjbpkgoaaDoor
open Go.RowKit
attribute [local go_sem] up_mkf

theorem rrun_none (b : List UInt8) : b.foldl (fun (st : Option (FuncId × Nat)) c => st.bind fun x => rstep x.1 x.2 (c.toNat : Int)) none = none := by
  induction b with
  | nil => rfl
  | cons c r ih => exact ih
theorem rdone_not {l : List UInt8} {pos : Nat} (h : RDone l) : ¬ RStop l pos := fun hs => by
  obtain ⟨-, h2⟩ := hs
  by_cases hp : pos < l.length
  · rw [if_pos hp] at h2
    have hr : rrun l = none := by
      have e : l = l.take (pos + 1) ++ l.drop (pos + 1) := (List.take_append_drop _ _).symm
      rw [e]
      unfold rrun at h2 ⊢
      rw [List.foldl_append, h2]
      exact rrun_none _
    rw [RDone, hr] at h
    exact absurd h.1 (by decide)
  · rw [if_neg hp] at h2
    rw [RDone, h2] at h
    exact absurd h.2 (by decide)
theorem up_isRepo_ok (s : ByteArray) (l : List UInt8) (hl : l = s.data.toList) (ha : ∀ b ∈ l, b.toNat < 128) (hs : s.size ≤ 128) (hd : RDone l) (w : World) :
    Calls Tryd.prog 29 #[.string s] w fun e w' => e = .returned (.bool true) ∧ Below w.heap.size w w' := by
  have HR := hid (repo_calls s l hl ha hs w); have HD := hid hd
  clear hl ha hs hd
  go_enter Tryd.func29, Tryd.ntmps29
  go_wp2_with fail
  refine HR.out.mono ?_
  rintro _ w1 ⟨⟨x, y, rfl, hor⟩, hb⟩
  obtain ⟨rfl, rfl⟩ : x = 0 ∧ y = 0 := by
    rcases hor with ⟨pos, hst, _⟩ | ⟨_, h1, h2⟩
    · exact absurd hst (rdone_not HD.out)
    · exact ⟨h1, h2⟩
  have HB := hid hb
  have hfd : ∀ w, (Instr.field 85 (.agg #[.int .i64 0, .int .i64 0]) 0).run Tryd.prog w = .ok (.int .i64 0) w := fun _ => by kernel_rfl
  clear hb hor HR
  go_wp2_with fail
  go_ret
  exact ⟨rfl, HB.out⟩
theorem up_isRepo_bad (s : ByteArray) (l : List UInt8) (hl : l = s.data.toList) (ha : ∀ b ∈ l, b.toNat < 128) (hs : s.size ≤ 128) (hd : ¬ RDone l) (w : World) :
    Calls Tryd.prog 29 #[.string s] w fun e w' => e = .returned (.bool false) ∧ Below w.heap.size w w' := by
  have HR := hid (repo_calls s l hl ha hs w); have HD := hid hd
  clear hl ha hs hd
  go_enter Tryd.func29, Tryd.ntmps29
  go_wp2_with fail
  refine HR.out.mono ?_
  rintro _ w1 ⟨⟨x, y, rfl, hor⟩, hb⟩
  obtain ⟨rfl, pos, rfl⟩ : x = 7 ∧ ∃ pos : Nat, y = (pos : Int) := by
    rcases hor with ⟨pos, hst, h1, h2⟩ | ⟨h0, _⟩
    · exact ⟨h1, pos, h2⟩
    · exact absurd h0 HD.out
  have HB := hid hb
  have hfd : ∀ w, (Instr.field 85 (.agg #[.int .i64 7, .int .i64 (pos : Int)]) 0).run Tryd.prog w = .ok (.int .i64 7) w := fun _ => by kernel_rfl
  clear hb hor HR
  go_wp2_with fail
  go_ret
  exact ⟨rfl, HB.out⟩
section
variable {w : World} {base t : Nat} {width next : Int} {ss : List US} {sv : Value} {qs : List (Nat × Value × List Value)}
set_option maxHeartbeats 4000000 in
set_option maxRecDepth 20000 in
theorem up_start_name (h : UpB w base t width next ss sv qs) (r : ByteArray) (hr : ∀ W, Below w.heap.size w W → Calls Tryd.prog 29 #[.string r] W fun e w' => e = .returned (.bool false) ∧ Below W.heap.size W w') :
    Calls Tryd.prog 8 #[.pointer (some ⟨t, 0, none⟩), .string r] w fun e w' => e = .returned (.tuple #[.int .i64 0, .int .i64 7]) ∧ Below w.heap.size w w' := by
  obtain ⟨W, hW, k0, k1, hB, hZ⟩ := up_two w #[.int .i64 0] #[.int .i64 0] 31 65
  have HH := hid (h.keep hB); have HB := hid hB; have HW := hid hW
  have K0 := hid k0; have K1 := hid k1; have HR := hid hr
  clear h hB hW k0 k1 hr hZ
  go_enter_defers Tryd.func8, Tryd.ntmps8
  go_wp2_with fail
  rw [← HW.out]
  refine (up_valid HH.out.hd).mono ?_
  rintro _ _ ⟨rfl, rfl⟩
  go_wp2_with fail
  refine (up_unless (w.heap.size + 1) true 1 0 W K1.out).mono ?_
  rintro _ w1 ⟨rfl, hc, hz, hb⟩
  have K0 := hid (K0.out.chg hc (by simp)); have K1 := hid (show Blk w1 (w.heap.size + 1) 65 #[.int .i64 0] by simpa using hb)
  have HB1 := hid (HB.out.trans (hc.below (B := w.heap.size) (fun b hb => by simp at hb; omega) HB.out.size))
  clear hc hz hb HW HH HB
  go_wp2_with fail
  refine (HR.out w1 HB1.out).mono ?_
  rintro _ w2 ⟨rfl, hb⟩
  have K0 := hid (K0.out.keep hb); have K1 := hid (K1.out.keep hb); have HB2 := hid (HB1.out.trans (hb.mono HB1.out.size))
  clear hb HB1
  go_wp2_with fail
  refine (up_unless (w.heap.size + 1) false 7 0 w2 K1.out).mono ?_
  rintro _ w3 ⟨rfl, hc, hz, hb⟩
  have K0 := hid (K0.out.chg hc (by simp)); have K1 := hid (show Blk w3 (w.heap.size + 1) 65 #[.int .i64 7] by simpa using hb)
  have HB3 := hid (HB2.out.trans (hc.below (B := w.heap.size) (fun b hb => by simp at hb; omega) HB2.out.size))
  have c0 : w3.cell? ⟨w.heap.size, 0, none⟩ = some (.int .i64 0) := K0.out.cell 0 rfl
  have z0 := K0.out.frozen 0
  clear hc hz hb HB2
  go_wp2_with fail
  refine up_door rfl 7 0 0 _ rfl (fun _ => by simp [go_sem]) (fun W z hy hx => up_doorStart _ _ _ _ _ W hy hx) K0.out K1.out rfl rfl (fun W hW => ⟨rfl, HB3.out.trans (hW.below (B := w.heap.size) (fun b hb => by simp at hb; omega) HB3.out.size)⟩)
set_option maxHeartbeats 4000000 in
set_option maxRecDepth 20000 in
/-- no such session -/
theorem up_write_no (h : UpB w base t width next ss sv qs) (hs : (nosOf ss).Pairwise (· < ·)) (hm : ss.length ≤ 1000000) (x off : Int) (A : Option Addr) (n c : Nat) (hno : hasNo ss x = false) :
    Calls Tryd.prog 9 #[.pointer (some ⟨t, 0, none⟩), .int .i64 x, .int .i64 off, .slice A n c] w fun e w' => e = .returned (.tuple #[.int .i64 0, .int .i64 12]) ∧ Below w.heap.size w w' := by
  obtain ⟨W, hW, k0, k1, hB, hZ⟩ := up_two w #[.int .i64 0] #[.int .i64 0] 31 65
  have HF := hid (up_find_no (h.keep hB) hs hm x (w.heap.size + 1) 0 k1 (fun hb => by have := (h.lt _ hb).2; omega) hno)
  have HW := hid hW; have K0 := hid k0; have HB := hid hB
  clear h hs hm hno hW k0 k1 hB hZ
  go_enter_defers Tryd.func9, Tryd.ntmps9
  go_wp2_with fail
  rw [← HW.out]
  refine HF.out.mono ?_
  rintro _ w2 ⟨rfl, hc, hz, hb⟩
  have K2 := hid (K0.out.chg hc (by simp)); have Y2 := hid hb
  have HB2 := hid (HB.out.trans (hc.below (B := w.heap.size) (fun b hb => by simp at hb; omega) HB.out.size))
  have c0 : w2.cell? ⟨w.heap.size, 0, none⟩ = some (.int .i64 0) := K2.out.cell 0 rfl
  have z0 := K2.out.frozen 0
  clear hc hz hb HF HW
  go_wp2_with fail
  refine up_door rfl 12 0 0 _ rfl (fun _ => by simp [go_sem]) (fun W z hy hx => up_doorWrite _ _ _ _ _ W hy hx) K2.out Y2.out rfl rfl (fun W hW => ⟨rfl, HB2.out.trans (hW.below (B := w.heap.size) (fun b hb => by simp at hb; omega) HB2.out.size)⟩)
set_option maxHeartbeats 4000000 in
set_option maxRecDepth 20000 in
/-- another offset -/
theorem up_write_off (h : UpB w base t width next ss sv qs) (hs : (nosOf ss).Pairwise (· < ·)) (hm : ss.length ≤ 1000000) (x off : Int) (A : Option Addr) (n c : Nat) {s : US} (hss : ss[aheadN (nosOf ss) x]? = some s) (hno : hasNo ss x = true) (ho : off ≠ (s.len : Int)) :
    Calls Tryd.prog 9 #[.pointer (some ⟨t, 0, none⟩), .int .i64 x, .int .i64 off, .slice A n c] w fun e w' => e = .returned (.tuple #[.int .i64 (s.len : Int), .int .i64 13]) ∧ Below w.heap.size w w' := by
  obtain ⟨W, hW, k0, k1, hB, hZ⟩ := up_two w #[.int .i64 0] #[.int .i64 0] 31 65
  have hyf : w.heap.size + 1 ∉ upF t sv qs := fun hb => by have := (h.lt _ hb).2; omega
  have HF := hid (up_find_yes (h.keep hB) hs hm x (w.heap.size + 1) 0 k1 hyf hno)
  have HC := hid (fun q pv us W' (hq : qs[aheadN (nosOf ss) x]? = some (q, pv, us)) (hc : Chg [w.heap.size + 1] W W') => (show W'.cell? ⟨q, 3, none⟩ = some (.int .i64 (s.len : Int)) from
    (((h.keep hB).chg hc (fun b hb hm => hyf (by rw [← List.mem_singleton.1 hm]; exact hb))).each _ s _ hss hq).hd.cell 3 rfl))
  have HW := hid hW; have K0 := hid k0; have HB := hid hB
  generalize (s.len : Int) = sl at HC ho ⊢
  have hod : (off == sl) = false := by simpa using ho
  clear h hs hm hno hW k0 k1 hB hZ hyf
  go_enter_defers Tryd.func9, Tryd.ntmps9
  go_wp2_with fail
  rw [← HW.out]
  refine HF.out.mono ?_
  rintro _ w2 ⟨q, pv, us, hq, rfl, hc, hz, hb⟩
  have cl := HC.out q pv us w2 hq hc
  have K2 := hid (K0.out.chg hc (by simp)); have Y2 := hid hb
  have HB2 := hid (HB.out.trans (hc.below (B := w.heap.size) (fun b hb => by simp at hb; omega) HB.out.size))
  have HC2 := hid (fun W' (hc' : Chg [w.heap.size + 1] w2 W') => HC.out q pv us W' hq (hc.trans hc' (fun b hb => .inl hb)))
  clear hc hz hb hq HF HW HC hss
  go_wp2_with fail
  refine (up_unless (w.heap.size + 1) false 13 0 w2 Y2.out).mono ?_
  rintro _ w3 ⟨rfl, hc, hz, hb⟩
  have cl3 := HC2.out w3 hc
  have K3 := hid (K2.out.chg hc (by simp)); have Y3 := hid (show Blk w3 (w.heap.size + 1) 65 #[.int .i64 13] by simpa using hb)
  have HB3 := hid (HB2.out.trans (hc.below (B := w.heap.size) (fun b hb => by simp at hb; omega) HB2.out.size))
  have c0 : w3.cell? ⟨w.heap.size, 0, none⟩ = some (.int .i64 0) := K3.out.cell 0 rfl
  have z0 := K3.out.frozen 0
  clear hc hz hb cl ho hod
  go_wp2_with fail
  refine up_door rfl 13 0 0 _ rfl (fun _ => by simp [go_sem]) (fun W z hy hx => up_doorWrite _ _ _ _ _ W hy hx) K3.out Y3.out rfl rfl (fun W hW => ⟨rfl, HB3.out.trans (hW.below (B := w.heap.size) (fun b hb => by simp at hb; omega) HB3.out.size)⟩)
set_option maxHeartbeats 4000000 in
set_option maxRecDepth 20000 in
/-- too many bytes -/
theorem up_write_long (h : UpB w base t width next ss sv qs) (hs : (nosOf ss).Pairwise (· < ·)) (hm : ss.length ≤ 1000000) (x : Int) (A : Option Addr) (n c : Nat) {s : US} (hss : ss[aheadN (nosOf ss) x]? = some s) (hno : hasNo ss x = true) (hl : s.len ≤ 4096) (hn : 4096 < s.len + n) :
    Calls Tryd.prog 9 #[.pointer (some ⟨t, 0, none⟩), .int .i64 x, .int .i64 (s.len : Int), .slice A n c] w fun e w' => e = .returned (.tuple #[.int .i64 (s.len : Int), .int .i64 4]) ∧ Below w.heap.size w w' := by
  obtain ⟨W, hW, k0, k1, hB, hZ⟩ := up_two w #[.int .i64 0] #[.int .i64 0] 31 65
  have hyf : w.heap.size + 1 ∉ upF t sv qs := fun hb => by have := (h.lt _ hb).2; omega
  have HF := hid (up_find_yes (h.keep hB) hs hm x (w.heap.size + 1) 0 k1 hyf hno)
  have HC := hid (fun q pv us W' (hq : qs[aheadN (nosOf ss) x]? = some (q, pv, us)) (hc : Chg [w.heap.size + 1] W W') => (show W'.cell? ⟨q, 3, none⟩ = some (.int .i64 (s.len : Int)) from
    (((h.keep hB).chg hc (fun b hb hm => hyf (by rw [← List.mem_singleton.1 hm]; exact hb))).each _ s _ hss hq).hd.cell 3 rfl))
  have HW := hid hW; have K0 := hid k0; have HB := hid hB
  generalize s.len = sl at HC hl hn ⊢
  have hsub : IntKind.i64.wrap (4096 - (sl : Int)) = 4096 - (sl : Int) := IntWalk.i64_in _ (by omega)
  have hgt : ¬ (n : Int) ≤ 4096 - (sl : Int) := by omega
  have hgd : decide ((n : Int) ≤ 4096 - (sl : Int)) = false := decide_eq_false hgt
  clear h hs hm hno hW k0 k1 hB hZ hyf hl hn
  go_enter_defers Tryd.func9, Tryd.ntmps9
  go_wp2_with fail
  rw [← HW.out]
  refine HF.out.mono ?_
  rintro _ w2 ⟨q, pv, us, hq, rfl, hc, hz, hb⟩
  have cl := HC.out q pv us w2 hq hc
  have K2 := hid (K0.out.chg hc (by simp)); have Y2 := hid hb
  have HB2 := hid (HB.out.trans (hc.below (B := w.heap.size) (fun b hb => by simp at hb; omega) HB.out.size))
  have HC2 := hid (fun W' (hc' : Chg [w.heap.size + 1] w2 W') => HC.out q pv us W' hq (hc.trans hc' (fun b hb => .inl hb)))
  clear hc hz hb hq HF HW HC hss
  go_wp2_with fail
  refine (up_unless (w.heap.size + 1) true 13 0 w2 Y2.out).mono ?_
  rintro _ w3 ⟨rfl, hc, hz, hb⟩
  have cl3 := HC2.out w3 hc
  have K3 := hid (K2.out.chg hc (by simp)); have Y3 := hid (show Blk w3 (w.heap.size + 1) 65 #[.int .i64 0] by simpa using hb)
  have HB3 := hid (HB2.out.trans (hc.below (B := w.heap.size) (fun b hb => by simp at hb; omega) HB2.out.size))
  have HC3 := hid (fun W' (hc' : Chg [w.heap.size + 1] w3 W') => HC2.out W' (hc.trans hc' (fun b hb => .inl hb)))
  clear hc hz hb cl HC2
  go_wp2_with fail
  refine (up_unless (w.heap.size + 1) false 4 0 w3 Y3.out).mono ?_
  rintro _ w4 ⟨rfl, hc, hz, hb⟩
  have cl4 := HC3.out w4 hc
  have K4 := hid (K3.out.chg hc (by simp)); have Y4 := hid (show Blk w4 (w.heap.size + 1) 65 #[.int .i64 4] by simpa using hb)
  have HB4 := hid (HB3.out.trans (hc.below (B := w.heap.size) (fun b hb => by simp at hb; omega) HB3.out.size))
  have c0 : w4.cell? ⟨w.heap.size, 0, none⟩ = some (.int .i64 0) := K4.out.cell 0 rfl
  have z0 := K4.out.frozen 0
  clear hc hz hb cl3 hsub hgt hgd
  go_wp2_with fail
  refine up_door rfl 4 0 0 _ rfl (fun _ => by simp [go_sem]) (fun W z hy hx => up_doorWrite _ _ _ _ _ W hy hx) K4.out Y4.out rfl rfl (fun W hW => ⟨rfl, HB4.out.trans (hW.below (B := w.heap.size) (fun b hb => by simp at hb; omega) HB4.out.size)⟩)
/-- one session is another one -/
theorem UpB.put {w w' : World} (h : UpB w base t width next ss sv qs) {k q : Nat} {pv : Value} {us : List Value} {s' : US} {pv' : Value} {us' : List Value} (hk : qs[k]? = some (q, pv, us)) (hs : SessB w' base q s' pv' us') (hc : Chg (q :: pv.ownBlock.toList) w w') (hb : ∀ b ∈ upBlocks q pv' us', b ∈ upBlocks q pv us ∨ w.heap.size ≤ b) :
    UpB w' base t width next (ss.set k s') sv (qs.set k (q, pv', us')) ∧ (∀ b ∈ upF t sv (qs.set k (q, pv', us')), b ∈ upF t sv qs ∨ w.heap.size ≤ b) := by
  have hkl := (List.getElem?_eq_some_iff.1 hk).1
  obtain ⟨s0, _, hs0⟩ := h.at_ (List.mem_of_getElem? hk)
  have hin : ∀ b ∈ q :: pv.ownBlock.toList, b ∈ upBlocks q pv us := fun b hb => by
    rcases List.mem_cons.1 hb with rfl | hb
    · exact mem_upBlocks.2 (.inl rfl)
    · exact mem_upBlocks.2 (.inr (.inl (by simpa using hb)))
  have hoth : ∀ j x, j ≠ k → qs[j]? = some x → ∀ b ∈ upBlocks x.1 x.2.1 x.2.2, b < w.heap.size ∧ b ∉ upBlocks q pv us := fun j x hj hx b hbb => by
    obtain ⟨s1, _, hs1⟩ := h.at_ (List.mem_of_getElem? hx)
    exact ⟨(hs1.lt b hbb).2, h.apart j k x _ hj hx hk b hbb⟩
  have hnt : ∀ b ∈ upBlocks q pv us, b ≠ t ∧ sv.ownBlock ≠ some b := fun b hbb => by
    refine ⟨fun e => ?_, fun e => ?_⟩
    · subst e
      rcases hs0.tys hbb with h1 | h1 | h1
      · exact h.hd.ty.ne h1 (by decide) rfl
      · exact h.hd.ty.ne h1 (by decide) rfl
      · exact h.hd.ty.ne h1 (by decide) rfl
    · have hr := row_ty h.row e
      rcases hs0.tys hbb with h1 | h1 | h1
      · exact hr.ne h1 (by decide) rfl
      · exact hr.ne h1 (by decide) rfl
      · exact hr.ne h1 (by decide) rfl
  refine ⟨{ hd := h.hd.chg hc (fun hm => (hnt t (hin t hm)).1 rfl), row := ?_, each := fun j s x hs1 hx => ?_, apart := fun i j x y hij hx hy b hbx hby => ?_, ht := h.ht }, fun b hbb => ?_⟩
  · have hr := row_chg h.row hc (fun b e hm => (hnt b (hin b hm)).2 e)
    rw [List.length_set]
    have : (qs.set k (q, pv', us')).map (fun x => Value.pointer (some ⟨x.1, 0, none⟩)) = qs.map fun x => Value.pointer (some ⟨x.1, 0, none⟩) := by
      refine List.ext_getElem? fun j => ?_
      rw [List.getElem?_map, List.getElem?_map, List.getElem?_set]
      by_cases hj : k = j
      · subst hj
        rw [if_pos rfl, if_pos hkl, hk]
        rfl
      · rw [if_neg hj]
    rw [this]
    exact hr
  · rw [List.getElem?_set] at hs1 hx
    by_cases hj : k = j
    · subst hj
      simp only [if_true, hkl] at hx hs1
      split at hs1
      · cases hs1; cases hx; exact hs
      · cases hs1
    · rw [if_neg hj] at hs1 hx
      exact (h.each j s x hs1 hx).chg hc (fun b hbb hm => (hoth j x (Ne.symm hj) hx b hbb).2 (hin b hm))
  · rw [List.getElem?_set] at hx hy
    by_cases hi : k = i
    · subst hi
      simp only [if_true, hkl] at hx
      rw [if_neg hij] at hy
      cases hx
      obtain ⟨h1, h2⟩ := hoth j y (Ne.symm hij) hy b hby
      rcases hb b hbx with h3 | h3
      · exact h2 h3
      · omega
    · rw [if_neg hi] at hx
      by_cases hj : k = j
      · subst hj
        simp only [if_true, hkl] at hy
        cases hy
        obtain ⟨h1, h2⟩ := hoth i x (Ne.symm hi) hx b hbx
        rcases hb b hby with h3 | h3
        · exact h2 h3
        · omega
      · rw [if_neg hj] at hy
        exact h.apart i j x y hij hx hy b hbx hby
  · rcases mem_upF.1 hbb with rfl | hbb | ⟨x, hx, hbb⟩
    · exact .inl (mem_upF.2 (.inl rfl))
    · exact .inl (mem_upF.2 (.inr (.inl hbb)))
    · rcases List.mem_or_eq_of_mem_set hx with hx | rfl
      · exact .inl (mem_upF.2 (.inr (.inr ⟨x, hx, hbb⟩)))
      · rcases hb b hbb with h3 | h3
        · exact .inl (mem_upF.2 (.inr (.inr ⟨_, List.mem_of_getElem? hk, h3⟩)))
        · exact .inr h3
end
end Go.Proofs.YtgacdimjbpkgoaaDoor
