/- The mathematics of clouds: sets of dots in one form. No program. -/
namespace Go.Proofs.Ythjflgnoeenenaa.Cl

abbrev Dt := Int × Int
/-- how many first dots of a region there are -/
def frs (v : List Int) (r : Int) : Int := if r < 1 then 0 else v.getD (r - 1).toNat 0
def dLt (a b : Dt) : Prop := a.1 < b.1 ∨ (a.1 = b.1 ∧ a.2 < b.2)
instance (a b : Dt) : Decidable (dLt a b) := by unfold dLt; infer_instance
theorem dLt_trans {a b c : Dt} (h : dLt a b) (k : dLt b c) : dLt a c := by unfold dLt at *; omega
theorem dLt_irrefl (a : Dt) : ¬ dLt a a := by unfold dLt; omega
theorem dLt_tri {a b : Dt} (h : ¬ dLt a b) (k : a ≠ b) : dLt b a := by
  unfold dLt at *
  have : a.1 ≠ b.1 ∨ a.2 ≠ b.2 := by
    by_cases e : a.1 = b.1
    · right; intro e2; exact k (Prod.ext e e2)
    · exact .inl e
  omega
/-- dots that rise, with one more, if it is not there -/
def laid : List Dt → Dt → List Dt
  | [], d => [d]
  | x :: r, d => if dLt x d then x :: laid r d else if x = d then x :: r else d :: x :: r
def rising (ds : List Dt) : List Dt := ds.foldl laid []
theorem mem_laid (l : List Dt) (d e : Dt) : e ∈ laid l d ↔ e ∈ l ∨ e = d := by
  induction l with
  | nil => simp [laid]
  | cons x r ih =>
    unfold laid
    split
    · simp [ih, or_assoc]
    · split
      · rename_i h
        subst h
        simp only [List.mem_cons]
        constructor
        · intro k; exact .inl k
        · rintro (k | rfl)
          · exact k
          · exact .inl rfl
      · simp only [List.mem_cons]
        constructor
        · rintro (k | k | k)
          · exact .inr k
          · exact .inl (.inl k)
          · exact .inl (.inr k)
        · rintro ((k | k) | k)
          · exact .inr (.inl k)
          · exact .inr (.inr k)
          · exact .inl k
theorem sorted_laid {l : List Dt} (h : l.Pairwise dLt) (d : Dt) : (laid l d).Pairwise dLt := by
  induction l with
  | nil => simp [laid]
  | cons x r ih =>
    rw [List.pairwise_cons] at h
    unfold laid
    split
    · rename_i hx
      rw [List.pairwise_cons]
      refine ⟨fun e he => ?_, ih h.2⟩
      rcases (mem_laid r d e).1 he with k | rfl
      · exact h.1 e k
      · exact hx
    · rename_i hx
      split
      · exact List.pairwise_cons.2 h
      · rename_i hne
        have hd := dLt_tri hx hne
        refine List.pairwise_cons.2 ⟨fun e he => ?_, List.pairwise_cons.2 h⟩
        rcases List.mem_cons.1 he with rfl | k
        · exact hd
        · exact dLt_trans hd (h.1 e k)
theorem foldl_laid (ds : List Dt) : ∀ (l : List Dt), l.Pairwise dLt → (ds.foldl laid l).Pairwise dLt ∧ ∀ e, e ∈ ds.foldl laid l ↔ e ∈ l ∨ e ∈ ds := by
  induction ds with
  | nil => intro l h; exact ⟨h, fun e => by simp⟩
  | cons d r ih =>
    intro l h
    rw [List.foldl_cons]
    obtain ⟨h1, h2⟩ := ih (laid l d) (sorted_laid h d)
    refine ⟨h1, fun e => ?_⟩
    rw [h2, mem_laid, List.mem_cons, or_assoc]
theorem rising_sorted (ds : List Dt) : (rising ds).Pairwise dLt := (foldl_laid ds [] List.Pairwise.nil).1
theorem mem_rising (ds : List Dt) (e : Dt) : e ∈ rising ds ↔ e ∈ ds := by rw [rising, (foldl_laid ds [] List.Pairwise.nil).2]; simp
/-- two lists that rise, of the same dots, are one -/
theorem sorted_ext {l m : List Dt} (hl : l.Pairwise dLt) (hm : m.Pairwise dLt) (h : ∀ e, e ∈ l ↔ e ∈ m) : l = m := by
  induction l generalizing m with
  | nil =>
    cases m with
    | nil => rfl
    | cons y s => exact absurd ((h y).2 (List.mem_cons_self)) (by simp)
  | cons x r ih =>
    cases m with
    | nil => exact absurd ((h x).1 (List.mem_cons_self)) (by simp)
    | cons y s =>
      rw [List.pairwise_cons] at hl hm
      have e : x = y := by
        rcases List.mem_cons.1 ((h x).1 List.mem_cons_self) with e | k
        · exact e
        · rcases List.mem_cons.1 ((h y).2 List.mem_cons_self) with e | k2
          · exact e.symm
          · exact absurd (dLt_trans (hm.1 x k) (hl.1 y k2)) (dLt_irrefl y)
      subst e
      rw [ih hl.2 hm.2 fun z => ?_]
      constructor
      · intro k
        rcases List.mem_cons.1 ((h z).1 (List.mem_cons_of_mem _ k)) with rfl | k2
        · exact absurd (hl.1 z k) (dLt_irrefl z)
        · exact k2
      · intro k
        rcases List.mem_cons.1 ((h z).2 (List.mem_cons_of_mem _ k)) with rfl | k2
        · exact absurd (hm.1 z k) (dLt_irrefl z)
        · exact k2
/-- one dot absorbed, or kept beside -/
def stepC (s : List Int × List Dt) (d : Dt) : List Int × List Dt :=
  if d.2 = frs s.1 d.1 + 1 then (s.1.set (d.1 - 1).toNat d.2, s.2) else if frs s.1 d.1 < d.2 then (s.1, s.2 ++ [d]) else s
def pad (v : List Int) : List Int := v ++ List.replicate (16 - v.length) 0
def trim (f : List Int) : List Int := (f.reverse.dropWhile (fun x => x == 0)).reverse
def walkC (v : List Int) (l : List Dt) : List Int × List Dt := l.foldl stepC (pad v, [])
def formedV (v : List Int) (ds : List Dt) : List Int × List Dt := (trim (walkC v (rising ds)).1, (walkC v (rising ds)).2)
def dotted (d : Dt) : Prop := 1 ≤ d.1 ∧ d.1 ≤ 16 ∧ 1 ≤ d.2 ∧ d.2 ≤ 1048576
def ranged (v : List Int) (ds : List Dt) : Prop := v.length ≤ 16 ∧ (∀ x ∈ v, 0 ≤ x ∧ x ≤ 1048576) ∧ ∀ d ∈ ds, dotted d
/-- the set -/
def isIn (v : List Int) (ds : List Dt) (d : Dt) : Prop := 1 ≤ d.2 ∧ (d.2 ≤ frs v d.1 ∨ d ∈ ds)
theorem frs_low {v : List Int} {r : Int} (h : r < 1) : frs v r = 0 := if_pos h
theorem frs_at {v : List Int} {r : Int} (h : ¬ r < 1) : frs v r = v.getD (r - 1).toNat 0 := if_neg h
theorem frs_far {v : List Int} {r : Int} (h : (v.length : Int) < r) : frs v r = 0 := by
  rw [frs_at (by omega), List.getD_eq_getElem?_getD, List.getElem?_eq_none (by omega)]; rfl
theorem frs_nat (v : List Int) (i : Nat) : frs v ((i : Int) + 1) = v.getD i 0 := by rw [frs_at (by omega)]; congr 1; omega
theorem frs_pad (v : List Int) (r : Int) : frs (pad v) r = frs v r := by
  unfold frs pad
  split
  · rfl
  · rw [List.getD_eq_getElem?_getD, List.getD_eq_getElem?_getD]
    by_cases h : (r - 1).toNat < v.length
    · rw [List.getElem?_append_left h]
    · rw [List.getElem?_append_right (by omega), List.getElem?_eq_none (l := v) (by omega), List.getElem?_replicate]
      split <;> rfl
theorem frs_set {f : List Int} {r : Int} {x : Int} (h1 : 1 ≤ r) (h2 : r ≤ f.length) (q : Int) : frs (f.set (r - 1).toNat x) q = if q = r then x else frs f q := by
  unfold frs
  by_cases hq : q < 1
  · rw [if_pos hq, if_neg (by omega), if_pos hq]
  · rw [if_neg hq, if_neg hq, List.getD_eq_getElem?_getD, List.getD_eq_getElem?_getD, List.getElem?_set]
    by_cases e : q = r
    · subst e
      rw [if_pos rfl, if_pos rfl, if_pos (by omega)]; rfl
    · rw [if_neg (by omega), if_neg e]
theorem trim_spec (f : List Int) : ∃ k, f = trim f ++ List.replicate k 0 ∧ (∀ x, (trim f).getLast? = some x → x ≠ 0) := by
  unfold trim
  generalize hg : f.reverse = g
  have hf : f = g.reverse := by rw [← hg, List.reverse_reverse]
  subst hf
  clear hg
  induction g with
  | nil => exact ⟨0, rfl, fun x h => by simp at h⟩
  | cons a g ih =>
    rw [List.dropWhile_cons]
    by_cases ha : a = 0
    · subst ha
      obtain ⟨k, h1, h2⟩ := ih
      refine ⟨k + 1, ?_, ?_⟩
      · simp only [beq_self_eq_true, if_true]
        rw [List.reverse_cons, List.replicate_succ', ← List.append_assoc, ← h1]
      · simpa using h2
    · have : (a == 0) = false := by simpa using ha
      rw [this]
      refine ⟨0, by simp, fun x h => ?_⟩
      simp at h
      rw [← h]; exact ha
theorem frs_trim (f : List Int) (r : Int) : frs (trim f) r = frs f r := by
  obtain ⟨k, h1, _⟩ := trim_spec f
  conv => rhs; rw [h1]
  unfold frs
  split
  · rfl
  · rw [List.getD_eq_getElem?_getD, List.getD_eq_getElem?_getD]
    by_cases h : (r - 1).toNat < (trim f).length
    · rw [List.getElem?_append_left h]
    · rw [List.getElem?_append_right (by omega), List.getElem?_eq_none (l := trim f) (by omega), List.getElem?_replicate]
      split <;> rfl
theorem trim_len (f : List Int) : (trim f).length ≤ f.length := by
  obtain ⟨k, h1, _⟩ := trim_spec f
  have := congrArg List.length h1
  rw [List.length_append] at this
  omega
/-- a form: no noughts at the end, dots that rise, with gaps -/
structure Can (v : List Int) (ds : List Dt) : Prop where
  last : ∀ x, v.getLast? = some x → x ≠ 0
  sorted : ds.Pairwise dLt
  gap : ∀ d ∈ ds, frs v d.1 + 1 < d.2
theorem trim_of {v : List Int} (h : ∀ x, v.getLast? = some x → x ≠ 0) {w : List Int} (hw : ∀ x, w.getLast? = some x → x ≠ 0) (he : ∀ r, frs v r = frs w r) : v = w := by
  have key : ∀ {v w : List Int}, (∀ x, w.getLast? = some x → x ≠ 0) → (∀ r, frs v r = frs w r) → w.length ≤ v.length := by
    intro v w hw he
    by_cases hl : w.length ≤ v.length
    · exact hl
    · exfalso
      have h1 := he (w.length : Int)
      rw [frs_far (v := v) (by omega), frs_at (by omega), List.getD_eq_getElem?_getD] at h1
      have h2 : w.getLast? = w[w.length - 1]? := List.getLast?_eq_getElem?
      have h3 : ((w.length : Int) - 1).toNat = w.length - 1 := by omega
      rw [h3, ← h2] at h1
      have h4 : w.getLast? = some (w[w.length - 1]'(by omega)) := by rw [h2]; exact List.getElem?_eq_getElem _
      rw [h4] at h1
      exact hw _ h4 h1.symm
  have hl : v.length = w.length := Nat.le_antisymm (key h (fun r => (he r).symm)) (key hw he)
  refine List.ext_getElem hl fun i h1 h2 => ?_
  have := he ((i : Int) + 1)
  rw [frs_nat, frs_nat, List.getD_eq_getElem?_getD, List.getD_eq_getElem?_getD, List.getElem?_eq_getElem h1, List.getElem?_eq_getElem h2] at this
  exact this
/-- each set has one form -/
theorem can_one {v w : List Int} {ds es : List Dt} (hv : Can v ds) (hw : Can w es) (h0 : ∀ r, 0 ≤ frs v r) (k0 : ∀ r, 0 ≤ frs w r) (h : ∀ d, isIn v ds d ↔ isIn w es d) : v = w ∧ ds = es := by
  have key : ∀ {v w : List Int} {ds es : List Dt}, Can v ds → (∀ r, 0 ≤ frs v r) → (∀ d, isIn w es d → isIn v ds d) → ∀ r, frs w r ≤ frs v r := by
    intro v w ds es hv h0 h r
    by_cases hl : frs w r ≤ frs v r
    · exact hl
    · exfalso
      have h1 := h0 r
      obtain ⟨h2, h3⟩ := h (r, frs v r + 1) ⟨by show 1 ≤ frs v r + 1; omega, .inl (by show frs v r + 1 ≤ frs w r; omega)⟩
      rcases h3 with h3 | h3
      · have h3 : frs v r + 1 ≤ frs v r := h3
        omega
      · have := hv.gap _ h3
        have : frs v r + 1 < frs v r + 1 := this
        omega
  have he : ∀ r, frs v r = frs w r := fun r => Int.le_antisymm (key hw k0 (fun d hd => (h d).1 hd) r) (key hv h0 (fun d hd => (h d).2 hd) r)
  refine ⟨trim_of hv.last hw.last he, sorted_ext hv.sorted hw.sorted fun e => ?_⟩
  have one : ∀ {v w : List Int} {ds es : List Dt}, Can v ds → (∀ r, 0 ≤ frs v r) → (∀ r, frs v r = frs w r) → (∀ d, isIn v ds d → isIn w es d) → ∀ e ∈ ds, e ∈ es := by
    intro v w ds es hv h0 he h e hm
    have hg := hv.gap e hm
    have := h0 e.1
    rcases (h e ⟨by omega, .inr hm⟩).2 with k | k
    · rw [← he] at k; omega
    · exact k
  exact ⟨one hv h0 he (fun d hd => (h d).1 hd) e, one hw k0 (fun r => (he r).symm) (fun d hd => (h d).2 hd) e⟩
/-- what holds while dots are absorbed, one after the other, rising -/
structure WI (v : List Int) (done : List Dt) (s : List Int × List Dt) : Prop where
  len : s.1.length = 16
  ge : ∀ r, frs v r ≤ frs s.1 r
  sorted : s.2.Pairwise dLt
  sub : ∀ d ∈ s.2, d ∈ done
  gap : ∀ d ∈ s.2, frs s.1 d.1 + 1 < d.2
  set_ : ∀ d : Dt, 1 ≤ d.2 → ((d.2 ≤ frs s.1 d.1 ∨ d ∈ s.2) ↔ (d.2 ≤ frs v d.1 ∨ d ∈ done))
theorem WI.step {v : List Int} {done : List Dt} {s : List Int × List Dt} (h : WI v done s) {d : Dt} (hd : dotted d) (hlt : ∀ e ∈ done, dLt e d) (h0 : 0 ≤ frs v d.1) : WI v (done ++ [d]) (stepC s d) := by
  obtain ⟨hd1, hd2, hd3, hd4⟩ := hd
  have hge := h.ge d.1
  unfold stepC
  split
  · rename_i he
    have hfs := fun q => frs_set (f := s.1) (r := d.1) (x := d.2) hd1 (by rw [h.len]; omega) q
    have hno : ∀ e ∈ s.2, e.1 ≠ d.1 := fun e hm e1 => by
      have hg := h.gap e hm
      have hl := hlt e (h.sub e hm)
      rw [e1] at hg
      unfold dLt at hl
      omega
    refine ⟨by rw [List.length_set]; exact h.len, fun r => ?_, h.sorted, fun e hm => List.mem_append_left _ (h.sub e hm), fun e hm => ?_, fun e h1 => ?_⟩
    · rw [hfs]
      split
      · rename_i e; subst e; omega
      · exact h.ge r
    · rw [hfs, if_neg (hno e hm)]; exact h.gap e hm
    · rw [hfs, List.mem_append, List.mem_singleton]
      have hs := h.set_ e h1
      by_cases e1 : e.1 = d.1
      · rw [if_pos e1]
        rw [e1] at hs ⊢
        constructor
        · rintro (k | k)
          · by_cases k2 : e.2 = d.2
            · exact .inr (.inr (Prod.ext e1 k2))
            · rcases hs.1 (.inl (by omega)) with k3 | k3
              · exact .inl k3
              · exact .inr (.inl k3)
          · rcases hs.1 (.inr k) with k3 | k3
            · exact .inl k3
            · exact .inr (.inl k3)
        · rintro (k | k | k)
          · rcases hs.2 (.inl k) with k3 | k3
            · exact .inl (by omega)
            · exact .inr k3
          · rcases hs.2 (.inr k) with k3 | k3
            · exact .inl (by omega)
            · exact .inr k3
          · exact .inl (by rw [k]; exact Int.le_refl _)
      · rw [if_neg e1]
        rw [hs]
        constructor
        · rintro (k | k)
          · exact .inl k
          · exact .inr (.inl k)
        · rintro (k | k | k)
          · exact .inl k
          · exact .inr k
          · exact absurd (by rw [k]) e1
  · rename_i hne
    split
    · rename_i hg
      refine ⟨h.len, h.ge, ?_, fun e hm => ?_, fun e hm => ?_, fun e h1 => ?_⟩
      · rw [List.pairwise_append]
        exact ⟨h.sorted, by simp, fun a ha b hb => by rw [List.mem_singleton.1 hb]; exact hlt a (h.sub a ha)⟩
      · rcases List.mem_append.1 hm with k | k
        · exact List.mem_append_left _ (h.sub e k)
        · exact List.mem_append_right _ k
      · rcases List.mem_append.1 hm with k | k
        · exact h.gap e k
        · rw [List.mem_singleton.1 k]; show frs s.1 d.1 + 1 < d.2; omega
      · rw [List.mem_append, List.mem_append, ← or_assoc, ← or_assoc, h.set_ e h1]
    · rename_i hng
      refine ⟨h.len, h.ge, h.sorted, fun e hm => List.mem_append_left _ (h.sub e hm), h.gap, fun e h1 => ?_⟩
      rw [List.mem_append, List.mem_singleton, ← or_assoc, ← h.set_ e h1]
      constructor
      · exact fun k => .inl k
      · rintro (k | rfl)
        · exact k
        · exact .inl (by omega)
theorem WI.fold {v : List Int} (h0 : ∀ r, 0 ≤ frs v r) (l : List Dt) : ∀ (done : List Dt) (s : List Int × List Dt), WI v done s → (done ++ l).Pairwise dLt → (∀ d ∈ l, dotted d) → WI v (done ++ l) (l.foldl stepC s) := by
  induction l with
  | nil => intro done s h _ _; simpa using h
  | cons d r ih =>
    intro done s h hp hd
    rw [List.foldl_cons]
    have e : done ++ d :: r = (done ++ [d]) ++ r := by simp
    rw [e] at hp ⊢
    refine ih _ _ (h.step (hd d List.mem_cons_self) (fun e he => ?_) (h0 d.1)) hp (fun x hx => hd x (List.mem_cons_of_mem _ hx))
    have := (List.pairwise_append.1 (List.pairwise_append.1 hp).1).2.2
    exact this e he d (by simp)
theorem frs_nonneg {v : List Int} (h : ∀ x ∈ v, 0 ≤ x) (r : Int) : 0 ≤ frs v r := by
  unfold frs
  split
  · exact Int.le_refl _
  · rw [List.getD_eq_getElem?_getD]
    cases e : v[(r - 1).toNat]? with
    | none => exact Int.le_refl _
    | some x => exact h x (List.mem_of_getElem? e)
/-- what formed makes: a form, of the same set -/
theorem formed_spec {v : List Int} {ds : List Dt} (h : ranged v ds) : WI v (rising ds) (walkC v (rising ds)) := by
  have h0 := frs_nonneg (fun x hx => (h.2.1 x hx).1)
  have hs : WI v [] (pad v, []) := by
    refine ⟨?_, fun r => ?_, List.Pairwise.nil, (fun d hd => by cases hd), (fun d hd => by cases hd), fun d _ => ?_⟩
    · unfold pad; rw [List.length_append, List.length_replicate]; have := h.1; omega
    · rw [frs_pad]; exact Int.le_refl _
    · rw [frs_pad]
  have := WI.fold h0 (rising ds) [] (pad v, []) hs (by simpa using rising_sorted ds) (fun d hd => h.2.2 d ((mem_rising ds d).1 hd))
  rwa [List.nil_append] at this
theorem formed_can {v : List Int} {ds : List Dt} (h : ranged v ds) : Can (formedV v ds).1 (formedV v ds).2 := by
  have hw := formed_spec h
  obtain ⟨k, _, h2⟩ := trim_spec (walkC v (rising ds)).1
  exact ⟨h2, hw.sorted, fun d hd => by show frs (trim _) d.1 + 1 < d.2; rw [frs_trim]; exact hw.gap d hd⟩
theorem formed_in {v : List Int} {ds : List Dt} (h : ranged v ds) (d : Dt) : isIn (formedV v ds).1 (formedV v ds).2 d ↔ isIn v ds d := by
  have hw := formed_spec h
  unfold isIn
  constructor
  · rintro ⟨h1, h2⟩
    refine ⟨h1, ?_⟩
    have h2 : d.2 ≤ frs (trim _) d.1 ∨ _ := h2
    rw [frs_trim] at h2
    rcases (hw.set_ d h1).1 h2 with k | k
    · exact .inl k
    · exact .inr ((mem_rising ds d).1 k)
  · rintro ⟨h1, h2⟩
    refine ⟨h1, ?_⟩
    show d.2 ≤ frs (trim _) d.1 ∨ _
    rw [frs_trim]
    refine (hw.set_ d h1).2 ?_
    rcases h2 with k | k
    · exact .inl k
    · exact .inr ((mem_rising ds d).2 k)
theorem formed_nonneg {v : List Int} {ds : List Dt} (h : ranged v ds) (r : Int) : 0 ≤ frs (formedV v ds).1 r := by
  show 0 ≤ frs (trim _) r
  rw [frs_trim]
  exact Int.le_trans (frs_nonneg (fun x hx => (h.2.1 x hx).1) r) ((formed_spec h).ge r)
/-- the form hangs on the set alone -/
theorem formed_set {v w : List Int} {ds es : List Dt} (h : ranged v ds) (k : ranged w es) (he : ∀ d, isIn v ds d ↔ isIn w es d) : formedV v ds = formedV w es := by
  obtain ⟨h1, h2⟩ := can_one (formed_can h) (formed_can k) (formed_nonneg h) (formed_nonneg k) (fun d => (formed_in h d).trans ((he d).trans (formed_in k d).symm))
  exact Prod.ext h1 h2
/-- what is in its form is formed as it is -/
theorem formed_id {v : List Int} {ds : List Dt} (h : ranged v ds) (k : Can v ds) : formedV v ds = (v, ds) := by
  obtain ⟨h1, h2⟩ := can_one (formed_can h) k (formed_nonneg h) (frs_nonneg (fun x hx => (h.2.1 x hx).1)) (formed_in h)
  exact Prod.ext h1 h2
theorem can_of_formed {v : List Int} {ds : List Dt} (h : ranged v ds) (e : formedV v ds = (v, ds)) : Can v ds := by
  have := formed_can h
  rw [e] at this
  exact this
end Go.Proofs.Ythjflgnoeenenaa.Cl
