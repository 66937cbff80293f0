/- The mathematics of clouds, for the laws: joins, parts, next dots, counts. No program. -/
import Derived.Test.YthjflgnoeenenaaClMath
namespace Go.Proofs.Ythjflgnoeenenaa.Cl

/-- a cloud -/
abbrev Cd := List Int × List Dt
def isC (c : Cd) (d : Dt) : Prop := isIn c.1 c.2 d
/-- a cloud in its form, as it may be -/
structure OKC (c : Cd) : Prop where
  rg : ranged c.1 c.2
  can : Can c.1 c.2
theorem OKC.nonneg {c : Cd} (h : OKC c) (r : Int) : 0 ≤ frs c.1 r := frs_nonneg (fun x hx => (h.rg.2.1 x hx).1) r
theorem okc_ext {a b : Cd} (ha : OKC a) (hb : OKC b) (h : ∀ d, isC a d ↔ isC b d) : a = b := by
  obtain ⟨h1, h2⟩ := can_one ha.can hb.can ha.nonneg hb.nonneg h
  exact Prod.ext h1 h2
theorem stepC_le {s : List Int × List Dt} {d : Dt} (hs : ∀ x ∈ s.1, 0 ≤ x ∧ x ≤ 1048576) (hd : dotted d) : ∀ x ∈ (stepC s d).1, 0 ≤ x ∧ x ≤ 1048576 := by
  unfold stepC
  split
  · intro x hx
    rcases List.mem_or_eq_of_mem_set hx with h | h
    · exact hs x h
    · obtain ⟨_, _, h3, h4⟩ := hd
      rw [h]; omega
  · split
    · exact hs
    · exact hs
theorem fold_le (l : List Dt) : ∀ (s : List Int × List Dt), (∀ x ∈ s.1, 0 ≤ x ∧ x ≤ 1048576) → (∀ d ∈ l, dotted d) → ∀ x ∈ (l.foldl stepC s).1, 0 ≤ x ∧ x ≤ 1048576 := by
  induction l with
  | nil => intro s h _; exact h
  | cons d r ih =>
    intro s h hd
    rw [List.foldl_cons]
    exact ih _ (stepC_le h (hd d List.mem_cons_self)) (fun e he => hd e (List.mem_cons_of_mem _ he))
theorem mem_trim {f : List Int} {x : Int} (h : x ∈ trim f) : x ∈ f := by
  obtain ⟨k, h1, _⟩ := trim_spec f
  rw [h1]
  exact List.mem_append_left _ h
theorem formed_ranged {v : List Int} {ds : List Dt} (h : ranged v ds) : ranged (formedV v ds).1 (formedV v ds).2 := by
  have hw := formed_spec h
  refine ⟨?_, fun x hx => ?_, fun d hd => h.2.2 d ((mem_rising ds d).1 (hw.sub d hd))⟩
  · have := trim_len (walkC v (rising ds)).1
    rw [hw.len] at this
    exact this
  · refine fold_le (rising ds) (pad v, []) (fun y hy => ?_) (fun d hd => h.2.2 d ((mem_rising ds d).1 hd)) x (mem_trim hx)
    unfold pad at hy
    rcases List.mem_append.1 hy with k | k
    · exact h.2.1 y k
    · have := List.eq_of_mem_replicate k
      omega
theorem formed_ok {v : List Int} {ds : List Dt} (h : ranged v ds) : OKC (formedV v ds) := ⟨formed_ranged h, formed_can h⟩
theorem laid_len (l : List Dt) (d : Dt) : (laid l d).length ≤ l.length + 1 := by
  induction l with
  | nil => simp [laid]
  | cons x r ih =>
    unfold laid
    split
    · simp; omega
    · split <;> simp
theorem rising_len (ds : List Dt) : (rising ds).length ≤ ds.length := by
  have key : ∀ (ds l : List Dt), (ds.foldl laid l).length ≤ l.length + ds.length := by
    intro ds
    induction ds with
    | nil => intro l; simp
    | cons d r ih =>
      intro l
      rw [List.foldl_cons]
      have h1 := ih (laid l d)
      have h2 := laid_len l d
      rw [List.length_cons]
      omega
  have := key ds []
  simpa [rising] using this
theorem fold_len (l : List Dt) : ∀ s : List Int × List Dt, (l.foldl stepC s).2.length ≤ s.2.length + l.length := by
  induction l with
  | nil => intro s; simp
  | cons d r ih =>
    intro s
    rw [List.foldl_cons]
    have h1 := ih (stepC s d)
    have h2 : (stepC s d).2.length ≤ s.2.length + 1 := by
      unfold stepC
      split
      · simp
      · split
        · simp
        · simp
    rw [List.length_cons]
    omega
theorem formed_len (v : List Int) (ds : List Dt) : (formedV v ds).2.length ≤ ds.length := by
  have h1 := fold_len (rising ds) (pad v, [])
  have h2 := rising_len ds
  simp at h1
  exact Nat.le_trans h1 h2
/-- the numbers of both, the greater ones -/
def maxV (a b : List Int) : List Int := (List.range 16).map fun i : Nat => max (frs a ((i : Int) + 1)) (frs b ((i : Int) + 1))
def joinC (a b : Cd) : Cd := formedV (maxV a.1 b.1) (a.2 ++ b.2)
theorem frs_max {a b : List Int} (ha : a.length ≤ 16) (hb : b.length ≤ 16) (r : Int) : frs (maxV a b) r = max (frs a r) (frs b r) := by
  by_cases h : r < 1
  · rw [frs_low h, frs_low h, frs_low h]; rfl
  · by_cases h2 : 16 < r
    · rw [frs_far (by unfold maxV; simp; omega), frs_far (by omega), frs_far (by omega)]; rfl
    · obtain ⟨k, rfl⟩ : ∃ k : Nat, r = (k : Int) + 1 := ⟨(r - 1).toNat, by omega⟩
      rw [frs_nat]
      unfold maxV
      rw [List.getD_eq_getElem?_getD, List.getElem?_map, List.getElem?_range (by omega)]
      rfl
theorem frs_le {v : List Int} (h : ∀ x ∈ v, 0 ≤ x ∧ x ≤ 1048576) (r : Int) : 0 ≤ frs v r ∧ frs v r ≤ 1048576 := by
  unfold frs
  split
  · omega
  · rw [List.getD_eq_getElem?_getD]
    cases e : v[(r - 1).toNat]? with
    | none => show (0 : Int) ≤ 0 ∧ (0 : Int) ≤ 1048576; omega
    | some x => exact h x (List.mem_of_getElem? e)
theorem max_ranged {a b : Cd} (ha : ranged a.1 a.2) (hb : ranged b.1 b.2) : ranged (maxV a.1 b.1) (a.2 ++ b.2) := by
  refine ⟨by unfold maxV; simp, fun x hx => ?_, fun d hd => ?_⟩
  · unfold maxV at hx
    obtain ⟨i, _, rfl⟩ := List.mem_map.1 hx
    have h1 := frs_le ha.2.1 ((i : Int) + 1)
    have h2 := frs_le hb.2.1 ((i : Int) + 1)
    omega
  · rcases List.mem_append.1 hd with k | k
    · exact ha.2.2 d k
    · exact hb.2.2 d k
theorem join_ok {a b : Cd} (ha : OKC a) (hb : OKC b) : OKC (joinC a b) := formed_ok (max_ranged ha.rg hb.rg)
theorem join_in {a b : Cd} (ha : OKC a) (hb : OKC b) (d : Dt) : isC (joinC a b) d ↔ isC a d ∨ isC b d := by
  have h := formed_in (max_ranged ha.rg hb.rg) d
  show isIn (formedV _ _).1 (formedV _ _).2 d ↔ _
  rw [h]
  unfold isC isIn
  rw [frs_max ha.rg.1 hb.rg.1, List.mem_append]
  constructor
  · rintro ⟨h1, h2⟩
    rcases h2 with k | k | k
    · by_cases hk : d.2 ≤ frs a.1 d.1
      · exact .inl ⟨h1, .inl hk⟩
      · exact .inr ⟨h1, .inl (by omega)⟩
    · exact .inl ⟨h1, .inr k⟩
    · exact .inr ⟨h1, .inr k⟩
  · rintro (⟨h1, k | k⟩ | ⟨h1, k | k⟩)
    · exact ⟨h1, .inl (by omega)⟩
    · exact ⟨h1, .inr (.inl k)⟩
    · exact ⟨h1, .inl (by omega)⟩
    · exact ⟨h1, .inr (.inr k)⟩
theorem join_len (a b : Cd) : (joinC a b).2.length ≤ a.2.length + b.2.length := by
  have := formed_len (maxV a.1 b.1) (a.2 ++ b.2)
  rwa [List.length_append] at this
theorem join_comm {a b : Cd} (ha : OKC a) (hb : OKC b) : joinC a b = joinC b a := okc_ext (join_ok ha hb) (join_ok hb ha) fun d => by rw [join_in ha hb, join_in hb ha, or_comm]
theorem join_self {a : Cd} (ha : OKC a) : joinC a a = a := okc_ext (join_ok ha ha) ha fun d => by rw [join_in ha ha, or_self]
theorem join_assoc {a b c : Cd} (ha : OKC a) (hb : OKC b) (hc : OKC c) : joinC (joinC a b) c = joinC a (joinC b c) := okc_ext (join_ok (join_ok ha hb) hc) (join_ok ha (join_ok hb hc)) fun d => by
  rw [join_in (join_ok ha hb) hc, join_in ha hb, join_in ha (join_ok hb hc), join_in hb hc, or_assoc]
/-- is all of one in another one? -/
def partC (a b : Cd) : Prop := ∀ d, isC a d → isC b d
theorem part_iff {a b : Cd} (ha : OKC a) (hb : OKC b) : partC a b ↔ joinC a b = b := by
  constructor
  · intro h
    exact okc_ext (join_ok ha hb) hb fun d => by
      rw [join_in ha hb]
      exact ⟨fun k => k.elim (h d) id, .inr⟩
  · intro h d hd
    rw [← h, join_in ha hb]
    exact .inl hd
theorem part_join1 {a b : Cd} (ha : OKC a) (hb : OKC b) : partC a (joinC a b) := fun d h => (join_in ha hb d).2 (.inl h)
theorem part_join2 {a b : Cd} (ha : OKC a) (hb : OKC b) : partC b (joinC a b) := fun d h => (join_in ha hb d).2 (.inr h)
/-- the same set, told by other dots -/
theorem formed_of {c : Cd} (h : OKC c) {v : List Int} {ds : List Dt} (k : ranged v ds) (he : ∀ d, isIn v ds d ↔ isC c d) : formedV v ds = c := okc_ext (formed_ok k) h fun d => (formed_in k d).trans (he d)
/-- the greatest N of a region, none: 0 -/
def topC (c : Cd) (r : Int) : Int := c.2.foldl (fun n d => if d.1 = r then max n d.2 else n) (frs c.1 r)
theorem top_fold (l : List Dt) (r : Int) : ∀ n : Int, n ≤ l.foldl (fun n d => if d.1 = r then max n d.2 else n) n ∧ (∀ d ∈ l, d.1 = r → d.2 ≤ l.foldl (fun n d => if d.1 = r then max n d.2 else n) n) ∧ (l.foldl (fun n d => if d.1 = r then max n d.2 else n) n = n ∨ ∃ d ∈ l, d.1 = r ∧ l.foldl (fun n d => if d.1 = r then max n d.2 else n) n = d.2) := by
  induction l with
  | nil => intro n; exact ⟨Int.le_refl _, (fun d hd => by cases hd), .inl rfl⟩
  | cons x l ih =>
    intro n
    rw [List.foldl_cons]
    obtain ⟨h1, h2, h3⟩ := ih (if x.1 = r then max n x.2 else n)
    refine ⟨?_, fun d hd he => ?_, ?_⟩
    · by_cases hx : x.1 = r
      · rw [if_pos hx] at h1 ⊢; omega
      · rw [if_neg hx] at h1 ⊢; exact h1
    · rcases List.mem_cons.1 hd with rfl | k
      · rw [if_pos he] at h1 ⊢; omega
      · exact h2 d k he
    · rcases h3 with h3 | ⟨d, hd, e1, e2⟩
      · rw [h3]
        by_cases hx : x.1 = r
        · rw [if_pos hx]
          by_cases hm : n ≤ x.2
          · exact .inr ⟨x, List.mem_cons_self, hx, by omega⟩
          · exact .inl (by omega)
        · rw [if_neg hx]; exact .inl rfl
      · exact .inr ⟨d, List.mem_cons_of_mem _ hd, e1, e2⟩
theorem top_in {c : Cd} {r n : Int} (h : isC c (r, n)) : n ≤ topC c r := by
  obtain ⟨h1, h2, _⟩ := top_fold c.2 r (frs c.1 r)
  rcases h.2 with k | k
  · exact Int.le_trans k h1
  · exact h2 _ k rfl
theorem top_is {c : Cd} (r : Int) (h : 1 ≤ topC c r) : isC c (r, topC c r) := by
  obtain ⟨_, _, h3⟩ := top_fold c.2 r (frs c.1 r)
  refine ⟨h, ?_⟩
  rcases h3 with k | ⟨d, hd, e1, e2⟩
  · exact .inl (by show topC c r ≤ frs c.1 r; unfold topC; rw [k]; exact Int.le_refl _)
  · refine .inr ?_
    have : (r, topC c r) = d := Prod.ext e1.symm e2
    rw [this]; exact hd
theorem top_nonneg {c : Cd} (h : OKC c) (r : Int) : 0 ≤ topC c r := Int.le_trans (h.nonneg r) (top_fold c.2 r (frs c.1 r)).1
/-- how many dots there are -/
def countC (c : Cd) : Int := c.2.length + c.1.sum
theorem sum_pad (v : List Int) (k : Nat) : (v ++ List.replicate k 0).sum = v.sum := by
  rw [List.sum_append]
  have : (List.replicate k (0 : Int)).sum = 0 := by
    induction k with
    | zero => rfl
    | succ k ih => rw [List.replicate_succ, List.sum_cons, ih]; rfl
  omega
theorem sum_set (v : List Int) (i : Nat) (x : Int) (h : i < v.length) : (v.set i x).sum = v.sum - v[i] + x := by
  induction v generalizing i with
  | nil => simp at h
  | cons a v ih =>
    cases i with
    | zero => simp; omega
    | succ i =>
      have := ih i (by simpa using h)
      simp only [List.set_cons_succ, List.sum_cons, List.getElem_cons_succ]
      omega
theorem sum_trim (f : List Int) : (trim f).sum = f.sum := by
  obtain ⟨k, h1, _⟩ := trim_spec f
  have := sum_pad (trim f) k
  rw [← h1] at this
  exact this.symm
/-- a next dot is one more -/
theorem next_count {c : Cd} (h : OKC c) {r : Int} (h1 : 1 ≤ r) (h2 : r ≤ 16) (h3 : topC c r < 1048576) : countC (formedV c.1 (c.2 ++ [(r, topC c r + 1)])) = countC c + 1 := by
  have h0 := top_nonneg h r
  have hrg : ranged c.1 (c.2 ++ [(r, topC c r + 1)]) := ⟨h.rg.1, h.rg.2.1, fun d hd => by
    rcases List.mem_append.1 hd with k | k
    · exact h.rg.2.2 d k
    · rw [List.mem_singleton.1 k]; exact ⟨h1, h2, by show 1 ≤ topC c r + 1; omega, by show topC c r + 1 ≤ 1048576; omega⟩⟩
  by_cases he : topC c r = frs c.1 r
  · -- the dot is the next one of its region: one more of the first ones
    have hno : ∀ d ∈ c.2, d.1 ≠ r := fun d hd e => by
      have g := h.can.gap d hd
      rw [e] at g
      have := (top_fold c.2 r (frs c.1 r)).2.1 d hd e
      have : d.2 ≤ topC c r := this
      omega
    have hlen : (pad c.1).length = 16 := by unfold pad; rw [List.length_append, List.length_replicate]; have := h.rg.1; omega
    have hfs := fun q => frs_set (f := pad c.1) (r := r) (x := topC c r + 1) h1 (by rw [hlen]; exact h2) q
    have hok : OKC (trim ((pad c.1).set (r - 1).toNat (topC c r + 1)), c.2) := by
      refine ⟨⟨?_, fun x hx => ?_, h.rg.2.2⟩, ⟨?_, h.can.sorted, fun d hd => ?_⟩⟩
      · have := trim_len ((pad c.1).set (r - 1).toNat (topC c r + 1))
        rw [List.length_set, hlen] at this
        exact this
      · rcases List.mem_or_eq_of_mem_set (mem_trim hx) with k | k
        · unfold pad at k
          rcases List.mem_append.1 k with k | k
          · exact h.rg.2.1 x k
          · have := List.eq_of_mem_replicate k; omega
        · omega
      · obtain ⟨k, _, k2⟩ := trim_spec ((pad c.1).set (r - 1).toNat (topC c r + 1)); exact k2
      · show frs (trim _) d.1 + 1 < d.2
        rw [frs_trim, hfs, if_neg (hno d hd), frs_pad]
        exact h.can.gap d hd
    rw [formed_of hok hrg fun d => ?_]
    · unfold countC
      show (c.2.length : Int) + (trim _).sum = c.2.length + c.1.sum + 1
      have hi : (r - 1).toNat < (pad c.1).length := by omega
      have hv : (pad c.1)[(r - 1).toNat] = frs c.1 r := by
        rw [← frs_pad, frs_at (by omega), List.getD_eq_getElem?_getD, List.getElem?_eq_getElem hi]; rfl
      have hp : (pad c.1).sum = c.1.sum := sum_pad c.1 _
      rw [sum_trim, sum_set _ _ _ hi, hv, hp]
      omega
    · unfold isC isIn
      show _ ↔ 1 ≤ d.2 ∧ (d.2 ≤ frs (trim _) d.1 ∨ d ∈ c.2)
      rw [frs_trim, hfs, frs_pad, List.mem_append, List.mem_singleton]
      by_cases e : d.1 = r
      · rw [if_pos e, e]
        constructor
        · rintro ⟨g, k | k | k⟩
          · exact ⟨g, .inl (by omega)⟩
          · exact ⟨g, .inr k⟩
          · exact ⟨g, .inl (by rw [k]; exact Int.le_refl _)⟩
        · rintro ⟨g, k | k⟩
          · by_cases k2 : d.2 = topC c r + 1
            · exact ⟨g, .inr (.inr (Prod.ext e k2))⟩
            · exact ⟨g, .inl (by omega)⟩
          · exact ⟨g, .inr (.inl k)⟩
      · rw [if_neg e]
        constructor
        · rintro ⟨g, k | k | k⟩
          · exact ⟨g, .inl k⟩
          · exact ⟨g, .inr k⟩
          · exact absurd (by rw [k]) e
        · rintro ⟨g, k | k⟩
          · exact ⟨g, .inl k⟩
          · exact ⟨g, .inr (.inl k)⟩
  · -- it is kept beside
    have hgt : frs c.1 r < topC c r := by
      have := (top_fold c.2 r (frs c.1 r)).1
      have : frs c.1 r ≤ topC c r := this
      omega
    have hni : (r, topC c r + 1) ∉ c.2 := fun k => by
      have := (top_fold c.2 r (frs c.1 r)).2.1 _ k rfl
      have : topC c r + 1 ≤ topC c r := this
      omega
    have hok : OKC (c.1, laid c.2 (r, topC c r + 1)) := by
      refine ⟨⟨h.rg.1, h.rg.2.1, fun d hd => ?_⟩, ⟨h.can.last, sorted_laid h.can.sorted _, fun d hd => ?_⟩⟩
      · rcases (mem_laid _ _ _).1 hd with k | rfl
        · exact h.rg.2.2 d k
        · exact hrg.2.2 _ (List.mem_append_right _ (List.mem_singleton.2 rfl))
      · rcases (mem_laid _ _ _).1 hd with k | rfl
        · exact h.can.gap d k
        · show frs c.1 r + 1 < topC c r + 1; omega
    have hll : ∀ (l : List Dt) (d : Dt), d ∉ l → (laid l d).length = l.length + 1 := by
      intro l d
      induction l with
      | nil => intro _; rfl
      | cons x l ih =>
        intro hd
        unfold laid
        split
        · rw [List.length_cons, ih (fun k => hd (List.mem_cons_of_mem _ k)), List.length_cons]
        · split
          · rename_i e; exact absurd (by rw [e]; exact List.mem_cons_self) hd
          · simp
    rw [formed_of hok hrg fun d => ?_]
    · unfold countC
      show ((laid c.2 _).length : Int) + c.1.sum = _
      rw [hll _ _ hni]
      omega
    · unfold isC isIn
      show _ ↔ 1 ≤ d.2 ∧ (d.2 ≤ frs c.1 d.1 ∨ d ∈ laid c.2 _)
      rw [mem_laid, List.mem_append, List.mem_singleton]
/-- what is next is not there, and what is ahead of it is -/
theorem next_not {c : Cd} {r : Int} : ¬ isC c (r, topC c r + 1) := fun h => by
  have := top_in h
  omega
end Go.Proofs.Ythjflgnoeenenaa.Cl
