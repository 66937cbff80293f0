/- What clouds answer, as functions of what is handed in, and how loops come to them, one step after the other. No program. -/
import Derived.Test.YthjflgnoeenenaaClLaw
namespace Go.Proofs.Ythjflgnoeenenaa.Cl

instance (d : Dt) : Decidable (dotted d) := by unfold dotted; infer_instance
instance (v : List Int) (ds : List Dt) : Decidable (ranged v ds) := by unfold ranged; infer_instance
instance (v : List Int) (ds : List Dt) (d : Dt) : Decidable (isIn v ds d) := by unfold isIn; infer_instance
instance (c : Cd) (d : Dt) : Decidable (isC c d) := by unfold isC; infer_instance
/-- where a dot belongs among dots -/
def posL (l : List Dt) (d : Dt) : Nat := (l.takeWhile fun x => decide (dLt x d)).length
theorem pos_le (l : List Dt) (d : Dt) : posL l d ≤ l.length := (List.takeWhile_sublist _).length_le
theorem laid_pos (l : List Dt) (d : Dt) : laid l d = if l[posL l d]? = some d then l else l.take (posL l d) ++ d :: l.drop (posL l d) := by
  unfold posL
  induction l with
  | nil => simp [laid]
  | cons x r ih =>
    unfold laid
    by_cases h : dLt x d
    · rw [if_pos h, ih]
      rw [List.takeWhile_cons_of_pos (by simpa using h)]
      simp only [List.length_cons, List.getElem?_cons_succ, List.take_succ_cons, List.drop_succ_cons]
      split <;> simp
    · rw [if_neg h, List.takeWhile_cons_of_neg (by simpa using h)]
      by_cases e : x = d
      · rw [if_pos e]; simp [e]
      · rw [if_neg e]; simp [e]
theorem pos_of {l : List Dt} {d : Dt} {k : Nat} (hk : k ≤ l.length) (h1 : ∀ i (h : i < l.length), i < k → dLt l[i] d) (h2 : ∀ h : k < l.length, ¬ dLt l[k] d) : posL l d = k := by
  unfold posL
  induction l generalizing k with
  | nil => simp at hk; simp [hk]
  | cons x r ih =>
    cases k with
    | zero =>
      have := h2 (by simp)
      rw [List.takeWhile_cons_of_neg (by simpa using this)]; rfl
    | succ k =>
      have := h1 0 (by simp) (by omega)
      rw [List.takeWhile_cons_of_pos (by simpa using this), List.length_cons]
      rw [ih (k := k) (by simpa using hk) (fun i h hi => h1 (i + 1) (by simp; omega) (by omega)) (fun h => h2 (by simp; omega))]
theorem pos_lt {l : List Dt} {d : Dt} {i : Nat} (h : i < posL l d) : dLt (l[i]'(Nat.lt_of_lt_of_le h (pos_le l d))) d := by
  unfold posL at h
  induction l generalizing i with
  | nil => simp at h
  | cons x r ih =>
    by_cases hx : dLt x d
    · rw [List.takeWhile_cons_of_pos (by simpa using hx)] at h
      cases i with
      | zero => exact hx
      | succ i => simpa using ih (i := i) (by simpa using h)
    · rw [List.takeWhile_cons_of_neg (by simpa using hx)] at h
      simp at h
theorem pos_ge {l : List Dt} {d x : Dt} (h : l[posL l d]? = some x) : ¬ dLt x d := by
  unfold posL at h
  induction l with
  | nil => simp at h
  | cons y r ih =>
    by_cases hy : dLt y d
    · rw [List.takeWhile_cons_of_pos (by simpa using hy), List.length_cons, List.getElem?_cons_succ] at h
      exact ih h
    · rw [List.takeWhile_cons_of_neg (by simpa using hy)] at h
      simp at h
      rw [← h]; exact hy
/-- the dots that rise, after i of them -/
def riseI (ds : List Dt) (i : Nat) : List Dt := (ds.take i).foldl laid []
theorem rise_zero (ds : List Dt) : riseI ds 0 = [] := by simp [riseI]
theorem rise_step {ds : List Dt} {i : Nat} (h : i < ds.length) : riseI ds (i + 1) = laid (riseI ds i) ds[i] := by
  unfold riseI
  rw [List.take_succ_eq_append_getElem h, List.foldl_append]; rfl
theorem rise_all (ds : List Dt) : riseI ds ds.length = rising ds := by simp [riseI, rising]
theorem rise_len (ds : List Dt) (i : Nat) (h : i ≤ ds.length) : (riseI ds i).length ≤ i := by
  have := rising_len (ds.take i)
  rw [List.length_take] at this
  have : (riseI ds i).length ≤ min i ds.length := this
  omega
theorem rise_dotted {ds : List Dt} (h : ∀ d ∈ ds, dotted d) (i : Nat) : ∀ d ∈ riseI ds i, dotted d := fun d hd => h d (List.mem_of_mem_take ((mem_rising (ds.take i) d).1 hd))
/-- first dots and dots, after i of those that rise -/
def walkI (v : List Int) (ds : List Dt) (i : Nat) : List Int × List Dt := walkC v ((rising ds).take i)
theorem walk_zero (v : List Int) (ds : List Dt) : walkI v ds 0 = (pad v, []) := by simp [walkI, walkC]
theorem walk_step {v : List Int} {ds : List Dt} {i : Nat} (h : i < (rising ds).length) : walkI v ds (i + 1) = stepC (walkI v ds i) (rising ds)[i] := by
  unfold walkI walkC
  rw [List.take_succ_eq_append_getElem h, List.foldl_append]; rfl
theorem walk_all (v : List Int) (ds : List Dt) : formedV v ds = (trim (walkI v ds (rising ds).length).1, (walkI v ds (rising ds).length).2) := by
  unfold formedV walkI; rw [List.take_length]
theorem pad_len {v : List Int} (h : v.length ≤ 16) : (pad v).length = 16 := by unfold pad; rw [List.length_append, List.length_replicate]; omega
theorem step_len (s : List Int × List Dt) (d : Dt) : (stepC s d).1.length = s.1.length := by
  unfold stepC
  split
  · exact List.length_set
  · split <;> rfl
theorem walk_len {v : List Int} (hv : v.length ≤ 16) (ds : List Dt) (i : Nat) : (walkI v ds i).1.length = 16 := by
  unfold walkI walkC
  generalize (rising ds).take i = l
  have key : ∀ (l : List Dt) (s : List Int × List Dt), (l.foldl stepC s).1.length = s.1.length := by
    intro l
    induction l with
    | nil => intro s; rfl
    | cons d r ih => intro s; rw [List.foldl_cons, ih, step_len]
  rw [key]; exact pad_len hv
theorem walk_dots {v : List Int} (ds : List Dt) (i : Nat) : (walkI v ds i).2.length ≤ i := by
  have := fold_len ((rising ds).take i) (pad v, [])
  simp at this
  unfold walkI walkC
  omega
theorem walk_le {v : List Int} {ds : List Dt} (h : ranged v ds) (i : Nat) : ∀ x ∈ (walkI v ds i).1, 0 ≤ x ∧ x ≤ 1048576 := by
  refine fold_le _ (pad v, []) (fun y hy => ?_) (fun d hd => h.2.2 d ((mem_rising ds d).1 (List.mem_of_mem_take hd)))
  have hy : y ∈ pad v := hy
  unfold pad at hy
  rcases List.mem_append.1 hy with k | k
  · exact h.2.1 y k
  · have := List.eq_of_mem_replicate k; omega
/-- a region's first dots, as an element -/
theorem frs_cell {f : List Int} {d : Dt} (hf : f.length = 16) (hd : dotted d) : ∃ h : (d.1 - 1).toNat < f.length, frs f d.1 = f[(d.1 - 1).toNat] := by
  obtain ⟨h1, h2, _, _⟩ := hd
  have h : (d.1 - 1).toNat < f.length := by omega
  refine ⟨h, ?_⟩
  rw [frs_at (by omega), List.getD_eq_getElem?_getD, List.getElem?_eq_getElem h]; rfl
theorem step_one {s : List Int × List Dt} {d : Dt} (h : d.2 = frs s.1 d.1 + 1) : stepC s d = (s.1.set (d.1 - 1).toNat (frs s.1 d.1 + 1), s.2) := by unfold stepC; rw [if_pos h, ← h]
theorem step_two {s : List Int × List Dt} {d : Dt} (h : ¬ d.2 = frs s.1 d.1 + 1) (k : frs s.1 d.1 < d.2) : stepC s d = (s.1, s.2 ++ [d]) := by unfold stepC; rw [if_neg h, if_pos k]
theorem step_none {s : List Int × List Dt} {d : Dt} (h : ¬ d.2 = frs s.1 d.1 + 1) (k : ¬ frs s.1 d.1 < d.2) : stepC s d = s := by unfold stepC; rw [if_neg h, if_neg k]
/-- the noughts at the end, taken away one after the other -/
theorem trim_take {f : List Int} {n : Nat} (hn : n ≤ f.length) (h1 : ∀ i (h : i < f.length), n ≤ i → f[i] = 0) (h2 : ∀ h : 0 < n, f[n - 1]'(by omega) ≠ 0) : trim f = f.take n := by
  obtain ⟨k, _, h4⟩ := trim_spec f
  refine trim_of h4 (fun x hx => ?_) (fun r => ?_)
  · rw [List.getLast?_eq_getElem?] at hx
    have hl : (f.take n).length = n := by rw [List.length_take]; omega
    rw [hl] at hx
    by_cases h0 : 0 < n
    · rw [List.getElem?_take_of_lt (by omega), List.getElem?_eq_getElem (by omega)] at hx
      rw [← Option.some.inj hx]
      exact h2 h0
    · rw [List.getElem?_eq_none (by omega)] at hx; cases hx
  · rw [frs_trim]
    unfold frs
    split
    · rfl
    · rw [List.getD_eq_getElem?_getD, List.getD_eq_getElem?_getD, List.getElem?_take]
      split
      · rfl
      · rename_i hq
        cases e : f[(r - 1).toNat]? with
        | none => rfl
        | some x =>
          obtain ⟨h, e2⟩ := List.getElem?_eq_some_iff.1 e
          rw [← e2, h1 _ h (by omega)]; rfl
/-- what Check answers -/
def checkC (c : Cd) : Int := if ranged c.1 c.2 then if 4096 < c.2.length then 10 else if formedV c.1 c.2 = c then 0 else 2 else 3
theorem check_iff (c : Cd) : checkC c = 0 ↔ OKC c ∧ c.2.length ≤ 4096 := by
  unfold checkC
  by_cases h : ranged c.1 c.2
  · rw [if_pos h]
    by_cases h2 : 4096 < c.2.length
    · rw [if_pos h2]
      exact ⟨(fun k => by cases k), (fun k => by omega)⟩
    · rw [if_neg h2]
      by_cases h3 : formedV c.1 c.2 = c
      · rw [if_pos h3]
        exact ⟨fun _ => ⟨⟨h, can_of_formed h h3⟩, by omega⟩, fun _ => rfl⟩
      · rw [if_neg h3]
        exact ⟨(fun k => by cases k), (fun k => absurd (formed_id h k.1.can) h3)⟩
  · rw [if_neg h]
    exact ⟨(fun k => by cases k), (fun k => absurd k.1.rg h)⟩
theorem check_ok {c : Cd} (h : checkC c = 0) : OKC c := ((check_iff c).1 h).1
theorem check_len {c : Cd} (h : checkC c = 0) : c.2.length ≤ 4096 := ((check_iff c).1 h).2
theorem check_of {c : Cd} (h : OKC c) (k : c.2.length ≤ 4096) : checkC c = 0 := (check_iff c).2 ⟨h, k⟩
theorem check_cases (c : Cd) : checkC c = 0 ∨ checkC c = 2 ∨ checkC c = 3 ∨ checkC c = 10 := by
  unfold checkC
  split
  · split
    · simp
    · split <;> simp
  · simp
/-- a cloud in its form, whatever way its parts are shown: for a program that does not form it anew -/
theorem check_form {c : Cd} (h : ranged c.1 c.2) (h2 : c.2.length ≤ 4096) (b : Bool) (hb : b = true ↔ Can c.1 c.2) : checkC c = if b then 0 else 2 := by
  cases b
  · unfold checkC
    rw [if_pos h, if_neg (by omega), if_neg]
    · rfl
    · intro k; exact absurd (hb.2 (can_of_formed h k)) (by simp)
  · exact check_of ⟨h, hb.1 rfl⟩ h2
/-- what Make answers -/
def makeC (v : List Int) (ds : List Dt) : Cd × Int := if ranged v ds then if 4096 < (formedV v ds).2.length then (([], []), 10) else (formedV v ds, 0) else (([], []), 3)
theorem make_ok {v : List Int} {ds : List Dt} (h : ranged v ds) (k : ds.length ≤ 4096) : makeC v ds = (formedV v ds, 0) := by
  unfold makeC
  have := formed_len v ds
  rw [if_pos h, if_neg (by omega)]
theorem make_bad {v : List Int} {ds : List Dt} (h : ¬ ranged v ds) : makeC v ds = (([], []), 3) := by unfold makeC; rw [if_neg h]
/-- what Has answers -/
def hasB (c : Cd) (d : Dt) : Bool := decide (checkC c = 0) && decide (isC c d)
theorem has_ok {c : Cd} (h : checkC c = 0) (d : Dt) : hasB c d = decide (isC c d) := by unfold hasB; simp [h]
/-- what Count answers -/
def countB (c : Cd) : Int := if checkC c = 0 then countC c else 0
/-- what Next answers -/
def nextC (c : Cd) (r : Int) : Dt × Int := if checkC c = 0 then if 1 ≤ r ∧ r ≤ 16 then if topC c r = 1048576 then ((0, 0), 10) else ((r, topC c r + 1), 0) else ((0, 0), 3) else ((0, 0), checkC c)
theorem top_le {c : Cd} (h : OKC c) (r : Int) : topC c r ≤ 1048576 := by
  rcases (top_fold c.2 r (frs c.1 r)).2.2 with k | ⟨d, hd, _, e2⟩
  · show c.2.foldl _ _ ≤ _
    rw [k]; exact (frs_le h.rg.2.1 r).2
  · show c.2.foldl _ _ ≤ _
    rw [e2]; exact (h.rg.2.2 d hd).2.2.2
/-- the error of two -/
def bothC (a b : Cd) : Int := if checkC a = 0 then checkC b else checkC a
theorem both_iff (a b : Cd) : bothC a b = 0 ↔ checkC a = 0 ∧ checkC b = 0 := by
  unfold bothC
  split
  · rename_i h; exact ⟨fun k => ⟨h, k⟩, fun k => k.2⟩
  · rename_i h; exact ⟨fun k => absurd k h, fun k => absurd k.1 h⟩
/-- what Join answers -/
def joinB (a b : Cd) : Cd × Int := if bothC a b = 0 then makeC (maxV a.1 b.1) (a.2 ++ b.2) else (([], []), bothC a b)
theorem joinB_ok {a b : Cd} (ha : checkC a = 0) (hb : checkC b = 0) (h : a.2.length + b.2.length ≤ 4096) : joinB a b = (joinC a b, 0) := by
  unfold joinB
  rw [if_pos ((both_iff a b).2 ⟨ha, hb⟩), make_ok (max_ranged (check_ok ha).rg (check_ok hb).rg) (by rw [List.length_append]; exact h)]
  rfl
theorem joinB_full {a b : Cd} (ha : checkC a = 0) (hb : checkC b = 0) (h : 4096 < (joinC a b).2.length) : joinB a b = (([], []), 10) := by
  unfold joinB makeC
  rw [if_pos ((both_iff a b).2 ⟨ha, hb⟩), if_pos (max_ranged (check_ok ha).rg (check_ok hb).rg)]
  exact if_pos h
theorem joinB_fits {a b : Cd} (ha : checkC a = 0) (hb : checkC b = 0) (h : (joinC a b).2.length ≤ 4096) : joinB a b = (joinC a b, 0) := by
  unfold joinB makeC
  rw [if_pos ((both_iff a b).2 ⟨ha, hb⟩), if_pos (max_ranged (check_ok ha).rg (check_ok hb).rg), if_neg (by show ¬ 4096 < (joinC a b).2.length; omega)]
  rfl
/-- the greater numbers, after i regions -/
def maxI (a b : List Int) (i : Nat) : List Int := (List.range i).map fun i : Nat => max (frs a ((i : Int) + 1)) (frs b ((i : Int) + 1))
theorem max_zero (a b : List Int) : maxI a b 0 = [] := rfl
theorem max_step (a b : List Int) (i : Nat) : maxI a b (i + 1) = maxI a b i ++ [max (frs a ((i : Int) + 1)) (frs b ((i : Int) + 1))] := by unfold maxI; rw [List.range_succ, List.map_append]; rfl
theorem max_all (a b : List Int) : maxI a b 16 = maxV a b := rfl
theorem max_len (a b : List Int) (i : Nat) : (maxI a b i).length = i := by simp [maxI]
/-- inclusion, as loops find it out: the first dots that the other one has not got among its own first ones, and the dots -/
def leqP (a b : Cd) : Prop := (∀ r, 1 ≤ r → r ≤ 16 → ∀ n, frs b.1 r < n → n ≤ frs a.1 r → isC b (r, n)) ∧ ∀ d ∈ a.2, isC b d
theorem leq_iff {a b : Cd} (ha : OKC a) (hb : OKC b) : leqP a b ↔ partC a b := by
  constructor
  · rintro ⟨h1, h2⟩ d ⟨k1, k2⟩
    rcases k2 with k2 | k2
    · have hr1 : 1 ≤ d.1 := by
        by_cases k : d.1 < 1
        · rw [frs_low k] at k2; omega
        · omega
      have hr2 : d.1 ≤ 16 := by
        by_cases k : 16 < d.1
        · rw [frs_far (by have := ha.rg.1; omega)] at k2; omega
        · omega
      by_cases k : frs b.1 d.1 < d.2
      · exact h1 d.1 hr1 hr2 d.2 k k2
      · exact ⟨k1, .inl (by omega)⟩
    · exact h2 d k2
  · intro h
    refine ⟨fun r _ _ n h3 h4 => h (r, n) ⟨?_, .inl h4⟩, fun d hd => h d ⟨(ha.rg.2.2 d hd).2.2.1, .inr hd⟩⟩
    have := hb.nonneg r
    show 1 ≤ n
    omega
instance (a b : Cd) : Decidable (joinC a b = b) := inferInstance
/-- what Leq answers -/
def leqB (a b : Cd) : Bool × Int := if bothC a b = 0 then (decide (joinC a b = b), 0) else (false, bothC a b)
theorem leqB_yes {a b : Cd} (ha : checkC a = 0) (hb : checkC b = 0) (h : leqP a b) : leqB a b = (true, 0) := by
  unfold leqB
  rw [if_pos ((both_iff a b).2 ⟨ha, hb⟩), decide_eq_true ((part_iff (check_ok ha) (check_ok hb)).1 ((leq_iff (check_ok ha) (check_ok hb)).1 h))]
theorem leqB_no {a b : Cd} (ha : checkC a = 0) (hb : checkC b = 0) {d : Dt} (h : isC a d) (k : ¬ isC b d) : leqB a b = (false, 0) := by
  unfold leqB
  rw [if_pos ((both_iff a b).2 ⟨ha, hb⟩), decide_eq_false (fun e => k ((part_iff (check_ok ha) (check_ok hb)).2 e d h))]
theorem leqB_bad {a b : Cd} (h : bothC a b ≠ 0) : leqB a b = (false, bothC a b) := by unfold leqB; rw [if_neg h]
/-- how far a region's numbers run, for the measure of the loop over it -/
theorem leq_bound {a : Cd} (h : OKC a) (r : Int) : frs a.1 r ≤ 1048576 := (frs_le h.rg.2.1 r).2
/-- the law's dots backward, each of them twice: the same cloud -/
theorem back_form {c : Cd} (h : OKC c) {ds : List Dt} (hs : ∀ d, d ∈ ds ↔ d ∈ c.2) : formedV c.1 ds = c := by
  refine formed_of h ⟨h.rg.1, h.rg.2.1, fun d hd => h.rg.2.2 d ((hs d).1 hd)⟩ fun d => ?_
  unfold isC isIn
  rw [hs]
def backI (ds : List Dt) (i : Nat) : List Dt := (ds.reverse.take i).flatMap fun d => [d, d]
theorem back_zero (ds : List Dt) : backI ds 0 = [] := by simp [backI]
theorem back_step {ds : List Dt} {i : Nat} (h : i < ds.length) : backI ds (i + 1) = backI ds i ++ [ds[ds.length - 1 - i]'(by omega), ds[ds.length - 1 - i]'(by omega)] := by
  unfold backI
  rw [List.take_succ_eq_append_getElem (by rw [List.length_reverse]; exact h), List.flatMap_append, List.getElem_reverse]; rfl
theorem mem_back (ds : List Dt) (d : Dt) : d ∈ backI ds ds.length ↔ d ∈ ds := by
  unfold backI
  rw [List.take_of_length_le (by simp)]
  simp [List.mem_flatMap]
theorem back_len (ds : List Dt) (i : Nat) (h : i ≤ ds.length) : (backI ds i).length = 2 * i := by
  induction i with
  | zero => rw [back_zero]; rfl
  | succ i ih => rw [back_step (by omega), List.length_append, ih (by omega)]; simp; omega
/-- a next dot, laid to a cloud -/
theorem next_ranged {c : Cd} (h : OKC c) {r : Int} (h1 : 1 ≤ r) (h2 : r ≤ 16) (h3 : topC c r < 1048576) : ranged c.1 (c.2 ++ [(r, topC c r + 1)]) := by
  have h0 := top_nonneg h r
  refine ⟨h.rg.1, h.rg.2.1, fun d hd => ?_⟩
  rcases List.mem_append.1 hd with k | k
  · exact h.rg.2.2 d k
  · rw [List.mem_singleton.1 k]; exact ⟨h1, h2, by show 1 ≤ topC c r + 1; omega, by show topC c r + 1 ≤ 1048576; omega⟩
theorem next_in {c : Cd} (h : OKC c) {r : Int} (h1 : 1 ≤ r) (h2 : r ≤ 16) (h3 : topC c r < 1048576) : isC (formedV c.1 (c.2 ++ [(r, topC c r + 1)])) (r, topC c r + 1) := by
  have h0 := top_nonneg h r
  refine (formed_in (next_ranged h h1 h2 h3) _).2 ⟨by show 1 ≤ topC c r + 1; omega, .inr (List.mem_append_right _ (List.mem_singleton.2 rfl))⟩
end Go.Proofs.Ythjflgnoeenenaa.Cl
