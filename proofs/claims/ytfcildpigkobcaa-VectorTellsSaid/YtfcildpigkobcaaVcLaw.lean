/- The mathematics of vectors, for the laws. -/
import Derived.Test.YtfcildpigkobcaaVcKnown
namespace Go.Proofs.Ytfcildpigkobcaa
open Go Go.RowKit Go.Shelf

theorem nth_of_map {f : Nat → Int} {n i : Nat} (h : ∀ j, 0 ≤ f j) (h0 : n ≤ i → f i = 0) : nth ((List.range n).map f) i = f i := by
  unfold nth
  rw [List.getD_eq_getElem?_getD, List.getElem?_map]
  have := h i
  by_cases hi : i < n
  · rw [List.getElem?_range hi]
    show max (f i) 0 = f i
    omega
  · rw [List.getElem?_eq_none (by rw [List.length_range]; omega), h0 (by omega)]
    rfl
theorem nth_join (a b : List Int) (i : Nat) : nth (joinV a b) i = max (nth a i) (nth b i) := nth_of_map (f := fun i => max (nth a i) (nth b i)) (fun j => by have := nth_nonneg a j; omega) (fun h => by rw [nth_far (zs := a) (by omega), nth_far (zs := b) (by omega)]; rfl)
theorem nth_meet (a b : List Int) (i : Nat) : nth (meetV a b) i = min (nth a i) (nth b i) := nth_of_map (f := fun i => min (nth a i) (nth b i)) (fun j => by have := nth_nonneg a j; have := nth_nonneg b j; omega) (fun h => by rw [nth_far (zs := a) (by omega), nth_far (zs := b) (by omega)]; rfl)
theorem leqV_iff (a b : List Int) : leqV a b = true ↔ ∀ i, nth a i ≤ nth b i := by
  unfold leqV
  rw [List.all_eq_true]
  refine ⟨fun h i => ?_, fun h i _ => by simpa using h i⟩
  by_cases hi : i < max a.length b.length
  · simpa using h i (List.mem_range.2 hi)
  · rw [nth_far (zs := a) (by omega)]
    exact nth_nonneg b i
theorem bool_iff {a b : Bool} (h : a = true ↔ b = true) : a = b := by cases a <;> cases b <;> simp_all
theorem leq_refl (a : List Int) : leqV a a = true := (leqV_iff a a).2 fun _ => Int.le_refl _
theorem leq_trans {a b c : List Int} (h : leqV a b = true) (k : leqV b c = true) : leqV a c = true := (leqV_iff a c).2 fun i => Int.le_trans ((leqV_iff a b).1 h i) ((leqV_iff b c).1 k i)
theorem leq_join1 (a b : List Int) : leqV a (joinV a b) = true := (leqV_iff _ _).2 fun i => by rw [nth_join]; omega
theorem leq_join2 (a b : List Int) : leqV b (joinV a b) = true := (leqV_iff _ _).2 fun i => by rw [nth_join]; omega
theorem leq_meet1 (a b : List Int) : leqV (meetV a b) a = true := (leqV_iff _ _).2 fun i => by rw [nth_meet]; omega
theorem leq_meet2 (a b : List Int) : leqV (meetV a b) b = true := (leqV_iff _ _).2 fun i => by rw [nth_meet]; omega
theorem join_lub {u v w : List Int} (h : leqV u w = true) : leqV (joinV u v) w = leqV v w := bool_iff ⟨fun k => leq_trans (leq_join2 u v) k, fun k => (leqV_iff _ _).2 fun i => by
  have h1 := (leqV_iff _ _).1 h i
  have h2 := (leqV_iff _ _).1 k i
  rw [nth_join]; omega⟩
theorem meet_glb {u v w : List Int} (h : leqV w u = true) : leqV w (meetV u v) = leqV w v := bool_iff ⟨fun k => leq_trans k (leq_meet2 u v), fun k => (leqV_iff _ _).2 fun i => by
  have h1 := (leqV_iff _ _).1 h i
  have h2 := (leqV_iff _ _).1 k i
  rw [nth_meet]; omega⟩
theorem join_comm (u v : List Int) : joinV v u = joinV u v := by
  unfold joinV
  rw [Nat.max_comm]
  exact List.map_congr_left fun i _ => by omega
theorem meet_comm (u v : List Int) : meetV v u = meetV u v := by
  unfold meetV
  rw [Nat.max_comm]
  exact List.map_congr_left fun i _ => by omega
theorem join_assoc (u v w : List Int) : joinV u (joinV v w) = joinV (joinV u v) w := by
  have e : ∀ a b : List Int, joinV a b = (List.range (max a.length b.length)).map fun i => max (nth a i) (nth b i) := fun _ _ => rfl
  rw [e u, e (joinV u v), joinV_length, joinV_length, Nat.max_assoc]
  exact List.map_congr_left fun i _ => by rw [nth_join, nth_join]; omega
theorem meet_assoc (u v w : List Int) : meetV u (meetV v w) = meetV (meetV u v) w := by
  have e : ∀ a b : List Int, meetV a b = (List.range (max a.length b.length)).map fun i => min (nth a i) (nth b i) := fun _ _ => rfl
  rw [e u, e (meetV u v), meetV_length, meetV_length, Nat.max_assoc]
  exact List.map_congr_left fun i _ => by rw [nth_meet, nth_meet]; omega
theorem atV_join (a b : List Int) (r : Int) : atV (joinV a b) r = max (atV a r) (atV b r) := by
  unfold atV
  split
  · rfl
  · exact nth_join a b _
theorem atV_meet (a b : List Int) (r : Int) : atV (meetV a b) r = min (atV a r) (atV b r) := by
  unfold atV
  split
  · rfl
  · exact nth_meet a b _
theorem has_join (a b : List Int) (R N : Int) : hasV (joinV a b) R N = (hasV a R N || hasV b R N) := by
  unfold hasV
  rw [atV_join]
  by_cases h : 1 ≤ N
  · simp [h]; rw [← Bool.decide_or]; congr 1; simp only [eq_iff_iff]; omega
  · simp [h]
theorem has_meet (a b : List Int) (R N : Int) : hasV (meetV a b) R N = (hasV a R N && hasV b R N) := by
  unfold hasV
  rw [atV_meet]
  by_cases h : 1 ≤ N
  · simp [h]; rw [← Bool.decide_and]; congr 1; simp only [eq_iff_iff]; omega
  · simp [h]
theorem atV_le {a b : List Int} (h : leqV a b = true) (r : Int) : atV a r ≤ atV b r := by
  unfold atV
  split
  · exact Int.le_refl _
  · exact (leqV_iff _ _).1 h _
theorem has_le {a b : List Int} {R N : Int} (h : leqV a b = true) (k : hasV a R N = true) : hasV b R N = true := by
  unfold hasV at k ⊢
  have := atV_le h R
  simp at k ⊢
  omega
/-- what a vector with its next dot has -/
theorem with_next {v : List Int} {r : Int} (h1 : 1 ≤ r) (h2 : r ≤ 16) (_ : ¬ capN ≤ atV v r) : withV v r (atV v r + 1) = joinV v (aloneV r (atV v r + 1)) := if_neg (by omega)
theorem atV_alone {R N r : Int} (hR : 1 ≤ R) (hN : 0 ≤ N) : atV (aloneV R N) r = if r = R then N else 0 := by
  unfold atV
  by_cases h : r < 1
  · rw [if_pos h, if_neg (by omega)]
  · rw [if_neg h, nth_alone hR hN]
    by_cases e : r = R
    · subst e; rw [if_pos rfl, if_pos rfl]
    · rw [if_neg (by omega), if_neg e]
theorem has_with {v : List Int} {r R N : Int} (h1 : 1 ≤ r) (h2 : r ≤ 16) (hc : ¬ capN ≤ atV v r) : hasV (withV v r (atV v r + 1)) R N = (hasV v R N || (decide (R = r) && decide (N = atV v r + 1))) := by
  have h0 := atV_nonneg v r
  rw [with_next h1 h2 hc]
  unfold hasV
  rw [atV_join, atV_alone h1 (by omega)]
  have h3 := atV_nonneg v R
  refine bool_iff ?_
  simp only [Bool.and_eq_true, Bool.or_eq_true, decide_eq_true_eq]
  by_cases e : R = r
  · subst e; rw [if_pos rfl]; omega
  · rw [if_neg e]; omega
theorem leq_with {v : List Int} {r : Int} (h1 : 1 ≤ r) (h2 : r ≤ 16) (hc : ¬ capN ≤ atV v r) : leqV v (withV v r (atV v r + 1)) = true := by
  rw [with_next h1 h2 hc]; exact leq_join1 _ _
theorem nleq_with {v : List Int} {r : Int} (h1 : 1 ≤ r) (h2 : r ≤ 16) (hc : ¬ capN ≤ atV v r) : leqV (withV v r (atV v r + 1)) v = false := by
  rw [Bool.eq_false_iff]
  intro h
  have h0 := atV_nonneg v r
  have := atV_le h r
  rw [with_next h1 h2 hc, atV_join, atV_alone h1 (by omega), if_pos rfl] at this
  omega
theorem nhas_next {v : List Int} {r : Int} : hasV v r (atV v r + 1) = false := by
  unfold hasV
  simp
  omega
/-- the sum without a bound -/
def sumN (num : Nat → Int) (n : Nat) : Int := ((List.range n).map num).sum
theorem sumF_sum {num : Nat → Int} {B : Int} (h0 : ∀ i, 0 ≤ num i) (hB : ∀ i, num i ≤ B) (hB0 : 0 ≤ B) (n : Nat) (hn : B * n ≤ capN) : sumF num (List.range n) = sumN num n ∧ sumN num n ≤ B * n ∧ 0 ≤ sumN num n := by
  induction n with
  | zero => exact ⟨rfl, by show (0 : Int) ≤ _; simp, by show (0 : Int) ≤ 0; omega⟩
  | succ n ih =>
    have e : B * ((n + 1 : Nat) : Int) = B * (n : Int) + B := by rw [Int.natCast_add, Int.mul_add]; simp
    rw [e] at hn ⊢
    obtain ⟨i1, i2, i3⟩ := ih (by omega)
    have hs : sumN num (n + 1) = sumN num n + num n := by unfold sumN; rw [List.range_succ, List.map_append, List.sum_append]; simp
    have := h0 n
    have := hB n
    rw [List.range_succ, sumF_snoc, i1, hs]
    omega
theorem sum_le {a b : Nat → Int} (h : ∀ i, a i ≤ b i) (n : Nat) : sumN a n ≤ sumN b n := by
  induction n with
  | zero => exact Int.le_refl _
  | succ n ih =>
    have hs : ∀ f : Nat → Int, sumN f (n + 1) = sumN f n + f n := fun f => by unfold sumN; rw [List.range_succ, List.map_append, List.sum_append]; simp
    rw [hs, hs]
    have := h n
    omega
theorem sum_lt {a b : Nat → Int} (h : ∀ i, a i ≤ b i) {k : Nat} (hk : a k < b k) (n : Nat) (hn : k < n) : sumN a n < sumN b n := by
  induction n with
  | zero => omega
  | succ n ih =>
    have hs : ∀ f : Nat → Int, sumN f (n + 1) = sumN f n + f n := fun f => by unfold sumN; rw [List.range_succ, List.map_append, List.sum_append]; simp
    rw [hs, hs]
    have := h n
    rcases Nat.eq_or_lt_of_le (Nat.le_of_lt_succ hn) with e | e
    · subst e
      have := sum_le h k
      omega
    · have := ih e
      omega
theorem sum_pad {num : Nat → Int} {n m : Nat} (h : ∀ i, n ≤ i → num i = 0) (hm : n ≤ m) : sumN num m = sumN num n := by
  induction m with
  | zero => obtain rfl : n = 0 := by omega
            rfl
  | succ m ih =>
    have hs : sumN num (m + 1) = sumN num m + num m := by unfold sumN; rw [List.range_succ, List.map_append, List.sum_append]; simp
    rcases Nat.eq_or_lt_of_le hm with e | e
    · rw [e]
    · rw [hs, ih (by omega), h m (by omega)]
      omega
def narrow (v : List Int) : Prop := ∀ z ∈ v, z ≤ 1125899906842624
theorem nth_narrow {v : List Int} (h : narrow v) (i : Nat) : nth v i ≤ 1125899906842624 := by
  unfold nth
  rw [List.getD_eq_getElem?_getD]
  cases e : v[i]? with
  | none => show max 0 0 ≤ _; omega
  | some z =>
    have := h z (List.mem_of_getElem? e)
    show max z 0 ≤ _
    omega
theorem wgt_sum {v : List Int} (h : narrow v) (hl : v.length ≤ 20) : wgtV v = sumN (nth v) v.length := by
  refine (sumF_sum (B := 1125899906842624) (nth_nonneg v) (nth_narrow h) (by omega) v.length ?_).1
  unfold capN
  omega
theorem wgt_lt {u v : List Int} (hu : narrow u) (hv : narrow v) (lu : u.length ≤ 20) (lv : v.length ≤ 20) (h : leqV u v = true) (k : leqV v u = false) : wgtV u < wgtV v := by
  rw [wgt_sum hu lu, wgt_sum hv lv, ← sum_pad (m := max u.length v.length) (fun i hi => nth_far hi) (by omega), ← sum_pad (num := nth v) (m := max u.length v.length) (fun i hi => nth_far hi) (by omega)]
  have h1 := (leqV_iff u v).1 h
  have ⟨i, hi⟩ : ∃ i, nth u i < nth v i := by
    by_cases hh : ∃ i, nth u i < nth v i
    · exact hh
    · exfalso
      have : leqV v u = true := (leqV_iff v u).2 fun i => Int.not_lt.1 fun hlt => hh ⟨i, hlt⟩
      rw [this] at k
      cases k
  refine sum_lt h1 hi _ ?_
  by_cases hlt : i < max u.length v.length
  · exact hlt
  · rw [nth_far (zs := v) (by omega)] at hi
    have := nth_nonneg u i
    omega
theorem less_prop {R N : Int} {v : List Int} {R2 N2 : Int} {u : List Int} : lessV R N v R2 N2 u = true ↔ (wgtV v < wgtV u ∨ (wgtV v = wgtV u ∧ (R < R2 ∨ (R = R2 ∧ N < N2)))) := by
  unfold lessV dotLt
  split
  · simp; omega
  · simp; omega
theorem less_asym {R N : Int} {v : List Int} {R2 N2 : Int} {u : List Int} (h : lessV R N v R2 N2 u = true) : lessV R2 N2 u R N v = false := by
  rw [Bool.eq_false_iff]
  intro k
  have h1 := less_prop.1 h
  have h2 := less_prop.1 k
  omega
theorem less_trans {R N : Int} {v : List Int} {R2 N2 : Int} {u : List Int} {R3 N3 : Int} {w : List Int} (h : lessV R N v R2 N2 u = true) (k : lessV R2 N2 u R3 N3 w = true) : lessV R N v R3 N3 w = true := by
  have h1 := less_prop.1 h
  have h2 := less_prop.1 k
  exact less_prop.2 (by omega)
theorem less_self (R N : Int) (v : List Int) : lessV R N v R N v = false := by
  rw [Bool.eq_false_iff]
  intro k
  have h2 := less_prop.1 k
  omega
theorem less_total {R N : Int} {v : List Int} {R2 N2 : Int} {u : List Int} (h : lessV R N v R2 N2 u = false) (k : lessV R2 N2 u R N v = false) : R = R2 ∧ N = N2 := by
  rw [Bool.eq_false_iff] at h k
  have h1 : ¬ (wgtV v < wgtV u ∨ (wgtV v = wgtV u ∧ (R < R2 ∨ (R = R2 ∧ N < N2)))) := fun e => h (less_prop.2 e)
  have h2 : ¬ (wgtV u < wgtV v ∨ (wgtV u = wgtV v ∧ (R2 < R ∨ (R2 = R ∧ N2 < N)))) := fun e => k (less_prop.2 e)
  omega
theorem less_of_wgt {R N : Int} {v : List Int} {R2 N2 : Int} {u : List Int} (h : wgtV v < wgtV u) : lessV R N v R2 N2 u = true := less_prop.2 (.inl h)
end Go.Proofs.Ytfcildpigkobcaa
