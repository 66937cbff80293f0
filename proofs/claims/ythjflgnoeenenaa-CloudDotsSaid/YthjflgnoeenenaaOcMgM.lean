/- The mathematics of two lists of dots, merged. No program. -/
import Derived.Test.YthjflgnoeenenaaClRef
namespace Go.Proofs.Ythjflgnoeenenaa.Cl

/-- the end of a list of dots, as a dot -/
def endD : Dt := (17, 0)
/-- the lesser one of two dots -/
def lessD (a b : Dt) : Dt := if dLt a b then a else b
/-- a dot, and in which ones of two lists it is -/
abbrev Mi := Dt × Bool × Bool
def mrgN : Nat → List Dt → List Dt → List Mi
  | 0, _, _ => []
  | k + 1, as, bs => if as = [] ∧ bs = [] then [] else
    (lessD (as.headD endD) (bs.headD endD), decide (as.headD endD = lessD (as.headD endD) (bs.headD endD)), decide (bs.headD endD = lessD (as.headD endD) (bs.headD endD))) ::
      mrgN k (if as.headD endD = lessD (as.headD endD) (bs.headD endD) then as.tail else as) (if bs.headD endD = lessD (as.headD endD) (bs.headD endD) then bs.tail else bs)
def mrg (as bs : List Dt) : List Mi := mrgN (as.length + bs.length) as bs
def dots (l : List Dt) : Prop := ∀ d ∈ l, dotted d
theorem dots_tail {l : List Dt} (h : dots l) : dots l.tail := fun d hd => h d (List.mem_of_mem_tail hd)
theorem dots_if {l : List Dt} (h : dots l) (p : Prop) [Decidable p] : dots (if p then l.tail else l) := by split; exact dots_tail h; exact h
theorem head_end {l : List Dt} (h : dots l) : l.headD endD = endD ↔ l = [] := by
  cases l with
  | nil => simp
  | cons d r =>
    simp only [List.headD_cons]
    constructor
    · intro e
      have := h d List.mem_cons_self
      rw [e] at this
      exact absurd this.2.1 (by decide)
    · intro e; cases e
theorem lt_end {d : Dt} (h : dotted d) : dLt d endD := .inl (by have := h.2.1; show d.1 < 17; omega)
theorem not_end_lt {d : Dt} (h : dotted d) : ¬ dLt endD d := by have := h.2.1; unfold dLt endD; simp only; omega
/-- how the lists go on: one of them loses its first dot -/
theorem less_cases {as bs : List Dt} (ha : dots as) (hb : dots bs) (h : ¬ (as = [] ∧ bs = [])) :
    (as.headD endD = lessD (as.headD endD) (bs.headD endD) ∧ as ≠ []) ∨ (bs.headD endD = lessD (as.headD endD) (bs.headD endD) ∧ bs ≠ []) := by
  unfold lessD
  cases as with
  | nil =>
    cases bs with
    | nil => exact absurd ⟨rfl, rfl⟩ h
    | cons b s =>
      right
      refine ⟨?_, by simp⟩
      exact (if_neg (not_end_lt (hb b List.mem_cons_self))).symm
  | cons a r =>
    by_cases hl : dLt ((a :: r).headD endD) (bs.headD endD)
    · exact .inl ⟨by rw [if_pos hl], by simp⟩
    · right
      refine ⟨by rw [if_neg hl], fun e => ?_⟩
      rw [e] at hl
      exact hl (lt_end (ha a List.mem_cons_self))
/-- whoever is the lesser one is no end -/
theorem less_ne {as bs : List Dt} (ha : dots as) (hb : dots bs) (h : ¬ (as = [] ∧ bs = [])) : dotted (lessD (as.headD endD) (bs.headD endD)) := by
  rcases less_cases ha hb h with ⟨e, hn⟩ | ⟨e, hn⟩
  · rw [← e]
    cases as with
    | nil => exact absurd rfl hn
    | cons a r => exact ha a List.mem_cons_self
  · rw [← e]
    cases bs with
    | nil => exact absurd rfl hn
    | cons b s => exact hb b List.mem_cons_self
theorem take_len {as : List Dt} (p : Prop) [Decidable p] : (if p then as.tail else as).length ≤ as.length := by split <;> simp
theorem take_less {as bs : List Dt} (ha : dots as) (hb : dots bs) (h : ¬ (as = [] ∧ bs = [])) :
    (if as.headD endD = lessD (as.headD endD) (bs.headD endD) then as.tail else as).length + (if bs.headD endD = lessD (as.headD endD) (bs.headD endD) then bs.tail else bs).length + 1 ≤ as.length + bs.length := by
  have hl := @take_len as (as.headD endD = lessD (as.headD endD) (bs.headD endD)) _
  have hr := @take_len bs (bs.headD endD = lessD (as.headD endD) (bs.headD endD)) _
  rcases less_cases ha hb h with ⟨e, hn⟩ | ⟨e, hn⟩
  · rw [if_pos e]
    have : as.length ≠ 0 := fun e2 => hn (List.eq_nil_of_length_eq_zero e2)
    rw [List.length_tail]
    omega
  · rw [if_pos e]
    have : bs.length ≠ 0 := fun e2 => hn (List.eq_nil_of_length_eq_zero e2)
    rw [List.length_tail]
    omega
theorem mrgN_more (k : Nat) : ∀ (as bs : List Dt) (j : Nat), dots as → dots bs → as.length + bs.length ≤ k → k ≤ j → mrgN j as bs = mrgN k as bs := by
  induction k with
  | zero =>
    intro as bs j _ _ h _
    have h1 : as = [] := List.eq_nil_of_length_eq_zero (by omega)
    have h2 : bs = [] := List.eq_nil_of_length_eq_zero (by omega)
    subst h1 h2
    cases j with
    | zero => rfl
    | succ j => exact if_pos ⟨rfl, rfl⟩
  | succ k ih =>
    intro as bs j ha hb h hj
    obtain ⟨j, rfl⟩ : ∃ i, j = i + 1 := ⟨j - 1, by omega⟩
    unfold mrgN
    by_cases he : as = [] ∧ bs = []
    · rw [if_pos he, if_pos he]
    · rw [if_neg he, if_neg he]
      congr 1
      have := take_less ha hb he
      exact ih _ _ j (dots_if ha _) (dots_if hb _) (by omega) (by omega)
theorem mrg_nil : mrg [] [] = [] := rfl
theorem mrg_step {as bs : List Dt} (ha : dots as) (hb : dots bs) (h : ¬ (as = [] ∧ bs = [])) :
    mrg as bs = (lessD (as.headD endD) (bs.headD endD), decide (as.headD endD = lessD (as.headD endD) (bs.headD endD)), decide (bs.headD endD = lessD (as.headD endD) (bs.headD endD))) ::
      mrg (if as.headD endD = lessD (as.headD endD) (bs.headD endD) then as.tail else as) (if bs.headD endD = lessD (as.headD endD) (bs.headD endD) then bs.tail else bs) := by
  have hlt := take_less ha hb h
  obtain ⟨k, hk⟩ : ∃ k, as.length + bs.length = k + 1 := ⟨as.length + bs.length - 1, by omega⟩
  unfold mrg
  rw [hk]
  show (if as = [] ∧ bs = [] then [] else _) = _
  rw [if_neg h]
  congr 1
  exact mrgN_more _ _ _ k (dots_if ha _) (dots_if hb _) (Nat.le_refl _) (by omega)
/-- what is merged: each dot of both lists, in ascending order, and where it is -/
theorem mrg_spec (k : Nat) : ∀ (as bs : List Dt), as.length + bs.length ≤ k → dots as → dots bs → as.Pairwise dLt → bs.Pairwise dLt →
    ((mrg as bs).map (·.1)).Pairwise dLt ∧ (∀ d, d ∈ (mrg as bs).map (·.1) ↔ d ∈ as ∨ d ∈ bs) ∧ ∀ it ∈ mrg as bs, it.2.2 = decide (it.1 ∈ bs) := by
  induction k with
  | zero =>
    intro as bs h _ _ _ _
    have h1 : as = [] := List.eq_nil_of_length_eq_zero (by omega)
    have h2 : bs = [] := List.eq_nil_of_length_eq_zero (by omega)
    subst h1 h2
    rw [mrg_nil]
    simp
  | succ k ih =>
    intro as bs h ha hb sa sb
    by_cases he : as = [] ∧ bs = []
    · obtain ⟨rfl, rfl⟩ := he
      rw [mrg_nil]
      simp
    · rw [mrg_step ha hb he]
      have hlt := take_less ha hb he
      have hd := less_ne ha hb he
      obtain ⟨x, hx⟩ : ∃ x, as.headD endD = x := ⟨_, rfl⟩
      obtain ⟨y, hy⟩ : ∃ y, bs.headD endD = y := ⟨_, rfl⟩
      obtain ⟨d, hde⟩ : ∃ d, lessD x y = d := ⟨_, rfl⟩
      rw [hx, hy, hde] at hlt hd
      rw [hx, hy, hde]
      -- what is behind d
      have hA : ∀ e, e ∈ as ↔ (x = d ∧ as ≠ [] ∧ e = d) ∨ e ∈ (if x = d then as.tail else as) := fun e => by
        cases as with
        | nil => simp
        | cons a r =>
          have hxa : a = x := by simpa using hx
          split
          · rename_i e1
            simp only [List.mem_cons, List.tail_cons, hxa, e1]
            simp
          · rename_i e1
            simp [e1]
      have hB : ∀ e, e ∈ bs ↔ (y = d ∧ bs ≠ [] ∧ e = d) ∨ e ∈ (if y = d then bs.tail else bs) := fun e => by
        cases bs with
        | nil => simp
        | cons a r =>
          have hxa : a = y := by simpa using hy
          split
          · rename_i e1
            simp only [List.mem_cons, List.tail_cons, hxa, e1]
            simp
          · rename_i e1
            simp [e1]
      have hle : ¬ dLt x d ∧ ¬ dLt y d ∧ (d = x ∨ d = y) := by
        rw [← hde]
        unfold lessD
        split
        · rename_i e
          exact ⟨dLt_irrefl x, fun e2 => dLt_irrefl x (dLt_trans e e2), .inl rfl⟩
        · rename_i e
          exact ⟨e, dLt_irrefl y, .inr rfl⟩
      have behind : ∀ (l : List Dt) (z : Dt), l.headD endD = z → dots l → l.Pairwise dLt → ¬ dLt z d → ∀ e ∈ (if z = d then l.tail else l), dLt d e := by
        intro l z hz hl hs hzd e hm
        cases l with
        | nil => split at hm <;> simp at hm
        | cons a r =>
          have hza : a = z := by simpa using hz
          subst hza
          rw [List.pairwise_cons] at hs
          split at hm
          · rename_i e1
            rw [← e1]
            exact hs.1 e (by simpa using hm)
          · rename_i e1
            have hda : dLt d a := dLt_tri hzd e1
            rcases List.mem_cons.1 hm with rfl | h2
            · exact hda
            · exact dLt_trans hda (hs.1 e h2)
      have bA := behind as x hx ha sa hle.1
      have bB := behind bs y hy hb sb hle.2.1
      have tail_sorted : ∀ (l : List Dt) (p : Prop) [Decidable p], l.Pairwise dLt → (if p then l.tail else l).Pairwise dLt := by
        intro l p _ hs
        split
        · exact hs.sublist (List.tail_sublist l)
        · exact hs
      obtain ⟨i1, i2, i3⟩ := ih _ _ (by omega) (dots_if ha (x = d)) (dots_if hb (y = d)) (tail_sorted as (x = d) sa) (tail_sorted bs (y = d) sb)
      have hxe : x = d → as ≠ [] := fun e e2 => by
        rw [e2] at hx
        have hx2 : endD = x := hx
        rw [← e, ← hx2] at hd
        exact absurd hd.2.1 (by decide)
      have hye : y = d → bs ≠ [] := fun e e2 => by
        rw [e2] at hy
        have hy2 : endD = y := hy
        rw [← e, ← hy2] at hd
        exact absurd hd.2.1 (by decide)
      refine ⟨?_, fun e => ?_, fun it hit => ?_⟩
      · rw [List.map_cons, List.pairwise_cons]
        refine ⟨fun e hm => ?_, i1⟩
        rcases (i2 e).1 hm with h2 | h2
        · exact bA e h2
        · exact bB e h2
      · rw [List.map_cons, List.mem_cons, i2, hA, hB]
        constructor
        · rintro (h2 | h2 | h2)
          · rcases hle.2.2 with h3 | h3
            · exact .inl (.inl ⟨h3.symm, hxe h3.symm, h2⟩)
            · exact .inr (.inl ⟨h3.symm, hye h3.symm, h2⟩)
          · exact .inl (.inr h2)
          · exact .inr (.inr h2)
        · rintro ((⟨_, _, h2⟩ | h2) | (⟨_, _, h2⟩ | h2))
          · exact .inl h2
          · exact .inr (.inl h2)
          · exact .inl h2
          · exact .inr (.inr h2)
      · rcases List.mem_cons.1 hit with rfl | h2
        · show decide (y = d) = decide (d ∈ bs)
          rw [Bool.eq_iff_iff, decide_eq_true_iff, decide_eq_true_iff, hB]
          constructor
          · exact fun e => .inl ⟨e, hye e, rfl⟩
          · rintro (⟨e, _⟩ | h3)
            · exact e
            · exact absurd (bB d h3) (dLt_irrefl d)
        · rw [i3 it h2, Bool.eq_iff_iff, decide_eq_true_iff, decide_eq_true_iff, hB]
          constructor
          · exact .inr
          · rintro (⟨_, _, h3⟩ | h3)
            · have hm : it.1 ∈ (mrg (if x = d then as.tail else as) (if y = d then bs.tail else bs)).map (·.1) := List.mem_map.2 ⟨it, h2, rfl⟩
              rw [h3] at hm
              rcases (i2 d).1 hm with h4 | h4
              · exact absurd (bA d h4) (dLt_irrefl d)
              · exact absurd (bB d h4) (dLt_irrefl d)
            · exact h3
theorem mrg_len (k : Nat) : ∀ (as bs : List Dt), as.length + bs.length ≤ k → dots as → dots bs → (mrg as bs).length ≤ k := by
  induction k with
  | zero =>
    intro as bs h _ _
    have h1 : as = [] := List.eq_nil_of_length_eq_zero (by omega)
    have h2 : bs = [] := List.eq_nil_of_length_eq_zero (by omega)
    subst h1 h2
    exact Nat.le_refl _
  | succ k ih =>
    intro as bs h ha hb
    by_cases he : as = [] ∧ bs = []
    · obtain ⟨rfl, rfl⟩ := he
      rw [mrg_nil]
      exact Nat.zero_le _
    · rw [mrg_step ha hb he, List.length_cons]
      have := take_less ha hb he
      have := ih _ _ (by omega) (dots_if ha (as.headD endD = lessD (as.headD endD) (bs.headD endD))) (dots_if hb (bs.headD endD = lessD (as.headD endD) (bs.headD endD)))
      omega
end Go.Proofs.Ythjflgnoeenenaa.Cl
