/- The mathematics of the project's clouds: dots absorbed one after the other. No program. -/
import Derived.Test.YthjflgnoeenenaaClRef
namespace Go.Proofs.Ythjflgnoeenenaa.Cl

/-- first dots and dots, after i dots of an ascending list -/
def absI (f : List Int) (l : List Dt) : Nat → List Int × List Dt
  | 0 => (f, [])
  | i + 1 => match l[i]? with
    | none => absI f l i
    | some d => if 0 < i ∧ l[i - 1]? = some d then absI f l i else stepC (absI f l i) d
theorem abs_dup {f : List Int} {l : List Dt} {i : Nat} {d : Dt} (h : l[i]? = some d) (k : 0 < i ∧ l[i - 1]? = some d) : absI f l (i + 1) = absI f l i := by
  show (match l[i]? with | none => _ | some d => _) = _
  rw [h]
  exact if_pos k
theorem abs_step {f : List Int} {l : List Dt} {i : Nat} {d : Dt} (h : l[i]? = some d) (k : ¬ (0 < i ∧ l[i - 1]? = some d)) : absI f l (i + 1) = stepC (absI f l i) d := by
  show (match l[i]? with | none => _ | some d => _) = _
  rw [h]
  exact if_neg k
theorem abs_under {f : List Int} {l : List Dt} {i : Nat} {d : Dt} (h : l[i]? = some d) (k : d.2 ≤ frs (absI f l i).1 d.1) : absI f l (i + 1) = absI f l i := by
  by_cases h2 : 0 < i ∧ l[i - 1]? = some d
  · exact abs_dup h h2
  · rw [abs_step h h2, step_none (by omega) (by omega)]
theorem abs_one {f : List Int} {l : List Dt} {i : Nat} {d : Dt} (h : l[i]? = some d) (k : ¬ (0 < i ∧ l[i - 1]? = some d)) (e : d.2 = frs (absI f l i).1 d.1 + 1) : absI f l (i + 1) = ((absI f l i).1.set (d.1 - 1).toNat d.2, (absI f l i).2) := by
  rw [abs_step h k, step_one e, ← e]
theorem abs_more {f : List Int} {l : List Dt} {i : Nat} {d : Dt} (h : l[i]? = some d) (k : ¬ (0 < i ∧ l[i - 1]? = some d)) (u : ¬ d.2 ≤ frs (absI f l i).1 d.1) (e : ¬ d.2 = frs (absI f l i).1 d.1 + 1) : absI f l (i + 1) = ((absI f l i).1, (absI f l i).2 ++ [d]) := by
  rw [abs_step h k, step_two e (by omega)]
theorem abs_len (f : List Int) (l : List Dt) (i : Nat) : (absI f l i).1.length = f.length := by
  induction i with
  | zero => rfl
  | succ i ih =>
    cases h : l[i]? with
    | none =>
      show (match l[i]? with | none => _ | some d => _ : List Int × List Dt).1.length = _
      rw [h]; exact ih
    | some d =>
      by_cases k : 0 < i ∧ l[i - 1]? = some d
      · rw [abs_dup h k, ih]
      · rw [abs_step h k, step_len, ih]
theorem abs_le {f : List Int} {l : List Dt} (hf : ∀ x ∈ f, 0 ≤ x ∧ x ≤ 1048576) (hd : ∀ d ∈ l, dotted d) (i : Nat) : ∀ x ∈ (absI f l i).1, 0 ≤ x ∧ x ≤ 1048576 := by
  induction i with
  | zero => exact hf
  | succ i ih =>
    cases h : l[i]? with
    | none =>
      show ∀ x ∈ (match l[i]? with | none => _ | some d => _ : List Int × List Dt).1, _
      rw [h]; exact ih
    | some d =>
      by_cases k : 0 < i ∧ l[i - 1]? = some d
      · rw [abs_dup h k]; exact ih
      · rw [abs_step h k]; exact stepC_le ih (hd d (List.mem_of_getElem? h))
theorem abs_dots (f : List Int) (l : List Dt) (i : Nat) : (absI f l i).2.length ≤ i := by
  induction i with
  | zero => exact Nat.le_refl _
  | succ i ih =>
    cases h : l[i]? with
    | none =>
      show (match l[i]? with | none => _ | some d => _ : List Int × List Dt).2.length ≤ _
      rw [h]
      exact Nat.le_succ_of_le ih
    | some d =>
      by_cases k : 0 < i ∧ l[i - 1]? = some d
      · rw [abs_dup h k]; omega
      · rw [abs_step h k]
        have : (stepC (absI f l i) d).2.length ≤ (absI f l i).2.length + 1 := by
          unfold stepC
          split
          · simp
          · split <;> simp
        omega
/-- the dots, each once, after i of them -/
def undI (l : List Dt) : Nat → List Dt
  | 0 => []
  | i + 1 => match l[i]? with
    | none => undI l i
    | some d => if 0 < i ∧ l[i - 1]? = some d then undI l i else undI l i ++ [d]
theorem abs_und (f : List Int) (l : List Dt) (i : Nat) : absI f l i = (undI l i).foldl stepC (f, []) := by
  induction i with
  | zero => rfl
  | succ i ih =>
    show (match l[i]? with | none => absI f l i | some d => if 0 < i ∧ l[i - 1]? = some d then absI f l i else stepC (absI f l i) d) = (match l[i]? with | none => undI l i | some d => if 0 < i ∧ l[i - 1]? = some d then undI l i else undI l i ++ [d]).foldl stepC (f, [])
    cases h : l[i]? with
    | none => exact ih
    | some d =>
      simp only
      split
      · exact ih
      · rw [List.foldl_append, ← ih]; rfl
/-- dots in ascending order, some of them perhaps more than once -/
def ascD (l : List Dt) : Prop := l.Pairwise fun a b => ¬ dLt b a
theorem und_spec {l : List Dt} (h : ascD l) (i : Nat) (hi : i ≤ l.length) : (undI l i).Pairwise dLt ∧ ∀ e, e ∈ undI l i ↔ e ∈ l.take i := by
  induction i with
  | zero => exact ⟨List.Pairwise.nil, fun e => by simp [undI]⟩
  | succ i ih =>
    have hl : i < l.length := by omega
    obtain ⟨h1, h2⟩ := ih (by omega)
    have hq : l[i]? = some l[i] := List.getElem?_eq_getElem hl
    have he : undI l (i + 1) = if 0 < i ∧ l[i - 1]? = some l[i] then undI l i else undI l i ++ [l[i]] := by
      show (match l[i]? with | none => _ | some d => _) = _
      rw [hq]
    rw [he, List.take_succ_eq_append_getElem hl]
    split
    · rename_i hk
      refine ⟨h1, fun e => ?_⟩
      rw [h2, List.mem_append, List.mem_singleton]
      constructor
      · exact .inl
      · rintro (k | rfl)
        · exact k
        · have : (l.take i)[i - 1]? = some l[i] := by rw [List.getElem?_take_of_lt (by omega)]; exact hk.2
          exact List.mem_of_getElem? this
    · rename_i hk
      refine ⟨List.pairwise_append.2 ⟨h1, by simp, fun a ha b hb => ?_⟩, fun e => by rw [List.mem_append, h2, List.mem_append]⟩
      rw [List.mem_singleton.1 hb]
      obtain ⟨j, hj, e⟩ := List.getElem_of_mem ((h2 a).1 ha)
      rw [List.length_take] at hj
      have hj2 : j < i := by omega
      rw [List.getElem_take] at e
      have p1 := (List.pairwise_iff_getElem.1 h) j i (by omega) hl hj2
      rw [e] at p1
      refine dLt_tri p1 (fun e2 => hk ⟨by omega, ?_⟩)
      by_cases hji : j = i - 1
      · rw [List.getElem?_eq_getElem (by omega)]
        subst hji
        rw [e, e2]
      · have p2 := (List.pairwise_iff_getElem.1 h) j (i - 1) (by omega) (by omega) (by omega)
        have p3 := (List.pairwise_iff_getElem.1 h) (i - 1) i (by omega) hl (by omega)
        rw [e, ← e2] at p2
        rw [List.getElem?_eq_getElem (by omega)]
        congr 1
        by_cases q : l[i - 1] = l[i]
        · exact q
        · exact absurd (dLt_tri p3 (fun e3 => q e3.symm)) p2
theorem und_rising {l ds : List Dt} (h : ascD l) (hm : ∀ e, e ∈ l ↔ e ∈ ds) : undI l l.length = rising ds := by
  obtain ⟨h1, h2⟩ := und_spec h l.length (Nat.le_refl _)
  refine sorted_ext h1 (rising_sorted ds) fun e => ?_
  rw [h2, List.take_length, mem_rising]
  exact hm e
/-- what is absorbed, all of it -/
theorem abs_formed {v : List Int} {l ds : List Dt} (h : ascD l) (hm : ∀ e, e ∈ l ↔ e ∈ ds) : (trim (absI (pad v) l l.length).1, (absI (pad v) l l.length).2) = formedV v ds := by
  rw [abs_und, und_rising h hm]; rfl
theorem pad_full {v : List Int} (h : v.length = 16) : pad v = v := by unfold pad; rw [h]; simp
theorem asc_of_lt {l : List Dt} (h : l.Pairwise dLt) : ascD l := h.imp fun {a _} hab hba => dLt_irrefl a (dLt_trans hab hba)
end Go.Proofs.Ythjflgnoeenenaa.Cl
