/- Sums for QuotaForgets: links of 7 bytes in the repositories a to c. -/
import Derived.Test.YtjgnbmkhibdcfaaQtHold
namespace Go.Proofs.Ytjgnbmkhibdcfaa
open Go.RowKit

def nm : Nat → List UInt8
  | 0 => [97]
  | 1 => [98]
  | _ => [99]
abbrev Ls := List (LKey × Int)
def wasS (l : Ls) : Nat → Int
  | 0 => 0
  | m + 1 => wasS l m + sumQ l (nm m)
def manyS (l : Ls) (id : List UInt8) : Nat → Int
  | 0 => 0
  | m + 1 => manyS l id m + if (szQ l (nm m, id)).isSome = true then 1 else 0
def forg (l : Ls) (id : List UInt8) : Ls := l.filter (fun p => decide (p.1.2 ≠ id))
/-- all of 7 bytes, in a to c -/
def Sev (l : Ls) : Prop := ∀ p ∈ l, p.2 = 7 ∧ (p.1.1 = [97] ∨ p.1.1 = [98] ∨ p.1.1 = [99])
theorem nm_len (j : Nat) : (nm j).length = 1 := by rcases j with _ | _ | j <;> rfl
theorem nm_is (j : Nat) : IsR (nm j) true := by
  rcases j with _ | _ | j
  · exact isR_a
  · exact isR_b
  · exact isR_c
theorem nm_in (j : Nat) : nm j = [97] ∨ nm j = [98] ∨ nm j = [99] := by rcases j with _ | _ | j <;> simp [nm]
theorem nm_max (j : Nat) : (nm j).length ≤ maxLen := by rw [nm_len]; unfold maxLen; omega
theorem Sev.sz {l : Ls} (h : Sev l) {k : LKey} {y : Int} (hy : szQ l k = some y) : y = 7 := (h _ (szQ_some hy)).1
theorem Sev.some {l : Ls} (h : Sev l) {k : LKey} (hy : (szQ l k).isSome = true) : szQ l k = some 7 := by
  obtain ⟨y, e⟩ := Option.isSome_iff_exists.1 hy
  rw [e, h.sz e]
theorem Sev.lay {q : QS} (h : Sev q.l) (j : Nat) (id : List UInt8) : Sev (addS q (nm j, id) 7 true).l ∧ (szQ (addS q (nm j, id) 7 true).l (nm j, id)).isSome = true ∧ (∀ z, (szQ q.l z).isSome = true → (szQ (addS q (nm j, id) 7 true).l z).isSome = true) ∧ (addS q (nm j, id) 7 true).l.length ≤ q.l.length + 1 ∧ (addS q (nm j, id) 7 true).limit = q.limit := by
  unfold addS
  cases hs : szQ q.l (nm j, id) with
  | some y => exact ⟨h, by rw [hs]; rfl, fun _ hz => hz, by dsimp only; omega, rfl⟩
  | none =>
    dsimp only
    rw [if_pos rfl]
    refine ⟨fun p hp => ?_, ?_, fun z hz => ?_, by simp, rfl⟩
    · rcases List.mem_append.1 hp with hp | hp
      · exact h p hp
      · rw [List.mem_singleton] at hp
        rw [hp]
        exact ⟨rfl, nm_in j⟩
    · rw [szQ_app 7 hs, if_pos rfl]; rfl
    · rw [szQ_app 7 hs]
      split
      · rfl
      · exact hz
theorem szQ_fg (l : Ls) (id : List UInt8) (z : LKey) : szQ (forg l id) z = if z.2 = id then none else szQ l z := by
  unfold forg
  induction l with
  | nil => rw [List.filter_nil, szQ_nil]; split <;> rfl
  | cons p l ih =>
    rw [List.filter_cons, szQ_cons]
    by_cases hp : p.1.2 = id
    · rw [if_neg (by simp [hp]), ih]
      by_cases hz : z.2 = id
      · rw [if_pos hz, if_pos hz]
      · rw [if_neg hz, if_neg hz, if_neg (fun e => hz (by rw [← e]; exact hp))]
    · rw [if_pos (by simp [hp]), szQ_cons, ih]
      by_cases hz : z.2 = id
      · rw [if_pos hz, if_neg (fun e => hp (by rw [e]; exact hz)), if_pos hz]
      · rw [if_neg hz, if_neg hz]
theorem sumQ_cons (p : LKey × Int) (l : Ls) (r : List UInt8) : sumQ (p :: l) r = (if p.1.1 = r then p.2 else 0) + sumQ l r := by
  unfold sumQ ofQ
  rw [List.filter_cons]
  by_cases e : p.1.1 = r
  · rw [if_pos (by simp [e]), if_pos e, List.map_cons, List.sum_cons]
  · rw [if_neg (by simp [e]), if_neg e]; omega
/-- one repository: what is forgotten of it -/
theorem sum_forg {l : Ls} (hn : (l.map (·.1)).Nodup) (h7 : Sev l) (id r : List UInt8) : sumQ l r = sumQ (forg l id) r + 7 * (if (szQ l (r, id)).isSome = true then 1 else 0) := by
  induction l with
  | nil => unfold forg; rw [List.filter_nil, szQ_nil]; simp
  | cons p l ih =>
    rw [List.map_cons, List.nodup_cons] at hn
    have ih := ih hn.2 (fun x hx => h7 x (List.mem_cons_of_mem _ hx))
    have hp7 := (h7 p (by simp)).1
    rw [sumQ_cons, szQ_cons]
    by_cases e1 : p.1.2 = id
    · have hf : forg (p :: l) id = forg l id := by unfold forg; rw [List.filter_cons, if_neg (by simp [e1])]
      rw [hf]
      by_cases e2 : p.1.1 = r
      · have hk : p.1 = (r, id) := by rw [← e1, ← e2]
        have hno : szQ l (r, id) = none := szQ_none.2 (by rw [← hk]; exact hn.1)
        rw [hno] at ih
        rw [if_pos e2, if_pos hk, hp7]
        simp at ih ⊢; omega
      · rw [if_neg e2, if_neg (show ¬ p.1 = (r, id) from fun e => e2 (by rw [e])), ih]; omega
    · have hf : forg (p :: l) id = p :: forg l id := by unfold forg; rw [List.filter_cons, if_pos (by simp [e1])]
      rw [hf, sumQ_cons, if_neg (show ¬ p.1 = (r, id) from fun e => e1 (by rw [e])), ih]
      omega
theorem was_forg {l : Ls} (hn : (l.map (·.1)).Nodup) (h7 : Sev l) (id : List UInt8) (m : Nat) : wasS l m = wasS (forg l id) m + 7 * manyS l id m := by
  induction m with
  | zero => rfl
  | succ m ih =>
    unfold wasS manyS
    rw [ih, sum_forg hn h7 id (nm m)]
    omega
theorem many_len {l : Ls} (hn : (l.map (·.1)).Nodup) (h7 : Sev l) (id : List UInt8) : ((l.filter (fun p => decide (p.1.2 = id))).length : Int) = manyS l id 3 := by
  show _ = 0 + _ + _ + _
  induction l with
  | nil => rfl
  | cons p l ih =>
    rw [List.map_cons, List.nodup_cons] at hn
    have ih := ih hn.2 (fun x hx => h7 x (List.mem_cons_of_mem _ hx))
    obtain ⟨_, h3⟩ := h7 p (by simp)
    rw [List.filter_cons]
    simp only [szQ_cons]
    by_cases e1 : p.1.2 = id
    · have hk : p.1 = (p.1.1, id) := by rw [← e1]
      have hno : szQ l (p.1.1, id) = none := szQ_none.2 (by rw [← hk]; exact hn.1)
      rw [if_pos (by simp [e1]), List.length_cons]
      have hq : ∀ r, (p.1 = (r, id)) = (p.1.1 = r) := fun r => by
        apply propext
        constructor
        · intro e; rw [e]
        · intro e; rw [← e, ← e1]
      simp only [hq]
      simp only [nm] at ih ⊢
      rcases h3 with e | e | e <;> rw [e] at hno ⊢ <;> simp [hno] at ih ⊢ <;> omega
    · rw [if_neg (by simp [e1])]
      have hq : ∀ r, ¬ p.1 = (r, id) := fun r e => e1 (by rw [e])
      simp only [hq, if_false]
      exact ih
theorem many_zero {l : Ls} (id : List UInt8) : (((forg l id).filter (fun p => decide (p.1.2 = id))).length : Nat) = 0 := by
  unfold forg
  rw [List.filter_filter, List.length_eq_zero_iff, List.filter_eq_nil_iff]
  intro p _
  by_cases e : p.1.2 = id <;> simp [e]
theorem many_bounds (l : Ls) (id : List UInt8) (m : Nat) : 0 ≤ manyS l id m ∧ manyS l id m ≤ m := by
  induction m with
  | zero => exact ⟨Int.le_refl _, Int.le_refl _⟩
  | succ m ih =>
    unfold manyS
    split <;> omega
theorem was_bounds {l : Ls} {lim : Int} (h : OKQ ⟨lim, l⟩) (m : Nat) : 0 ≤ wasS l m ∧ wasS l m ≤ 268435456 * (m : Int) := by
  induction m with
  | zero => exact ⟨Int.le_refl _, Int.le_refl _⟩
  | succ m ih =>
    have := h.sum (nm m)
    unfold wasS
    dsimp only at this
    omega
/-- d holds nothing -/
theorem Sev.d {l : Ls} (h : Sev l) (id : List UInt8) : szQ l ([100], id) = none ∧ sumQ l [100] = 0 := by
  constructor
  · refine szQ_none.2 fun hm => ?_
    obtain ⟨p, hp, e⟩ := List.mem_map.1 hm
    have := (h p hp).2
    rw [e] at this
    revert this
    dsimp only
    decide
  · have : ofQ l [100] = [] := by
      unfold ofQ
      rw [List.filter_eq_nil_iff]
      intro p hp
      have := (h p hp).2
      rcases this with e | e | e <;> rw [e] <;> decide
    unfold sumQ
    rw [this]; rfl
theorem del_app {l : Ls} {k : LKey} {y : Int} (h : szQ l k = none) : delQ (l ++ [(k, y)]) k = l := by
  unfold delQ
  rw [List.filter_append, List.filter_eq_self.2 fun p hp => by
    have : p.1 ≠ k := fun e => szQ_none.1 h (List.mem_map.2 ⟨p, hp, e⟩)
    simpa using this]
  simp
theorem del_none {l : Ls} {k : LKey} (h : szQ l k = none) : delQ l k = l := by
  unfold delQ
  exact List.filter_eq_self.2 fun p hp => by
    have : p.1 ≠ k := fun e => szQ_none.1 h (List.mem_map.2 ⟨p, hp, e⟩)
    simpa using this
end Go.Proofs.Ytjgnbmkhibdcfaa
