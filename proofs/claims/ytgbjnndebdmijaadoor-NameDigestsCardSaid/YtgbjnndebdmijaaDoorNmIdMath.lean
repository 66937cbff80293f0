/- The text of a digest, read byte by byte: where it stops, and which bytes it has. Plain mathematics. -/
import Derived.Test.YtgbjnndebdmijaaDoorNmFn
namespace Go.Proofs.YtgbjnndebdmijaaDoor

def headL : List UInt8 := [115, 104, 97, 50, 53, 54, 58]
/-- may that byte stand at that place? -/
def goodB (k : Nat) (b : UInt8) : Bool := if k < 7 then headL.getD k 0 == b else decide (k < 71) && decide (0 ≤ hexv (b.toNat : Int))
def scan : List UInt8 → Nat → Nat
  | [], k => k
  | b :: r, k => if goodB k b = true then scan r (k + 1) else k
def stopAt (l : List UInt8) : Nat := scan l 0
/-- the number of the digit at a place behind the head -/
def hx (l : List UInt8) (i : Nat) : Nat := (hexv ((l.getD (7 + i) 0).toNat : Int)).toNat
def nib (l : List UInt8) (n j : Nat) : UInt8 :=
  if 2 * j + 1 < n then UInt8.ofNat (hx l (2 * j) * 16) ||| UInt8.ofNat (hx l (2 * j + 1)) else if 2 * j < n then UInt8.ofNat (hx l (2 * j) * 16) else 0
/-- the bytes of the digest, n digits being read -/
def idAt (l : List UInt8) (n : Nat) : List UInt8 := (List.range 32).map (nib l n)

theorem hexv_le (c : Int) : -1 ≤ hexv c ∧ hexv c ≤ 15 := by
  unfold hexv
  split
  · omega
  · split <;> omega
theorem idAt_length (l : List UInt8) (n : Nat) : (idAt l n).length = 32 := by simp [idAt]
theorem idAt_get (l : List UInt8) (n j : Nat) (hj : j < 32) : (idAt l n)[j]? = some (nib l n j) := by
  simp [idAt, hj]
theorem idAt_set (l : List UInt8) (n j : Nat) (hj : j < 32) (x : UInt8) (hx : nib l (n + 1) j = x) (ho : ∀ i, i ≠ j → nib l (n + 1) i = nib l n i) : (idAt l n).set j x = idAt l (n + 1) := by
  apply List.ext_getElem?
  intro i
  rw [List.getElem?_set]
  by_cases h : j = i
  · subst h
    rw [if_pos rfl, if_pos (by rw [idAt_length]; exact hj), idAt_get _ _ _ hj, hx]
  · rw [if_neg h]
    by_cases hi : i < 32
    · rw [idAt_get _ _ _ hi, idAt_get _ _ _ hi, ho i (fun e => h e.symm)]
    · rw [List.getElem?_eq_none (by rw [idAt_length]; omega), List.getElem?_eq_none (by rw [idAt_length]; omega)]
theorem idAt_even (l : List UInt8) (n j : Nat) (hj : j < 32) (hn : n = 2 * j) : (idAt l n).set j (UInt8.ofNat (hx l n * 16)) = idAt l (n + 1) := by
  refine idAt_set l n j hj _ ?_ fun i hi => ?_
  · unfold nib; rw [if_neg (by omega), if_pos (by omega), hn]
  · unfold nib
    by_cases h1 : 2 * i + 1 < n
    · rw [if_pos (by omega), if_pos h1]
    · rw [if_neg (by omega), if_neg h1, if_neg (by omega), if_neg (by omega)]
theorem idAt_odd_get (l : List UInt8) (n j : Nat) (hj : j < 32) (hn : n = 2 * j + 1) : (idAt l n)[j]? = some (UInt8.ofNat (hx l (2 * j) * 16)) := by
  rw [idAt_get _ _ _ hj]
  unfold nib
  rw [if_neg (by omega), if_pos (by omega)]
theorem idAt_odd (l : List UInt8) (n j : Nat) (hj : j < 32) (hn : n = 2 * j + 1) : (idAt l n).set j (UInt8.ofNat (hx l (2 * j) * 16) ||| UInt8.ofNat (hx l n)) = idAt l (n + 1) := by
  refine idAt_set l n j hj _ ?_ fun i hi => ?_
  · unfold nib; rw [if_pos (by omega), hn]
  · unfold nib
    by_cases h1 : 2 * i + 1 < n
    · rw [if_pos (by omega), if_pos h1]
    · rw [if_neg (by omega), if_neg h1, if_neg (by omega), if_neg (by omega)]
theorem idAt_none (l : List UInt8) : idAt l 0 = List.replicate 32 0 := by
  apply List.ext_getElem?
  intro i
  by_cases hi : i < 32
  · rw [idAt_get _ _ _ hi, List.getElem?_replicate, if_pos hi]; rfl
  · rw [List.getElem?_eq_none (by rw [idAt_length]; omega), List.getElem?_eq_none (by simp; omega)]

theorem drop_head {l : List UInt8} {k : Nat} (h : k < l.length) : l.drop k = l[k] :: l.drop (k + 1) := List.drop_eq_getElem_cons h
theorem scan_good {l : List UInt8} {k : Nat} (h : k < l.length) (hg : goodB k l[k] = true) : scan (l.drop k) k = scan (l.drop (k + 1)) (k + 1) := by
  rw [drop_head h, scan, if_pos hg]
theorem scan_bad {l : List UInt8} {k : Nat} (h : k < l.length) (hg : goodB k l[k] = false) : scan (l.drop k) k = k := by
  rw [drop_head h, scan, if_neg (by rw [hg]; decide)]
theorem scan_end {l : List UInt8} : scan (l.drop l.length) l.length = l.length := by
  rw [List.drop_length, scan]
theorem hexv_ascii {c : Int} (h : 0 ≤ hexv c) : 48 ≤ c ∧ c < 128 := by
  unfold hexv at h
  split at h
  · omega
  · split at h <;> omega
theorem good_ascii {k : Nat} {b : UInt8} (h : goodB k b = true) : b.toNat < 128 := by
  unfold goodB at h
  split at h
  · rename_i hk
    have h := eq_of_beq h
    subst h
    have : ∀ i : Fin 7, (headL.getD i.val 0).toNat < 128 := by decide
    exact this ⟨k, hk⟩
  · simp only [Bool.and_eq_true, decide_eq_true_eq] at h
    have := hexv_ascii h.2
    omega
theorem good_head {k : Nat} {b : UInt8} (hk : k < 7) (h : goodB k b = true) : headL[k]? = some b := by
  unfold goodB at h
  rw [if_pos hk] at h
  have h := eq_of_beq h
  subst h
  have : ∀ i : Fin 7, headL[i.val]? = some (headL.getD i.val 0) := by decide
  exact this ⟨k, hk⟩
theorem good_digit {k : Nat} {b : UInt8} (hk : 7 ≤ k) (h : goodB k b = true) : k < 71 ∧ 0 ≤ hexv (b.toNat : Int) := by
  unfold goodB at h
  rw [if_neg (by omega)] at h
  simpa using h
theorem bad_head {k : Nat} {b x : UInt8} (hk : k < 7) (h : goodB k b = false) (hx : headL[k]? = some x) : b ≠ x := by
  intro e
  subst e
  unfold goodB at h
  rw [if_pos hk, List.getD, hx] at h
  simp at h
theorem bad_digit {k : Nat} {b : UInt8} (hk : 7 ≤ k) (hk2 : k < 71) (h : goodB k b = false) : hexv (b.toNat : Int) = -1 := by
  unfold goodB at h
  rw [if_neg (by omega), decide_eq_true hk2] at h
  have := (hexv_le (b.toNat : Int)).1
  simp at h
  omega
theorem hx_of {l : List UInt8} {k : Nat} (h : k < l.length) (hk : 7 ≤ k) : hx l (k - 7) = (hexv ((l[k]).toNat : Int)).toNat := by
  unfold hx
  rw [show 7 + (k - 7) = k by omega, List.getD, List.getElem?_eq_getElem h]
  rfl
end Go.Proofs.YtgbjnndebdmijaaDoor
