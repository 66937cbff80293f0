/- The table of 256 numbers, as the two loops fill it: what each place holds after each step. Plain mathematics. -/
import Derived.Test.YtpnobkeeebigeaaMath
namespace Go.Proofs.Ytpnobkeeebigeaa.Crc
def num (i : Nat) : R := BitVec.ofNat 32 i
def cut (i : Nat) : R := sh8 (num i)
/-- In the round of s, when the inner loop stands at j, place i holds: -/
def tv (s j i : Nat) : R := if (i < j ∧ i % s = 0) ∨ i % (2 * s) = 0 then cut i else 0#32
def tcells (s j : Nat) : Array Value := ((List.range 256).map fun i => Value.int .u32 ((tv s j i).toNat : Int)).toArray
def halves : List Nat := [128, 64, 32, 16, 8, 4, 2, 1]

theorem num_add : ∀ s ∈ halves, ∀ j, j < 256 → j % (2 * s) = 0 → num (j + s) = xr (num j) (num s) := by
  unfold halves num xr; decide +kernel
theorem cut_add {s j : Nat} (hs : s ∈ halves) (hj : j < 256) (h : j % (2 * s) = 0) : cut (j + s) = xr (cut j) (cut s) := by
  unfold cut; rw [num_add s hs j hj h, sh8_xr]
theorem tcells_size (s j : Nat) : (tcells s j).size = 256 := by simp [tcells]
theorem tcells_at (s j i : Nat) (h : i < 256) : (tcells s j)[i]? = some (.int .u32 ((tv s j i).toNat : Int)) := by
  simp [tcells, h]
theorem tv_at {s j : Nat} (h : j % (2 * s) = 0) : tv s j j = cut j := by unfold tv; rw [if_pos (.inr h)]
theorem tv_next {s j i : Nat} (hs : s ∈ halves) (hj : j < 256) (h : j % (2 * s) = 0) (hi : i < 256) :
    tv s (j + 2 * s) i = if i = j + s then xr (cut j) (cut s) else tv s j i := by
  by_cases e : i = j + s
  · subst e
    rw [if_pos rfl, ← cut_add hs hj h, tv, if_pos]
    simp [halves] at hs
    rcases hs with rfl | rfl | rfl | rfl | rfl | rfl | rfl | rfl <;> omega
  · rw [if_neg e, tv, tv]
    have : ((i < j + 2 * s ∧ i % s = 0) ∨ i % (2 * s) = 0) ↔ ((i < j ∧ i % s = 0) ∨ i % (2 * s) = 0) := by
      simp [halves] at hs
      rcases hs with rfl | rfl | rfl | rfl | rfl | rfl | rfl | rfl <;> omega
    simp only [this]
theorem tcells_next {s j : Nat} (hs : s ∈ halves) (hj : j < 256) (h : j % (2 * s) = 0) :
    (tcells s j).setIfInBounds (j + s) (.int .u32 ((xr (cut j) (cut s)).toNat : Int)) = tcells s (j + 2 * s) := by
  apply Array.ext_getElem?
  intro i
  rw [Array.getElem?_setIfInBounds, tcells_size]
  by_cases hi : i < 256
  · rw [tcells_at _ _ _ hi, tcells_at _ _ _ hi, tv_next hs hj h hi]
    by_cases e : j + s = i
    · rw [if_pos e, if_pos e.symm, if_pos (by omega)]
    · rw [if_neg e, if_neg (fun h => e h.symm)]
  · have n1 : (tcells s j)[i]? = none := Array.getElem?_eq_none (by rw [tcells_size]; omega)
    have n2 : (tcells s (j + 2 * s))[i]? = none := Array.getElem?_eq_none (by rw [tcells_size]; omega)
    rw [n1, n2]
    split
    · rw [if_neg (by omega)]
    · rfl
theorem tcells_end {s : Nat} (hs : s ∈ halves) (h1 : s ≠ 1) : tcells s 256 = tcells (s / 2) 0 := by
  unfold tcells
  congr 1
  apply List.map_congr_left
  intro i hi
  have hi : i < 256 := by simpa using hi
  unfold tv
  have : ((i < 256 ∧ i % s = 0) ∨ i % (2 * s) = 0) ↔ ((i < 0 ∧ i % (s / 2) = 0) ∨ i % (2 * (s / 2)) = 0) := by
    simp [halves] at hs
    rcases hs with rfl | rfl | rfl | rfl | rfl | rfl | rfl | rfl <;> omega
  simp only [this]
theorem tcells_start : tcells 128 0 = Array.replicate 256 (.int .u32 0) := by
  apply Array.ext_getElem?
  intro i
  by_cases hi : i < 256
  · rw [tcells_at _ _ _ hi]
    have : tv 128 0 i = 0#32 := by
      unfold tv
      split
      · have : i = 0 := by omega
        subst this; decide
      · rfl
    simp [this, hi]
  · rw [Array.getElem?_eq_none (by rw [tcells_size]; omega), Array.getElem?_eq_none (by simp; omega)]
theorem tv_full (i : Nat) (hi : i < 256) : tv 1 256 i = cut i := by unfold tv; rw [if_pos (.inl ⟨hi, by omega⟩)]
theorem cut_bx (b : UInt8) : cut b.toNat = sh8 (bx b) := by
  unfold cut num bx
  congr 1
  apply BitVec.eq_of_toNat_eq
  have := b.toNat_lt
  rw [BitVec.toNat_setWidth, BitVec.toNat_ofNat]; rfl
theorem table_at (b : UInt8) : (tcells 1 256)[b.toNat]? = some (.int .u32 ((sh8 (bx b)).toNat : Int)) := by
  have := b.toNat_lt
  rw [tcells_at _ _ _ (by omega), tv_full _ (by omega), cut_bx]
end Go.Proofs.Ytpnobkeeebigeaa.Crc
