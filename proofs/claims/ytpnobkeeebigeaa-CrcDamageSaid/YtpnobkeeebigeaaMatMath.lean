/- The matrix of 32 columns: what it makes of a register, and its square. Plain mathematics. -/
import Derived.Test.YtpnobkeeebigeaaMath
namespace Go.Proofs.Ytpnobkeeebigeaa.Crc

/-- bit i alone -/
def e1 (i : Nat) : R := 1#32 <<< i
/-- the lowest k bits -/
def lowb (r : R) (k : Nat) : R := BitVec.ofNat 32 (r.toNat % 2 ^ k)
def tm (m : Nat → R) (r : R) : Nat → R
  | 0 => 0#32
  | k + 1 => if r.getLsbD k then xr (tm m r k) (m k) else tm m r k
def times (m : Nat → R) (r : R) : R := tm m r 32
/-- the columns of what c bits 0 make of a register -/
def cols (c : Nat) (i : Nat) : R := shs c (e1 i)
def mcells (m : Nat → R) : Array Value := ((List.range 32).map fun i => Value.int .u32 ((m i).toNat : Int)).toArray

theorem lowb_bit (r : R) (k i : Nat) (hi : i < 32) : (lowb r k).getLsbD i = (decide (i < k) && r.getLsbD i) := by
  unfold lowb
  rw [BitVec.getLsbD_ofNat, Nat.testBit_mod_two_pow]
  simp [hi, BitVec.getLsbD]
theorem lowb_zero (r : R) : lowb r 0 = 0#32 := by unfold lowb; rw [Nat.pow_zero, Nat.mod_one]
theorem lowb_full (r : R) : lowb r 32 = r := by
  apply BitVec.eq_of_getLsbD_eq
  intro i hi
  rw [lowb_bit r 32 i hi]; simp [hi]
theorem e1_bit (k i : Nat) (hi : i < 32) : (e1 k).getLsbD i = decide (i = k) := by
  unfold e1
  rw [BitVec.getLsbD_shiftLeft]
  by_cases h : i < k
  · simp [h, show ¬ i = k by omega]
  · simp only [hi, decide_true, Bool.true_and, h, decide_false, Bool.not_false, BitVec.getLsbD_one]
    by_cases e : i = k
    · subst e; simp
    · simp [e, show ¬ i - k = 0 by omega]
theorem lowb_next (r : R) (k : Nat) (_hk : k < 32) : lowb r (k + 1) = if r.getLsbD k then xr (lowb r k) (e1 k) else lowb r k := by
  apply BitVec.eq_of_getLsbD_eq
  intro i hi
  rw [lowb_bit r _ i hi]
  by_cases h : r.getLsbD k = true
  · rw [if_pos h, xr, BitVec.getLsbD_xor, lowb_bit r k i hi, e1_bit k i hi]
    by_cases e : i = k
    · subst e; simp [h]
    · rcases Nat.lt_or_ge i k with g | g
      · simp [e, g, show i < k + 1 by omega]
      · simp [e, show ¬ i < k by omega, show ¬ i < k + 1 by omega]
  · rw [if_neg h, lowb_bit r k i hi]
    by_cases e : i = k
    · subst e; simp at h; simp [h]
    · rcases Nat.lt_or_ge i k with g | g
      · simp [g, show i < k + 1 by omega]
      · simp [show ¬ i < k by omega, show ¬ i < k + 1 by omega]
theorem tm_cols (c : Nat) (r : R) : ∀ k, k ≤ 32 → tm (cols c) r k = shs c (lowb r k)
  | 0, _ => by rw [lowb_zero, shs_zero]; rfl
  | k + 1, hk => by
    rw [tm, tm_cols c r k (by omega), lowb_next r k (by omega)]
    split
    · rw [shs_xr]; rfl
    · rfl
theorem times_cols (c : Nat) (r : R) : times (cols c) r = shs c r := by
  unfold times; rw [tm_cols c r 32 (Nat.le_refl _), lowb_full]
theorem squared_cols (c : Nat) (i : Nat) : times (cols c) (cols c i) = cols (c + c) i := by
  rw [times_cols]; unfold cols; rw [shs_shs]
theorem mcells_size (m : Nat → R) : (mcells m).size = 32 := by simp [mcells]
theorem mcells_at (m : Nat → R) (i : Nat) (h : i < 32) : (mcells m)[i]? = some (.int .u32 ((m i).toNat : Int)) := by simp [mcells, h]
theorem mcells_oneCell (m : Nat → R) : (mcells m).toList.all (·.oneCell') = true := by
  rw [List.all_eq_true]
  intro x hx
  simp [mcells] at hx
  obtain ⟨i, _, rfl⟩ := hx
  rfl
theorem mcells_congr {m m' : Nat → R} (h : ∀ i, i < 32 → m i = m' i) : mcells m = mcells m' := by
  unfold mcells
  congr 1
  apply List.map_congr_left
  intro i hi
  rw [h i (by simpa using hi)]
/-- columns that are filled one by one: the first k are m's, the others 0 -/
def pcols (m : Nat → R) (k i : Nat) : R := if i < k then m i else 0#32
theorem part_zero (m : Nat → R) : mcells (pcols m 0) = Array.replicate 32 (.int .u32 0) := by
  apply Array.ext_getElem?
  intro i
  by_cases hi : i < 32
  · rw [mcells_at _ _ hi]; simp [pcols, hi]
  · rw [Array.getElem?_eq_none (by rw [mcells_size]; omega), Array.getElem?_eq_none (by simp; omega)]
theorem part_next (m : Nat → R) (k : Nat) (hk : k < 32) : (mcells (pcols m k)).setIfInBounds k (.int .u32 ((m k).toNat : Int)) = mcells (pcols m (k + 1)) := by
  apply Array.ext_getElem?
  intro i
  rw [Array.getElem?_setIfInBounds, mcells_size]
  by_cases hi : i < 32
  · rw [mcells_at _ _ hi, mcells_at _ _ hi]
    by_cases e : k = i
    · subst e; simp [pcols, hk]
    · simp only [e, if_false, pcols]
      by_cases g : i < k
      · simp [g, show i < k + 1 by omega]
      · simp [g, show ¬ i < k + 1 by omega]
  · have n1 : (mcells (pcols m k))[i]? = none := Array.getElem?_eq_none (by rw [mcells_size]; omega)
    have n2 : (mcells (pcols m (k + 1)))[i]? = none := Array.getElem?_eq_none (by rw [mcells_size]; omega)
    rw [n1, n2, if_neg (by omega)]
theorem part_full (m : Nat → R) : mcells (pcols m 32) = mcells m := mcells_congr fun i hi => by simp [pcols, hi]
/-- a step of the loop over the bits of a number -/
theorem odd_step {c n : Nat} {r : R} (h : n % 2 = 1) : shs ((c + c) * (n / 2)) (shs c r) = shs (c * n) r := by
  rw [shs_shs]; congr 1
  have : n = 2 * (n / 2) + 1 := by omega
  conv => rhs; rw [this]
  rw [Nat.mul_add, Nat.add_mul, ← Nat.mul_assoc, Nat.mul_comm c 2, Nat.two_mul, Nat.add_mul, Nat.mul_one]
theorem even_step {c n : Nat} {r : R} (h : n % 2 = 0) : shs ((c + c) * (n / 2)) r = shs (c * n) r := by
  congr 1
  have : n = 2 * (n / 2) := by omega
  conv => rhs; rw [this]
  rw [← Nat.mul_assoc, Nat.mul_comm c 2, Nat.two_mul]
end Go.Proofs.Ytpnobkeeebigeaa.Crc
