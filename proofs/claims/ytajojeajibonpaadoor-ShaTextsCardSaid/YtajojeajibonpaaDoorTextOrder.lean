/- Texts stand to one another as digests do: plain mathematics. -/
import Derived.Test.YtajojeajibonpaaDoorHex
import Derived.Test.YtajojeajibonpaaDoorShaCmp
namespace Go.Proofs.YtajojeajibonpaaDoor
open Go.RowKit Crc

theorem dgs_lt : ∀ n m : Fin 16, decide (dgs n.val < dgs m.val) = decide (n.val < m.val) := by decide +kernel
theorem dgs_eq : ∀ n m : Fin 16, (dgs n.val == dgs m.val) = decide (n.val = m.val) := by decide +kernel
theorem less_cons (a b : UInt8) (x y : List UInt8) : Op.bytesLess (a :: x) (b :: y) = (decide (a < b) || (a == b && Op.bytesLess x y)) := rfl
theorem hi_lo (a : UInt8) : a.toNat = 16 * hi4 a + lo4 a := by unfold hi4 lo4; omega
theorem less_two (a b : UInt8) (x y : List UInt8) : Op.bytesLess (two a ++ x) (two b ++ y) = if a.toNat < b.toNat then true else if b.toNat < a.toNat then false else Op.bytesLess x y := by
  have h1 := dgs_lt ⟨hi4 a, hi4_lt a⟩ ⟨hi4 b, hi4_lt b⟩
  have h2 := dgs_eq ⟨hi4 a, hi4_lt a⟩ ⟨hi4 b, hi4_lt b⟩
  have h3 := dgs_lt ⟨lo4 a, lo4_lt a⟩ ⟨lo4 b, lo4_lt b⟩
  have h4 := dgs_eq ⟨lo4 a, lo4_lt a⟩ ⟨lo4 b, lo4_lt b⟩
  have ea := hi_lo a
  have eb := hi_lo b
  have la := lo4_lt a
  have lb := lo4_lt b
  simp only at h1 h2 h3 h4
  show Op.bytesLess (dgs (hi4 a) :: dgs (lo4 a) :: x) (dgs (hi4 b) :: dgs (lo4 b) :: y) = _
  rw [less_cons, less_cons, h1, h2, h3, h4]
  by_cases c1 : hi4 a < hi4 b
  · rw [if_pos (by omega)]; simp [c1]
  · by_cases c2 : hi4 a = hi4 b
    · by_cases c3 : lo4 a < lo4 b
      · rw [if_pos (by omega)]; simp [c2, c3]
      · by_cases c4 : lo4 a = lo4 b
        · rw [if_neg (by omega), if_neg (by omega)]; simp [c2, c4]
        · rw [if_neg (by omega), if_pos (by omega)]; simp [c2, c3, c4]
    · rw [if_neg (by omega), if_pos (by omega)]; simp [c1, c2]
theorem textB_cons (b : UInt8) (l : List UInt8) : textB (b :: l) = two b ++ textB l := rfl
theorem less_text : ∀ (l m : List UInt8), l.length = m.length → Op.bytesLess (textB l) (textB m) = (cmpL l m == -1)
  | [], [], _ => rfl
  | [], _ :: _, h => by simp at h
  | _ :: _, [], h => by simp at h
  | a :: l, b :: m, h => by
    rw [textB_cons, textB_cons, less_two, less_text l m (by simpa using h), cmpL_cons]
    split
    · rfl
    · split <;> rfl
theorem cmp_flip : ∀ (l m : List UInt8), cmpL m l = - cmpL l m
  | [], m => by rw [cmpL_nil]; cases m <;> rfl
  | _ :: _, [] => rfl
  | a :: l, b :: m => by
    rw [cmpL_cons, cmpL_cons, cmp_flip l m]
    split
    · rw [if_neg (by omega)]
    · split <;> rfl
theorem cmp_zero : ∀ (l m : List UInt8), l.length = m.length → ((cmpL l m == 0) = (l == m))
  | [], [], _ => rfl
  | [], _ :: _, h => by simp at h
  | _ :: _, [], h => by simp at h
  | a :: l, b :: m, h => by
    have ih := cmp_zero l m (by simpa using h)
    rw [cmpL_cons]
    by_cases h1 : a.toNat < b.toNat
    · rw [if_pos h1]
      have : a ≠ b := fun e => by subst e; omega
      simp [this]
    · rw [if_neg h1]
      by_cases h2 : b.toNat < a.toNat
      · rw [if_pos h2]
        have : a ≠ b := fun e => by subst e; omega
        simp [this]
      · rw [if_neg h2]
        have : a = b := UInt8.toNat_inj.1 (by omega)
        subst this
        rw [ih]; simp
theorem cmp_three : ∀ (l m : List UInt8), cmpL l m = -1 ∨ cmpL l m = 0 ∨ cmpL l m = 1
  | [], m => by rw [cmpL_nil]; simp
  | _ :: _, [] => .inr (.inl rfl)
  | a :: l, b :: m => by
    rw [cmpL_cons]
    split
    · simp
    · split
      · simp
      · exact cmp_three l m
theorem text_inj {l m : List UInt8} (h : textB l = textB m) : l = m := by
  have := read_text l
  rw [h, read_text] at this
  exact (Option.some.inj this).symm
end Go.Proofs.YtajojeajibonpaaDoor
