/- The form of a number, and what is read of bytes: plain functions over lists, and that each number has one form. -/
import Derived.Lib.BitFns
import Derived.Test.YtcpkjpeimnaimaaMem
namespace Go.Proofs.Ytcpkjpeimnaimaa
open Go.RowKit

theorem snoc_ind {α : Type} {p : List α → Prop} (h0 : p []) (h1 : ∀ a c, p a → p (a ++ [c])) (l : List α) : p l := by
  have h : ∀ l : List α, p l.reverse := by
    intro l
    induction l with
    | nil => exact h0
    | cons c l ih => rw [List.reverse_cons]; exact h1 _ _ ih
  simpa using h l.reverse
theorem lt_bitLenAux : ∀ (f x : Nat), x < 2 ^ f → x < 2 ^ Lib.bitLenAux f x ∧ (x ≠ 0 → 2 ^ (Lib.bitLenAux f x - 1) ≤ x ∧ 1 ≤ Lib.bitLenAux f x)
  | 0, x, h => by
    have : x = 0 := by simpa using h
    subst this
    simp [Lib.bitLenAux]
  | f + 1, x, h => by
    simp only [Lib.bitLenAux]
    by_cases hx : x = 0
    · subst hx; simp
    · rw [if_neg hx]
      have ih := lt_bitLenAux f (x / 2) (by rw [Nat.pow_succ] at h; omega)
      refine ⟨?_, fun _ => ⟨?_, by omega⟩⟩
      · rw [Nat.add_comm, Nat.pow_succ]; omega
      · rw [Nat.add_sub_cancel_left]
        by_cases h2 : x / 2 = 0
        · rw [h2]
          have : Lib.bitLenAux f 0 = 0 := by cases f <;> simp [Lib.bitLenAux]
          rw [this]; omega
        · obtain ⟨h3, h4⟩ := ih.2 h2
          obtain ⟨m, hm⟩ : ∃ m, Lib.bitLenAux f (x / 2) = m + 1 := ⟨Lib.bitLenAux f (x / 2) - 1, by omega⟩
          rw [hm] at h3 ⊢
          rw [Nat.add_sub_cancel] at h3
          rw [Nat.pow_succ]; omega
/-- how many bytes a number has -/
def kOf (n : Nat) : Nat := (Lib.bitLen n + 7) / 8
def p256 (k : Nat) : Nat := 256 ^ k
theorem p256_two (k : Nat) : p256 k = 2 ^ (8 * k) := by rw [p256, Nat.pow_mul]
theorem p256_mono {j k : Nat} (h : j ≤ k) : p256 j ≤ p256 k := Nat.pow_le_pow_right (by omega) h
theorem p256_succ (k : Nat) : p256 (k + 1) = 256 * p256 k := by rw [p256, Nat.pow_succ, Nat.mul_comm]; rfl
theorem p256_pos (k : Nat) : 0 < p256 k := Nat.pow_pos (by omega)
theorem kOf_bounds {n : Nat} (h0 : n ≠ 0) (h : n < 18446744073709551616) : 1 ≤ kOf n ∧ kOf n ≤ 8 ∧ p256 (kOf n - 1) ≤ n ∧ n < p256 (kOf n) := by
  have h1 := lt_bitLenAux 64 n h
  obtain ⟨h2, h3⟩ := h1.2 h0
  have h1 := h1.1
  have h4 : Lib.bitLen n ≤ 64 := Lib.bitLen_le n 64 (by omega) h
  change n < 2 ^ Lib.bitLen n at h1
  change 2 ^ (Lib.bitLen n - 1) ≤ n at h2
  change 1 ≤ Lib.bitLen n at h3
  have e : kOf n = (Lib.bitLen n + 7) / 8 := rfl
  refine ⟨by omega, by omega, Nat.le_trans ?_ h2, Nat.lt_of_lt_of_le h1 ?_⟩ <;> rw [p256_two] <;> exact Nat.pow_le_pow_right (by omega) (by omega)
theorem kOf_unique {n k : Nat} (hk : 1 ≤ k) (h1 : p256 (k - 1) ≤ n) (h2 : n < p256 k) (h : n < 18446744073709551616) : kOf n = k := by
  have h0 : n ≠ 0 := by have := p256_pos (k - 1); omega
  obtain ⟨a, _, b, c⟩ := kOf_bounds h0 h
  rcases Nat.lt_trichotomy (kOf n) k with hl | hl | hl
  · have := p256_mono (show kOf n ≤ k - 1 by omega); omega
  · exact hl
  · have := p256_mono (show k ≤ kOf n - 1 by omega); omega

/-- n in k bytes, the highest first -/
def beB (k n : Nat) : List UInt8 := (List.range k).map fun i => UInt8.ofNat (n / p256 (k - 1 - i))
theorem beB_length (k n : Nat) : (beB k n).length = k := by simp [beB]
/-- the form of a number -/
def enc (n : Nat) : List UInt8 := if n < 192 then [UInt8.ofNat n] else UInt8.ofNat (191 + kOf n) :: beB (kOf n) n
def encSize (n : Nat) : Nat := if n < 192 then 1 else 1 + kOf n
theorem enc_length (n : Nat) : (enc n).length = encSize n := by
  unfold enc encSize
  split
  · rfl
  · rw [List.length_cons, beB_length]; omega
theorem encSize_le {n : Nat} (h : n < 18446744073709551616) : 1 ≤ encSize n ∧ encSize n ≤ 9 := by
  unfold encSize
  split
  · omega
  · have := kOf_bounds (n := n) (by omega) h; omega
theorem encSize_k {n : Nat} (h1 : 192 ≤ n) : encSize n = 1 + kOf n := by rw [encSize, if_neg (by omega)]
theorem encSize_one {n : Nat} (h1 : n < 192) : encSize n = 1 := by rw [encSize, if_pos h1]
/-- the number that bytes are, the highest first -/
def valB (bs : List UInt8) : Nat := bs.foldl (fun x c => x * 256 + c.toNat) 0
theorem valB_append (a b : List UInt8) : valB (a ++ b) = b.foldl (fun x c => x * 256 + c.toNat) (valB a) := by rw [valB, List.foldl_append]; rfl
theorem valB_snoc (a : List UInt8) (c : UInt8) : valB (a ++ [c]) = valB a * 256 + c.toNat := by rw [valB_append]; rfl
theorem valB_lt (bs : List UInt8) : valB bs < p256 bs.length := by
  refine snoc_ind (p := fun bs => valB bs < p256 bs.length) (by decide) (fun a c ih => ?_) bs
  rw [valB_snoc, List.length_append, List.length_singleton, p256_succ]
  have := c.toNat_lt
  omega
theorem beB_succ (k n : Nat) : beB (k + 1) n = beB k (n / 256) ++ [UInt8.ofNat n] := by
  unfold beB
  rw [List.range_succ, List.map_append]
  congr 1
  · apply List.map_congr_left
    intro i hi
    rw [List.mem_range] at hi
    rw [show k + 1 - 1 - i = (k - 1 - i) + 1 by omega, p256_succ, Nat.div_div_eq_div_mul]
  · simp [p256]
theorem valB_beB (k n : Nat) : valB (beB k n) = n % p256 k := by
  induction k generalizing n with
  | zero => simp [beB, valB, p256, Nat.mod_one]
  | succ k ih =>
    rw [beB_succ, valB_snoc, ih, p256_succ, UInt8.toNat_ofNat', Nat.mod_mul]
    omega
theorem beB_valB (bs : List UInt8) : beB bs.length (valB bs) = bs := by
  refine snoc_ind (p := fun bs => beB bs.length (valB bs) = bs) rfl (fun a c ih => ?_) bs
  have := c.toNat_lt
  rw [List.length_append, List.length_singleton, beB_succ, valB_snoc]
  rw [show (valB a * 256 + c.toNat) / 256 = valB a by omega, ih]
  congr 2
  apply UInt8.toNat_inj.1
  rw [UInt8.toNat_ofNat']
  omega

/-- what is read: the number, how many bytes it has, and what is wrong -/
def decN : List UInt8 → Nat × Nat × Nat
  | [] => (0, 0, 6)
  | c :: rest =>
    if c.toNat ≤ 191 then (c.toNat, 1, 0) else
    if 199 < c.toNat then (0, 0, 5) else
    if rest.length < c.toNat - 191 then (0, 0, 6) else
    if 9223372036854775808 ≤ valB (rest.take (c.toNat - 191)) ∨ encSize (valB (rest.take (c.toNat - 191))) ≠ 1 + (c.toNat - 191) then (0, 0, 5) else
    (valB (rest.take (c.toNat - 191)), 1 + (c.toNat - 191), 0)

theorem ofNat_lt {n : Nat} (h : n < 256) : (UInt8.ofNat n).toNat = n := by rw [UInt8.toNat_ofNat']; omega
theorem dec_enc (n : Nat) (h : n < 9223372036854775808) (rest : List UInt8) : decN (enc n ++ rest) = (n, encSize n, 0) := by
  unfold enc encSize
  by_cases hn : n < 192
  · rw [if_pos hn, if_pos hn]
    simp only [List.singleton_append, decN, ofNat_lt (show n < 256 by omega)]
    rw [if_pos (by omega)]
  · rw [if_neg hn, if_neg hn]
    obtain ⟨a, b, c, d⟩ := kOf_bounds (n := n) (by omega) (by omega)
    have e : (UInt8.ofNat (191 + kOf n)).toNat = 191 + kOf n := ofNat_lt (by omega)
    simp only [List.cons_append, decN, e]
    rw [if_neg (by omega), if_neg (by omega), show 191 + kOf n - 191 = kOf n by omega]
    rw [if_neg (by rw [List.length_append, beB_length]; omega)]
    have ht : (beB (kOf n) n ++ rest).take (kOf n) = beB (kOf n) n := by
      rw [List.take_append_of_le_length (by rw [beB_length]; omega), List.take_of_length_le (by rw [beB_length]; omega)]
    have hv : valB (beB (kOf n) n) = n := by rw [valB_beB, Nat.mod_eq_of_lt d]
    rw [ht, hv, if_neg (by rw [encSize_k (by omega)]; omega)]
/-- what is read has just these bytes -/
theorem enc_dec (bs : List UInt8) {n s : Nat} (h : decN bs = (n, s, 0)) : 1 ≤ s ∧ s ≤ bs.length ∧ n < 9223372036854775808 ∧ enc n = bs.take s ∧ encSize n = s := by
  cases bs with
  | nil => simp [decN] at h
  | cons c rest =>
    simp only [decN] at h
    have hc := c.toNat_lt
    split at h
    · rename_i h1
      simp only [Prod.mk.injEq, and_true] at h
      obtain ⟨rfl, rfl⟩ := h
      refine ⟨by omega, by simp, by omega, ?_, encSize_one (by omega)⟩
      rw [enc, if_pos (by omega)]
      simp
    · rename_i h1
      split at h
      · simp at h
      · rename_i h2
        split at h
        · simp at h
        · rename_i h3
          split at h
          · simp at h
          · rename_i h4
            simp only [Prod.mk.injEq, and_true] at h
            obtain ⟨rfl, rfl⟩ := h
            have h5 : valB (rest.take (c.toNat - 191)) < 9223372036854775808 := by omega
            have h6 : encSize (valB (rest.take (c.toNat - 191))) = 1 + (c.toNat - 191) := by omega
            have h7 : ¬ valB (rest.take (c.toNat - 191)) < 192 := fun hh => by rw [encSize_one hh] at h6; omega
            have h8 : kOf (valB (rest.take (c.toNat - 191))) = c.toNat - 191 := by rw [encSize_k (by omega)] at h6; omega
            refine ⟨by omega, by simp; omega, h5, ?_, h6⟩
            rw [enc, if_neg h7, h8, Nat.add_comm 1, List.take_succ_cons]
            have hl : (rest.take (c.toNat - 191)).length = c.toNat - 191 := by rw [List.length_take]; omega
            have hb := beB_valB (rest.take (c.toNat - 191))
            rw [hl] at hb
            have hh : UInt8.ofNat (191 + (c.toNat - 191)) = c := UInt8.toNat_inj.1 (by rw [ofNat_lt (by omega)]; omega)
            rw [hb, hh]
theorem dec_fault {bs : List UInt8} {n s e : Nat} (h : decN bs = (n, s, e)) (he : e ≠ 0) : n = 0 ∧ s = 0 ∧ (e = 5 ∨ e = 6) := by
  cases bs with
  | nil => simp [decN] at h; omega
  | cons c rest =>
    simp only [decN] at h
    split at h
    · simp at h; omega
    · split at h
      · simp at h; omega
      · split at h
        · simp at h; omega
        · split at h
          · simp at h; omega
          · simp at h; omega
end Go.Proofs.Ytcpkjpeimnaimaa
