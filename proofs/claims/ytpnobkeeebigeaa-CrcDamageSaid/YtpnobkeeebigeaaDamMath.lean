/- Which bytes are sealed, told by what they make of the register; and that four bytes side by side, turned, make them not sealed. Plain mathematics. -/
import Derived.Test.YtpnobkeeebigeaaMath
namespace Go.Proofs.Ytpnobkeeebigeaa.Crc

theorem sh_zero_inv (x : R) (h : sh x = 0#32) : x = 0#32 := by
  cases hb : x.getLsbD 0
  · rw [sh_even x hb, sr] at h
    apply BitVec.eq_of_getLsbD_eq
    intro i hi
    rcases Nat.eq_zero_or_pos i with h0 | h0
    · subst h0; rw [hb]; simp
    · have := congrArg (fun r : R => r.getLsbD (i - 1)) h
      simp only [BitVec.getLsbD_ushiftRight, BitVec.getLsbD_zero] at this
      rw [show 1 + (i - 1) = i by omega] at this
      rw [this]; simp
  · rw [sh_odd x hb, sr, xr] at h
    have := congrArg (fun r : R => r.getLsbD 31) h
    simp only [BitVec.getLsbD_xor, BitVec.getLsbD_ushiftRight, BitVec.getLsbD_zero] at this
    rw [BitVec.getLsbD_of_ge x (1 + 31) (by omega)] at this
    exact absurd this (by decide)
theorem shs_zero_inv (k : Nat) (x : R) (h : shs k x = 0#32) : x = 0#32 := by
  induction k with
  | zero => exact h
  | succ k ih => exact ih (sh_zero_inv _ h)
theorem xr_eq_zero {a b : R} (h : xr a b = 0#32) : a = b := by
  have := congrArg (fun r => xr r b) h
  simp only [xr_assoc, xr_self, xr_zero, zero_xr] at this
  exact this
theorem shs_inj (k : Nat) {a b : R} (h : shs k a = shs k b) : a = b := by
  apply xr_eq_zero
  apply shs_zero_inv k
  rw [shs_xr, h, xr_self]

/-- four bytes as a register, the lowest first -/
def word4 (a b c d : UInt8) : R := xr (bx a) (xr (bx b <<< 8) (xr (bx c <<< 16) (bx d <<< 24)))
theorem bx_bit (b : UInt8) (i : Nat) (hi : i < 32) : (bx b).getLsbD i = b.toBitVec.getLsbD i := by
  unfold bx; rw [BitVec.getLsbD_setWidth]; simp [hi]
theorem byte_high (b : UInt8) (i : Nat) (h : 8 ≤ i) : b.toBitVec.getLsbD i = false := BitVec.getLsbD_of_ge _ _ h
theorem sh8_up (b : UInt8) (k : Nat) (hk : k + 16 ≤ 32) : sh8 (bx b <<< (k + 8)) = bx b <<< k := by
  rw [sh8_hi, sr]
  · apply BitVec.eq_of_getLsbD_eq
    intro i hi
    simp only [BitVec.getLsbD_ushiftRight, BitVec.getLsbD_shiftLeft]
    by_cases h : i < k
    · simp [h]; omega
    · rcases Nat.lt_or_ge (8 + i) 32 with g | g
      · simp [h, hi, g, show ¬ 8 + i < k + 8 by omega, show 8 + i - (k + 8) = i - k by omega]
      · rw [bx_bit b (i - k) (by omega), byte_high b (i - k) (by omega)]
        simp [show ¬ 8 + i < 32 by omega]
  · intro i hi
    rw [BitVec.getLsbD_shiftLeft]; simp; omega
theorem shl_zero (r : R) : r <<< 0 = r := BitVec.shiftLeft_zero r
theorem passes_four' (r B C D : R) (a b c d : UInt8) (hb : sh8 B = bx b) (hc : sh8 (sh8 C) = bx c) (hd : sh8 (sh8 (sh8 D)) = bx d) :
    passes r [a, b, c, d] = shs 32 (xr r (xr (bx a) (xr B (xr C D)))) := by
  show pass (pass (pass (pass r a) b) c) d = _
  unfold pass
  rw [← hb, ← hc, ← hd, ← sh8_xr, ← sh8_xr, ← sh8_xr, ← sh8_xr, ← sh8_xr, ← sh8_xr]
  have e : ∀ x : R, sh8 (sh8 (sh8 (sh8 x))) = shs 32 x := fun x => by
    rw [sh8_shs, sh8_shs, sh8_shs, sh8_shs, shs_shs, shs_shs, shs_shs]
  rw [e]
  simp only [xr_assoc]
theorem passes_four (r : R) (a b c d : UInt8) : passes r [a, b, c, d] = shs 32 (xr r (word4 a b c d)) := by
  refine passes_four' r _ _ _ a b c d ?_ ?_ ?_
  · rw [sh8_up b 0 (by omega), shl_zero]
  · rw [sh8_up c 8 (by omega), sh8_up c 0 (by omega), shl_zero]
  · rw [sh8_up d 16 (by omega), sh8_up d 8 (by omega), sh8_up d 0 (by omega), shl_zero]
theorem bx_bxor (a b : UInt8) : bx (a ^^^ b) = xr (bx a) (bx b) := by
  apply BitVec.eq_of_getLsbD_eq
  intro i hi
  rw [xr, BitVec.getLsbD_xor, bx_bit _ i hi, bx_bit _ i hi, bx_bit _ i hi, UInt8.toBitVec_xor, BitVec.getLsbD_xor]
theorem shl_xr (a b : R) (k : Nat) : (xr a b) <<< k = xr (a <<< k) (b <<< k) := by
  unfold xr; exact BitVec.shiftLeft_xor_distrib a b k
theorem word4_xor (a b c d a' b' c' d' : UInt8) : word4 (a ^^^ a') (b ^^^ b') (c ^^^ c') (d ^^^ d') = xr (word4 a b c d) (word4 a' b' c' d') := by
  unfold word4
  simp only [bx_bxor, shl_xr]
  apply BitVec.eq_of_getLsbD_eq
  intro i _
  simp only [xr, BitVec.getLsbD_xor]
  generalize (bx a).getLsbD i = p1; generalize (bx a').getLsbD i = p2; generalize (bx b <<< 8).getLsbD i = p3; generalize (bx b' <<< 8).getLsbD i = p4
  generalize (bx c <<< 16).getLsbD i = p5; generalize (bx c' <<< 16).getLsbD i = p6; generalize (bx d <<< 24).getLsbD i = p7; generalize (bx d' <<< 24).getLsbD i = p8
  revert p1 p2 p3 p4 p5 p6 p7 p8; decide
theorem word4_bit (a b c d : UInt8) (i : Nat) (hi : i < 8) :
    (word4 a b c d).getLsbD i = a.toBitVec.getLsbD i ∧ (word4 a b c d).getLsbD (8 + i) = b.toBitVec.getLsbD i ∧ (word4 a b c d).getLsbD (16 + i) = c.toBitVec.getLsbD i ∧ (word4 a b c d).getLsbD (24 + i) = d.toBitVec.getLsbD i := by
  unfold word4
  simp only [xr, BitVec.getLsbD_xor, BitVec.getLsbD_shiftLeft]
  refine ⟨?_, ?_, ?_, ?_⟩
  · rw [bx_bit a i (by omega)]
    simp [show i < 32 by omega, hi, show i < 16 by omega, show i < 24 by omega]
  · rw [bx_bit a (8 + i) (by omega), byte_high a (8 + i) (by omega), show 8 + i - 8 = i by omega, bx_bit b i (by omega)]
    simp [show 8 + i < 32 by omega, show ¬ 8 + i < 8 by omega, show 8 + i < 16 by omega, show 8 + i < 24 by omega]
  · rw [bx_bit a (16 + i) (by omega), byte_high a (16 + i) (by omega), show 16 + i - 8 = 8 + i by omega, bx_bit b (8 + i) (by omega), byte_high b (8 + i) (by omega), show 16 + i - 16 = i by omega, bx_bit c i (by omega)]
    simp [show 16 + i < 32 by omega, show ¬ 16 + i < 16 by omega, show 16 + i < 24 by omega]
  · rw [bx_bit a (24 + i) (by omega), byte_high a (24 + i) (by omega), show 24 + i - 8 = 16 + i by omega, bx_bit b (16 + i) (by omega), byte_high b (16 + i) (by omega), show 24 + i - 16 = 8 + i by omega, bx_bit c (8 + i) (by omega), byte_high c (8 + i) (by omega), show 24 + i - 24 = i by omega, bx_bit d i (by omega)]
    simp [show 24 + i < 32 by omega, show ¬ 24 + i < 24 by omega]
theorem byte_ext {a b : UInt8} (h : ∀ i, i < 8 → a.toBitVec.getLsbD i = b.toBitVec.getLsbD i) : a = b := by
  have : a.toBitVec = b.toBitVec := BitVec.eq_of_getLsbD_eq h
  exact UInt8.toBitVec_inj.1 this
theorem word4_inj {a b c d a' b' c' d' : UInt8} (h : word4 a b c d = word4 a' b' c' d') : a = a' ∧ b = b' ∧ c = c' ∧ d = d' := by
  refine ⟨byte_ext fun i hi => ?_, byte_ext fun i hi => ?_, byte_ext fun i hi => ?_, byte_ext fun i hi => ?_⟩
  · rw [← (word4_bit a b c d i hi).1, h, (word4_bit a' b' c' d' i hi).1]
  · rw [← (word4_bit a b c d i hi).2.1, h, (word4_bit a' b' c' d' i hi).2.1]
  · rw [← (word4_bit a b c d i hi).2.2.1, h, (word4_bit a' b' c' d' i hi).2.2.1]
  · rw [← (word4_bit a b c d i hi).2.2.2, h, (word4_bit a' b' c' d' i hi).2.2.2]
theorem low8_bit (r : R) (k i : Nat) (hi : i < 8) : (low8 (sr k r)).toBitVec.getLsbD i = r.getLsbD (k + i) := by
  show ((sr k r).setWidth 8).getLsbD i = _
  rw [BitVec.getLsbD_setWidth, sr, BitVec.getLsbD_ushiftRight]; simp [hi]
theorem word4_tail (s : R) : word4 (low8 s) (low8 (sr 8 s)) (low8 (sr 16 s)) (low8 (sr 24 s)) = s := by
  have h0 : low8 s = low8 (sr 0 s) := by unfold sr; rw [BitVec.ushiftRight_zero]
  apply BitVec.eq_of_getLsbD_eq
  intro i hi
  rcases Nat.lt_or_ge i 8 with h | h
  · rw [(word4_bit _ _ _ _ i h).1, h0, low8_bit s 0 i h, Nat.zero_add]
  · rcases Nat.lt_or_ge i 16 with h' | h'
    · obtain ⟨j, rfl⟩ : ∃ j, i = 8 + j := ⟨i - 8, by omega⟩
      rw [(word4_bit _ _ _ _ j (by omega)).2.1, low8_bit s 8 j (by omega)]
    · rcases Nat.lt_or_ge i 24 with h'' | h''
      · obtain ⟨j, rfl⟩ : ∃ j, i = 16 + j := ⟨i - 16, by omega⟩
        rw [(word4_bit _ _ _ _ j (by omega)).2.2.1, low8_bit s 16 j (by omega)]
      · obtain ⟨j, rfl⟩ : ∃ j, i = 24 + j := ⟨i - 24, by omega⟩
        rw [(word4_bit _ _ _ _ j (by omega)).2.2.2, low8_bit s 24 j (by omega)]
theorem tail_iff (s : R) (a b c d : UInt8) : tail4 s = [a, b, c, d] ↔ word4 a b c d = s := by
  constructor
  · intro h
    simp only [tail4, List.cons.injEq, and_true] at h
    obtain ⟨rfl, rfl, rfl, rfl⟩ := h
    exact word4_tail s
  · intro h
    obtain ⟨h1, h2, h3, h4⟩ := word4_inj ((word4_tail s).trans h.symm)
    simp only [tail4, h1, h2, h3, h4]

/-- what sealed bytes make of the register at its beginning -/
def good (bs : List UInt8) : Prop := passes (nt 0#32) bs = shs 32 (nt 0#32)
theorem good_iff (xs : List UInt8) (a b c d : UInt8) : good (xs ++ [a, b, c, d]) ↔ tail4 (sum xs) = [a, b, c, d] := by
  unfold good
  rw [passes_append, passes_four, tail_iff]
  have hs : sum xs = xr (passes (nt 0#32) xs) (nt 0#32) := by
    show nt (passes (nt 0#32) xs) = _
    rw [nt_xr]
  rw [hs]
  generalize passes (nt 0#32) xs = p
  constructor
  · intro h
    have := shs_inj 32 h
    rw [← this, ← xr_assoc, xr_self, zero_xr]
  · intro h
    rw [h, ← xr_assoc, xr_self, zero_xr]
theorem good_turned (pre post : List UInt8) (a b c d t0 t1 t2 t3 : UInt8) (h : good (pre ++ [a, b, c, d] ++ post))
    (h' : good (pre ++ [a ^^^ t0, b ^^^ t1, c ^^^ t2, d ^^^ t3] ++ post)) : t0 = 0 ∧ t1 = 0 ∧ t2 = 0 ∧ t3 = 0 := by
  unfold good at h h'
  rw [passes_append, passes_append, passes_four] at h h'
  rw [word4_xor, ← xr_assoc, shs_xr, passes_xr, h] at h'
  have h1 : shs (8 * post.length) (shs 32 (word4 t0 t1 t2 t3)) = 0#32 := by
    have := congrArg (fun r => xr (shs 32 (nt 0#32)) r) h'
    simp only [← xr_assoc, xr_self, zero_xr] at this
    exact this
  have h2 := shs_zero_inv _ _ (shs_zero_inv _ _ h1)
  have h3 : word4 t0 t1 t2 t3 = word4 0 0 0 0 := by rw [h2]; decide
  exact word4_inj h3
/-- sealed bytes, some of four side by side turned: not sealed -/
theorem damaged (pre post : List UInt8) (a b c d t0 t1 t2 t3 : UInt8) (bs : List UInt8) (h : sealed bs = pre ++ [a, b, c, d] ++ post) (hne : ¬ (t0 = 0 ∧ t1 = 0 ∧ t2 = 0 ∧ t3 = 0)) :
    openE (pre ++ [a ^^^ t0, b ^^^ t1, c ^^^ t2, d ^^^ t3] ++ post) = 5 ∧ openB (pre ++ [a ^^^ t0, b ^^^ t1, c ^^^ t2, d ^^^ t3] ++ post) = [] := by
  have hg : good (sealed bs) := (good_iff bs _ _ _ _).2 rfl
  rw [h] at hg
  obtain ⟨xs, u0, u1, u2, u3, e⟩ := last_four (bs := pre ++ [a ^^^ t0, b ^^^ t1, c ^^^ t2, d ^^^ t3] ++ post) (by simp; omega)
  have hn : ¬ tail4 (sum xs) = [u0, u1, u2, u3] := fun ht => by
    have := (good_iff xs u0 u1 u2 u3).2 ht
    rw [← e] at this
    exact hne (good_turned pre post a b c d t0 t1 t2 t3 hg this)
  rw [e]
  exact ⟨openE_no hn, openB_no hn⟩
end Go.Proofs.Ytpnobkeeebigeaa.Crc
