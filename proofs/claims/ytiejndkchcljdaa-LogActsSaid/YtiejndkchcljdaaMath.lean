/- The register of 32 bits as plain mathematics: what a bit, a byte, bytes make of it; what the table and the matrix say. Nothing here speaks of a program. -/
import Derived.WalkKit
namespace Go.Proofs.Ytiejndkchcljdaa.Crc

abbrev R := BitVec 32
def xr (a b : R) : R := a ^^^ b
def nt (a : R) : R := ~~~ a
def sr (k : Nat) (a : R) : R := a >>> k
def poly : R := 0xEDB88320#32
/-- one bit 0 through the register -/
def sh (r : R) : R := if r.getLsbD 0 then xr (sr 1 r) poly else sr 1 r
def shs : Nat → R → R | 0, r => r | k + 1, r => sh (shs k r)
def sh8 (r : R) : R := sh (sh (sh (sh (sh (sh (sh (sh r)))))))
def bx (b : UInt8) : R := b.toBitVec.setWidth 32
def pass (r : R) (b : UInt8) : R := sh8 (xr r (bx b))
def passes (r : R) (bs : List UInt8) : R := bs.foldl pass r
def more (s : R) (bs : List UInt8) : R := nt (passes (nt s) bs)
def sum (bs : List UInt8) : R := more 0#32 bs
def low8 (r : R) : UInt8 := ⟨r.setWidth 8⟩
def tail4 (s : R) : List UInt8 := [low8 s, low8 (sr 8 s), low8 (sr 16 s), low8 (sr 24 s)]
def sealed (bs : List UInt8) : List UInt8 := bs ++ tail4 (sum bs)

/-! ### linear -/
theorem xr_comm (a b : R) : xr a b = xr b a := BitVec.xor_comm a b
theorem xr_assoc (a b c : R) : xr (xr a b) c = xr a (xr b c) := BitVec.xor_assoc a b c
theorem xr_self (a : R) : xr a a = 0#32 := BitVec.xor_self
theorem xr_zero (a : R) : xr a 0#32 = a := BitVec.xor_zero
theorem zero_xr (a : R) : xr 0#32 a = a := BitVec.zero_xor
theorem xr_left (a b c : R) : xr a (xr b c) = xr b (xr a c) := by rw [← xr_assoc, xr_comm a b, xr_assoc]

theorem sh_xr (a b : R) : sh (xr a b) = xr (sh a) (sh b) := by
  unfold sh
  rw [xr, BitVec.getLsbD_xor, sr, BitVec.ushiftRight_xor_distrib]
  cases a.getLsbD 0 <;> cases b.getLsbD 0 <;> simp [xr, sr]
  · rw [BitVec.xor_assoc]
  · rw [BitVec.xor_assoc, BitVec.xor_assoc, BitVec.xor_comm poly]
  · apply BitVec.eq_of_getLsbD_eq
    intro i hi
    simp
    cases (a >>> 1).getLsbD i <;> cases (b >>> 1).getLsbD i <;> cases poly.getLsbD i <;> simp_all
theorem sh8_xr (a b : R) : sh8 (xr a b) = xr (sh8 a) (sh8 b) := by simp only [sh8, sh_xr]
theorem shs_xr (k : Nat) (a b : R) : shs k (xr a b) = xr (shs k a) (shs k b) := by
  induction k with
  | zero => rfl
  | succ k ih => simp only [shs, ih, sh_xr]
theorem sh8_shs (r : R) : sh8 r = shs 8 r := rfl
theorem shs_shs (a b : Nat) (r : R) : shs a (shs b r) = shs (a + b) r := by
  induction a with
  | zero => rw [Nat.zero_add]; rfl
  | succ a ih => rw [Nat.succ_add]; exact congrArg sh ih
theorem shs_zero (k : Nat) : shs k 0#32 = 0#32 := by
  induction k with
  | zero => rfl
  | succ k ih => rw [shs, ih]; decide

/-! ### the table's way -/
theorem sh_even (r : R) (h : r.getLsbD 0 = false) : sh r = sr 1 r := by unfold sh; rw [if_neg (by rw [h]; decide)]
theorem sh_odd (r : R) (h : r.getLsbD 0 = true) : sh r = xr (sr 1 r) poly := by unfold sh; rw [if_pos h]
theorem sh8_hi (r : R) (h : ∀ i, i < 8 → r.getLsbD i = false) : sh8 r = sr 8 r := by
  have k : ∀ n, n < 8 → sh (r >>> n) = r >>> (n + 1) := fun n hn => by
    rw [sh_even _ (by rw [BitVec.getLsbD_ushiftRight]; exact h _ (by omega)), sr, ← BitVec.shiftRight_add]
  have k0 := k 0 (by omega)
  rw [BitVec.ushiftRight_zero] at k0
  unfold sh8 sr
  rw [k0, k 1 (by omega), k 2 (by omega), k 3 (by omega), k 4 (by omega), k 5 (by omega), k 6 (by omega), k 7 (by omega)]

theorem mask_bit (i : Nat) (hi : i < 32) : (0xFFFFFF00#32).getLsbD i = decide (8 ≤ i) := by
  revert hi; revert i; decide
theorem pass_table (r : R) (b : UInt8) : pass r b = xr (sr 8 r) (sh8 (bx (low8 r ^^^ b))) := by
  have e : xr r (bx b) = xr (r &&& 0xFFFFFF00#32) (bx (low8 r ^^^ b)) := by
    apply BitVec.eq_of_getLsbD_eq
    intro i hi
    simp only [xr, bx, low8, BitVec.getLsbD_xor, BitVec.getLsbD_and, BitVec.getLsbD_setWidth, UInt8.toBitVec_xor, mask_bit i hi]
    by_cases h : i < 8
    · simp [h, hi, show ¬ 8 ≤ i by omega]
    · simp [h, hi]; omega
  unfold pass
  rw [e, sh8_xr, sh8_hi]
  · congr 1
    apply BitVec.eq_of_getLsbD_eq
    intro i hi
    simp only [sr, BitVec.getLsbD_ushiftRight, BitVec.getLsbD_and]
    by_cases h : 8 + i < 32
    · rw [mask_bit _ h]; simp
    · rw [BitVec.getLsbD_of_ge _ _ (by omega)]; simp
  · intro i hi
    rw [BitVec.getLsbD_and, mask_bit i (by omega)]
    simp; omega

/-! ### bytes in order -/
theorem passes_append (r : R) (a b : List UInt8) : passes r (a ++ b) = passes (passes r a) b := List.foldl_append
theorem nt_nt (a : R) : nt (nt a) = a := BitVec.not_not
theorem more_append (s : R) (a b : List UInt8) : more s (a ++ b) = more (more s a) b := by
  unfold more; rw [nt_nt, passes_append]
theorem pass_xr (r d : R) (b : UInt8) : pass (xr r d) b = xr (pass r b) (sh8 d) := by
  unfold pass; rw [xr_assoc, xr_comm d, ← xr_assoc, sh8_xr]
theorem passes_xr (bs : List UInt8) : ∀ r d : R, passes (xr r d) bs = xr (passes r bs) (shs (8 * bs.length) d) := by
  induction bs with
  | nil => intro r d; rfl
  | cons b bs ih =>
    intro r d
    show passes (pass (xr r d) b) bs = _
    rw [pass_xr, ih, sh8_shs, shs_shs]; rfl
theorem nt_xr (a : R) : nt a = xr a (nt 0#32) := by
  apply BitVec.eq_of_getLsbD_eq
  intro i hi
  simp only [nt, xr, BitVec.getLsbD_not, BitVec.getLsbD_xor, hi, decide_true, Bool.true_and, BitVec.getLsbD_zero]
  cases a.getLsbD i <;> rfl
/-- the sum of the whole, of the sums of the parts -/
theorem sum_join (a b : List UInt8) : sum (a ++ b) = xr (shs (8 * b.length) (sum a)) (sum b) := by
  unfold sum
  rw [more_append]
  generalize more 0#32 a = s
  unfold more
  rw [show nt s = xr (nt 0#32) s by rw [nt_xr, xr_comm], passes_xr, nt_xr (xr _ _), nt_xr (passes _ _), xr_comm (passes _ _) (shs _ _), xr_assoc]
theorem pass_zero (r : R) : pass r 0 = sh8 r := by unfold pass; rw [show bx 0 = 0#32 by decide, xr_zero]

/-! ### what is told of bytes that may be sealed -/
def inner (bs : List UInt8) : List UInt8 := bs.take (bs.length - 4)
def openE (bs : List UInt8) : Int := if bs.length < 4 then 6 else if sealed (inner bs) = bs then 0 else 5
def openB (bs : List UInt8) : List UInt8 := if bs.length < 4 then [] else if sealed (inner bs) = bs then inner bs else []
theorem inner_tail (xs : List UInt8) (t0 t1 t2 t3 : UInt8) : inner (xs ++ [t0, t1, t2, t3]) = xs := by
  unfold inner
  rw [List.length_append, show xs.length + [t0, t1, t2, t3].length - 4 = xs.length by simp, List.take_left]
theorem sealed_tail (xs : List UInt8) (t0 t1 t2 t3 : UInt8) : (sealed xs = xs ++ [t0, t1, t2, t3]) ↔ tail4 (sum xs) = [t0, t1, t2, t3] := by
  unfold sealed
  exact List.append_right_inj xs
theorem openE_short {bs : List UInt8} (h : bs.length < 4) : openE bs = 6 := by unfold openE; rw [if_pos h]
theorem openB_short {bs : List UInt8} (h : bs.length < 4) : openB bs = [] := by unfold openB; rw [if_pos h]
theorem openE_yes {xs : List UInt8} {t0 t1 t2 t3 : UInt8} (h : tail4 (sum xs) = [t0, t1, t2, t3]) : openE (xs ++ [t0, t1, t2, t3]) = 0 := by
  unfold openE; rw [if_neg (by simp), inner_tail, if_pos ((sealed_tail ..).2 h)]
theorem openB_yes {xs : List UInt8} {t0 t1 t2 t3 : UInt8} (h : tail4 (sum xs) = [t0, t1, t2, t3]) : openB (xs ++ [t0, t1, t2, t3]) = xs := by
  unfold openB; rw [if_neg (by simp), inner_tail, if_pos ((sealed_tail ..).2 h)]
theorem openE_no {xs : List UInt8} {t0 t1 t2 t3 : UInt8} (h : ¬ tail4 (sum xs) = [t0, t1, t2, t3]) : openE (xs ++ [t0, t1, t2, t3]) = 5 := by
  unfold openE; rw [if_neg (by simp), inner_tail, if_neg (fun e => h ((sealed_tail ..).1 e))]
theorem openB_no {xs : List UInt8} {t0 t1 t2 t3 : UInt8} (h : ¬ tail4 (sum xs) = [t0, t1, t2, t3]) : openB (xs ++ [t0, t1, t2, t3]) = [] := by
  unfold openB; rw [if_neg (by simp), inner_tail, if_neg (fun e => h ((sealed_tail ..).1 e))]
/-- bytes, four at least: the last four apart -/
theorem last_four {bs : List UInt8} (h : 4 ≤ bs.length) : ∃ xs t0 t1 t2 t3, bs = xs ++ [t0, t1, t2, t3] := by
  refine ⟨bs.take (bs.length - 4), ?_⟩
  have hl : (bs.drop (bs.length - 4)).length = 4 := by rw [List.length_drop]; omega
  match hd : bs.drop (bs.length - 4), hl with
  | [t0, t1, t2, t3], _ => exact ⟨t0, t1, t2, t3, by rw [← hd, List.take_append_drop]⟩
theorem sealed_len (bs : List UInt8) : (sealed bs).length = bs.length + 4 := by simp [sealed, tail4]
theorem open_sealed (bs : List UInt8) : openE (sealed bs) = 0 ∧ openB (sealed bs) = bs := by
  have h : tail4 (sum bs) = [low8 (sum bs), low8 (sr 8 (sum bs)), low8 (sr 16 (sum bs)), low8 (sr 24 (sum bs))] := rfl
  exact ⟨openE_yes h, openB_yes h⟩
theorem openB_le (bs : List UInt8) : (openB bs).length ≤ bs.length := by
  unfold openB inner
  split
  · exact Nat.zero_le _
  · split
    · rw [List.length_take]; omega
    · exact Nat.zero_le _
end Go.Proofs.Ytiejndkchcljdaa.Crc
