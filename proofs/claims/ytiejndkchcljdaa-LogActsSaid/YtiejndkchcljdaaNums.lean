/- How numbers of 32 bits and of 8 bits stand in a walk: each operation of the model, said with the register's own functions. Plain lemmas over any program. -/
import Derived.Test.YtiejndkchcljdaaMath
import Derived.Test.YtiejndkchcljdaaMem
namespace Go.Proofs.Ytiejndkchcljdaa
open Go.RowKit Crc

theorem n_xor (a b : R) : bits .xor .u32 (a.toNat : Int) (b.toNat : Int) = ((xr a b).toNat : Int) := by
  rw [u32_xor_nat _ _ a.isLt b.isLt, xr, BitVec.toNat_xor]
theorem n_poly (a : R) : bits .xor .u32 (a.toNat : Int) 3988292384 = ((xr a poly).toNat : Int) := n_xor a poly
theorem n_not (a : R) : bits .xor .u32 IntKind.u32.max (a.toNat : Int) = ((nt a).toNat : Int) := by
  have h := n_xor (BitVec.allOnes 32) a
  rw [xr, BitVec.allOnes_xor] at h
  rw [nt, ← h]; rfl
theorem n_not' (a : R) : bits .xor .u32 (a.toNat : Int) IntKind.u32.max = ((nt a).toNat : Int) := by
  have h := n_xor a (BitVec.allOnes 32)
  rw [xr, BitVec.xor_allOnes] at h
  rw [nt, ← h]; rfl
theorem n_bx (b : UInt8) : (b.toNat : Int) % (4294967296 : Int) = ((bx b).toNat : Int) := by
  have := b.toNat_lt
  rw [bx, BitVec.toNat_setWidth]; show _ = (((b.toNat % 2 ^ 32 : Nat)) : Int); omega
theorem n_low (a : R) : (a.toNat : Int) % (256 : Int) = ((low8 a).toNat : Int) := by
  show _ = (((a.setWidth 8).toNat : Nat) : Int)
  rw [BitVec.toNat_setWidth]; omega
theorem n_shr1 (a : R) : (a.toNat : Int) / (2 : Int) = ((sr 1 a).toNat : Int) := by
  rw [sr, BitVec.toNat_ushiftRight, Nat.shiftRight_eq_div_pow]; omega
theorem n_shr8 (a : R) : (a.toNat : Int) / (256 : Int) = ((sr 8 a).toNat : Int) := by
  rw [sr, BitVec.toNat_ushiftRight, Nat.shiftRight_eq_div_pow]; omega
theorem n_shr16 (a : R) : (a.toNat : Int) / (65536 : Int) = ((sr 16 a).toNat : Int) := by
  rw [sr, BitVec.toNat_ushiftRight, Nat.shiftRight_eq_div_pow]; omega
theorem n_shr24 (a : R) : (a.toNat : Int) / (16777216 : Int) = ((sr 24 a).toNat : Int) := by
  rw [sr, BitVec.toNat_ushiftRight, Nat.shiftRight_eq_div_pow]; omega
theorem n_shrk (a : R) (k : Nat) : (a.toNat : Int) / (2 : Int) ^ k = ((sr k a).toNat : Int) := by
  rw [sr, BitVec.toNat_ushiftRight, Nat.shiftRight_eq_div_pow, Int.natCast_ediv, Int.natCast_pow]; rfl
theorem sr_bit (a : R) (k : Nat) : (sr k a).getLsbD 0 = a.getLsbD k := by rw [sr, BitVec.getLsbD_ushiftRight, Nat.add_zero]
theorem n_odd (a : R) (h : a.getLsbD 0 = true) : bits .and .u32 (a.toNat : Int) 1 = 1 := by
  have := u32_and_nat a.toNat 1 a.isLt (by omega)
  rw [show ((1 : Int)) = ((1 : Nat) : Int) from rfl, this]
  rw [BitVec.getLsbD, Nat.testBit_zero] at h
  rw [Nat.and_one_is_mod]; simp at h; omega
theorem n_even (a : R) (h : a.getLsbD 0 = false) : bits .and .u32 (a.toNat : Int) 1 = 0 := by
  have := u32_and_nat a.toNat 1 a.isLt (by omega)
  rw [show ((1 : Int)) = ((1 : Nat) : Int) from rfl, this]
  rw [BitVec.getLsbD, Nat.testBit_zero] at h
  rw [Nat.and_one_is_mod]; simp at h; omega
def bxor (a b : UInt8) : UInt8 := a ^^^ b
theorem n_bxor (a b : UInt8) : bits .xor .u8 (a.toNat : Int) (b.toNat : Int) = ((bxor a b).toNat : Int) := by
  rw [u8_xor_nat _ _ a.toNat_lt b.toNat_lt, bxor, UInt8.toNat_xor]
theorem n_bx_lt (b : UInt8) : (b.toNat : Int) < 256 := by have := b.toNat_lt; omega
theorem n_bx_le (b : UInt8) : 0 ≤ (b.toNat : Int) := by omega
theorem u32_eq (a b : R) : ((a.toNat : Int) == (b.toNat : Int)) = (a == b) := by
  by_cases h : a = b
  · simp [h]
  · have : ¬ a.toNat = b.toNat := fun e => h (BitVec.eq_of_toNat_eq e)
    rw [beq_eq_false_iff_ne.2 h, beq_eq_false_iff_ne]
    omega
end Go.Proofs.Ytiejndkchcljdaa
