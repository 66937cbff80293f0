/- More of how words of 32 bits stand in a walk: or, and, shifts to the left, sums. Plain lemmas over any program. -/
import Derived.Test.YtgacdimjbpkgoaaDoorShaMath
import Derived.Test.YtgacdimjbpkgoaaDoorNums
namespace Go.Proofs.YtgacdimjbpkgoaaDoor
open Go.RowKit Crc
theorem n_or (a b : R) : bits .or .u32 (a.toNat : Int) (b.toNat : Int) = ((og a b).toNat : Int) := by
  rw [u32_or_nat _ _ a.isLt b.isLt, og, BitVec.toNat_or]
theorem n_and (a b : R) : bits .and .u32 (a.toNat : Int) (b.toNat : Int) = ((an a b).toNat : Int) := by
  rw [u32_and_nat _ _ a.isLt b.isLt, an, BitVec.toNat_and]
theorem n_slk (a : R) (k : Nat) : (a.toNat : Int) * (2 : Int) ^ k % (4294967296 : Int) = ((sl k a).toNat : Int) := by
  rw [sl, BitVec.toNat_shiftLeft, Nat.shiftLeft_eq]
  simp
theorem n_sl8 (a : R) : (a.toNat : Int) * (256 : Int) % (4294967296 : Int) = ((sl 8 a).toNat : Int) := n_slk a 8
theorem n_sl16 (a : R) : (a.toNat : Int) * (65536 : Int) % (4294967296 : Int) = ((sl 16 a).toNat : Int) := n_slk a 16
theorem n_sl24 (a : R) : (a.toNat : Int) * (16777216 : Int) % (4294967296 : Int) = ((sl 24 a).toNat : Int) := n_slk a 24
theorem n_add (a b : R) : ((a.toNat : Int) + (b.toNat : Int)) % (4294967296 : Int) = ((ad a b).toNat : Int) := by
  rw [ad, BitVec.toNat_add]; simp
theorem n_add3 (a b c : R) : ((a.toNat : Int) + (b.toNat : Int) + (c.toNat : Int)) % (4294967296 : Int) = ((ad (ad a b) c).toNat : Int) := by
  rw [← n_add, ← n_add]; omega
theorem n_add4 (a b c d : R) : ((a.toNat : Int) + (b.toNat : Int) + (c.toNat : Int) + (d.toNat : Int)) % (4294967296 : Int) = ((ad (ad (ad a b) c) d).toNat : Int) := by
  rw [← n_add, ← n_add3]; omega
theorem n_addw (a b : R) : IntKind.u32.wrap ((a.toNat : Int) + (b.toNat : Int)) = ((ad a b).toNat : Int) := by
  rw [IntKind.wrap_u32', n_add]
theorem n_shr3 (a : R) : (a.toNat : Int) / (8 : Int) = ((sr 3 a).toNat : Int) := n_shrk a 3
theorem n_shr10 (a : R) : (a.toNat : Int) / (1024 : Int) = ((sr 10 a).toNat : Int) := n_shrk a 10
end Go.Proofs.YtgacdimjbpkgoaaDoor
