/- Digests cut, as plain mathematics. Nothing here speaks of a program. -/
import Derived.Test.YtgacdimjbpkgoaaDoorShaBytes
import Derived.Test.YtgacdimjbpkgoaaDoorStream
namespace Go.Proofs.YtgacdimjbpkgoaaDoor
open Go.RowKit Crc
def cutB (l : List UInt8) (v : Int) : List UInt8 := if v < 1 ∨ 32 < v then zeroB 32 else outOf l v.toNat
def cutE (v : Int) : Int := if v < 1 ∨ 32 < v then 3 else 0
theorem cutB_length (l : List UInt8) (v : Int) (hl : l.length = 32) : (cutB l v).length = 32 := by
  unfold cutB; split
  · simp [zeroB]
  · rw [outOf, List.length_append, List.length_take, zeroB, List.length_replicate]; omega
theorem outOf_length (l : List UInt8) (n : Nat) (hl : l.length = 32) (hn : n ≤ 32) : (outOf l n).length = 32 := by
  rw [outOf, List.length_append, List.length_take, zeroB, List.length_replicate]; omega
theorem spl_cut (l : List UInt8) (n : Nat) (hl : l.length = 32) (hn : n ≤ 32) : spl (zeroB 32) 0 ((l.take n).take n) = outOf l n := by
  have ht : (l.take n).length = n := by rw [List.length_take]; omega
  rw [List.take_of_length_le (l := l.take n) (by omega), spl, List.take_zero, List.nil_append, Nat.zero_add, ht, outOf]
  congr 1
  rw [zeroB, zeroB, List.drop_replicate]
theorem sha_length (bs : List UInt8) : (sha bs).length = 32 := rfl
end Go.Proofs.YtgacdimjbpkgoaaDoor
