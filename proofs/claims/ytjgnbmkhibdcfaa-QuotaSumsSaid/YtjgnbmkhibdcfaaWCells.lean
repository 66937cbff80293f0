/- Arrays of words as values and in blocks. Plain lemmas over any program. -/
import Derived.Test.YtjgnbmkhibdcfaaMath
import Derived.Test.YtjgnbmkhibdcfaaBlk
namespace Go.Proofs.Ytjgnbmkhibdcfaa
open Go.RowKit Crc
def rv (x : R) : Value := .int .u32 (x.toNat : Int)
def rcells (l : List R) : Array Value := (l.map rv).toArray
theorem rcells_size (l : List R) : (rcells l).size = l.length := by simp [rcells]
theorem rcells_at {l : List R} {i : Nat} {x : R} (h : l[i]? = some x) : (rcells l)[i]? = some (.int .u32 (x.toNat : Int)) := by simp [rcells, h, rv]
theorem rcells_set (l : List R) (i : Nat) (x : R) : (rcells l).setIfInBounds i (.int .u32 (x.toNat : Int)) = rcells (l.set i x) := by
  simp [rcells, List.map_set, rv]
theorem rcells_oneCell (l : List R) : (rcells l).toList.all (·.oneCell') = true := by
  rw [List.all_eq_true]
  intro x hx
  simp [rcells] at hx
  obtain ⟨i, _, rfl⟩ := hx
  rfl
def zeroW (n : Nat) : List R := List.replicate n 0#32
theorem rcells_zeros (n : Nat) : rcells (zeroW n) = Array.replicate n (.int .u32 0) := by
  simp [rcells, rv, zeroW]
theorem zeroW_length (n : Nat) : (zeroW n).length = n := by simp [zeroW]
/-- a word of a list that is long enough -/
theorem get_of_lt {l : List R} {i : Nat} (h : i < l.length) : l[i]? = some (l.getD i 0) := by simp [List.getD, h]
end Go.Proofs.Ytjgnbmkhibdcfaa
