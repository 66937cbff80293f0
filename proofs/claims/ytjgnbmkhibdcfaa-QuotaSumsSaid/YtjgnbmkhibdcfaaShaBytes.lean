/- Bytes in rows: an array of 32 of them as it is filled; the type of digests. -/
import Derived.Test.YtjgnbmkhibdcfaaProg
import Derived.Test.YtjgnbmkhibdcfaaShaLists
import Derived.Test.YtjgnbmkhibdcfaaKit0
namespace Go.Proofs.Ytjgnbmkhibdcfaa
open Go.RowKit Crc

def bcells (l : List UInt8) : Array Value := (l.map bv).toArray
def zeroB (n : Nat) : List UInt8 := List.replicate n 0
theorem bcells_size (l : List UInt8) : (bcells l).size = l.length := by simp [bcells]
theorem bcells_oneCell (l : List UInt8) : (bcells l).toList.all (·.oneCell') = true := by
  rw [List.all_eq_true]
  intro x hx
  simp [bcells] at hx
  obtain ⟨i, _, rfl⟩ := hx
  rfl
theorem n_byte (n i : Nat) : (n : Int) * 8 / (2 : Int) ^ (8 * i) % 256 = ((UInt8.ofNat (8 * n / 2 ^ (8 * i))).toNat : Int) := by
  rw [UInt8.toNat_ofNat', Nat.mul_comm 8 n]
  simp
theorem stBytes_at (s : St) (j : Nat) (h : j < 32) : (stBytes s)[j]? = some (low8 (sr (24 - 8 * (j % 4)) (by32 (stL s) (j / 4)))) := by
  have h0 : ∀ x : R, sr 0 x = x := fun x => by unfold sr; rw [BitVec.ushiftRight_zero]
  match j, h with
  | 0, _ | 1, _ | 2, _ | 4, _ | 5, _ | 6, _ | 8, _ | 9, _ | 10, _ | 12, _ | 13, _ | 14, _ | 16, _ | 17, _ | 18, _ | 20, _ | 21, _ | 22, _ | 24, _ | 25, _ | 26, _ | 28, _ | 29, _ | 30, _ => rfl
  | 3, _ | 7, _ | 11, _ | 15, _ | 19, _ | 23, _ | 27, _ | 31, _ => show _ = some (low8 (sr 0 _)); rw [h0]; rfl
  | n + 32, h => omega
theorem stBytes_length (s : St) : (stBytes s).length = 32 := rfl
def outOf (l : List UInt8) (j : Nat) : List UInt8 := l.take j ++ zeroB (32 - j)
theorem info26 : (Try.prog.info? 32).map (fun i => (i.zero, i.size)) = some (some (.agg (bcells (zeroB 32))), 32) := by kernel_rfl
theorem outOf_at (l : List UInt8) (j : Nat) (hl : l.length = 32) (h : j < 32) : (bcells (outOf l j))[j]? = some (.int .u8 0) := by
  have : (outOf l j)[j]? = some 0 := by
    rw [outOf, List.getElem?_append_right (by rw [List.length_take]; omega), List.length_take, zeroB, List.getElem?_replicate]
    rw [if_pos (by omega)]
  simp [bcells, this, bv]
theorem outOf_set (l : List UInt8) (j : Nat) (b : UInt8) (hl : l.length = 32) (h : j < 32) (hb : l[j]? = some b) : (bcells (outOf l j)).setIfInBounds j (bv b) = bcells (outOf l (j + 1)) := by
  have : (outOf l j).set j b = outOf l (j + 1) := by
    have hz : zeroB (32 - j) = 0 :: zeroB (32 - (j + 1)) := by rw [zeroB, zeroB, show 32 - j = (32 - (j + 1)) + 1 by omega, List.replicate_succ]
    rw [outOf, outOf, hz, List.set_append_right _ _ (by rw [List.length_take]; omega), List.length_take, show j - min j l.length = 0 by omega, List.set_cons_zero, List.take_add_one, hb]
    simp
  rw [← this]; simp [bcells, List.map_set]

end Go.Proofs.Ytjgnbmkhibdcfaa
