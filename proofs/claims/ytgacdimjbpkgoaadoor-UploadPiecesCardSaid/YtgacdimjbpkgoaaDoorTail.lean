/- The tail of a digest: the last bytes, 128, noughts, the number of bits. Nothing here speaks of a program. -/
import Derived.Test.YtgacdimjbpkgoaaDoorStream
import Derived.Test.YtgacdimjbpkgoaaDoorShaBytes
namespace Go.Proofs.YtgacdimjbpkgoaaDoor
open Go.RowKit Crc

def tailOf (d : List UInt8) (n e m : Nat) : List UInt8 := d ++ [128] ++ zeroB (e - 1 - d.length - m) ++ bitBytes n m ++ zeroB (128 - e)
theorem zeroB_length (n : Nat) : (zeroB n).length = n := by simp [zeroB]
theorem zeroB_add (a b : Nat) : zeroB (a + b) = zeroB a ++ zeroB b := by simp [zeroB, List.replicate_append_replicate]
theorem tailOf_length (d : List UInt8) (n e m : Nat) (hm : m ≤ 8) (he : d.length + 9 ≤ e) (he2 : e ≤ 128) : (tailOf d n e m).length = 128 := by
  simp only [tailOf, List.length_append, zeroB_length, bitBytes_length, List.length_cons, List.length_nil]; omega
theorem tailOf_start (d : List UInt8) (n e : Nat) (hd : d.length < 64) (he : d.length + 9 ≤ e) (he2 : e ≤ 128) : (spl (zeroB 128) 0 d).set d.length 128 = tailOf d n e 0 := by
  have h1 : spl (zeroB 128) 0 d = d ++ 0 :: zeroB (127 - d.length) := by
    rw [spl, List.take_zero, List.nil_append, Nat.zero_add]
    congr 1
    rw [zeroB, List.drop_replicate, show 128 - d.length = (127 - d.length) + 1 by omega, List.replicate_succ]; rfl
  rw [h1, List.set_append_right _ _ (Nat.le_refl _), Nat.sub_self, List.set_cons_zero, tailOf, bitBytes, List.append_nil, Nat.sub_zero, List.append_assoc, List.append_assoc, ← zeroB_add, show e - 1 - d.length + (128 - e) = 127 - d.length by omega]
  rfl
theorem tailOf_next (d : List UInt8) (n e m : Nat) (hm : m < 8) (he : d.length + 9 ≤ e) : (tailOf d n e m).set (e - 1 - m) (UInt8.ofNat (8 * n / 2 ^ (8 * m))) = tailOf d n e (m + 1) := by
  have h1 : zeroB (e - 1 - d.length - m) = zeroB (e - 1 - d.length - (m + 1)) ++ [0] := by
    rw [show e - 1 - d.length - m = (e - 1 - d.length - (m + 1)) + 1 by omega, zeroB_add]; rfl
  have h2 : (d ++ [128] ++ zeroB (e - 1 - d.length - (m + 1))).length = e - 1 - m := by
    simp only [List.length_append, zeroB_length, List.length_cons, List.length_nil]; omega
  have h3 : tailOf d n e m = (d ++ [128] ++ zeroB (e - 1 - d.length - (m + 1))) ++ 0 :: (bitBytes n m ++ zeroB (128 - e)) := by
    rw [tailOf, h1]; simp
  rw [h3, List.set_append_right _ _ (by omega), h2, Nat.sub_self, List.set_cons_zero, tailOf, bitBytes]
  simp
theorem tailOf_end (bs : List UInt8) (e : Nat) (he : e = if 64 < bs.length % 64 + 9 then 128 else 64) :
    (padded bs).drop (64 * (bs.length / 64)) = (tailOf (bs.drop (64 * (bs.length / 64))) bs.length e 8).take e := by
  have hd : (bs.drop (64 * (bs.length / 64))).length = bs.length % 64 := by rw [List.length_drop]; omega
  have hz : padZ bs.length = e - 1 - bs.length % 64 - 8 := by
    unfold padZ; split at he <;> omega
  have he9 : bs.length % 64 + 9 ≤ e := by split at he <;> omega
  have hl : (bs.drop (64 * (bs.length / 64)) ++ [128] ++ zeroB (e - 1 - bs.length % 64 - 8) ++ bitBytes bs.length 8).length = e := by
    simp only [List.length_append, zeroB_length, bitBytes_length, hd, List.length_cons, List.length_nil]; omega
  rw [tailOf, hd, List.take_append_of_le_length (by omega), List.take_of_length_le (by omega), padded, hz]
  rw [List.append_assoc, List.append_assoc, List.drop_append_of_le_length (by omega)]
  simp [zeroB]
theorem padded_len (bs : List UInt8) (e : Nat) (he : e = if 64 < bs.length % 64 + 9 then 128 else 64) : (padded bs).length = 64 * (bs.length / 64) + e := by
  rw [padded_length]; unfold padZ; split at he <;> omega
/-- the blocks of the tail -/
theorem tail_block (bs : List UInt8) (e j : Nat) (he : e = if 64 < bs.length % 64 + 9 then 128 else 64) (hj : 64 * (j + 1) ≤ e) :
    runBlocks (padded bs) (bs.length / 64 + (j + 1)) = blockR (runBlocks (padded bs) (bs.length / 64 + j)) (((tailOf (bs.drop (64 * (bs.length / 64))) bs.length e 8).drop (64 * j)).take 64) := by
  have h := congrArg (fun l => (l.drop (64 * j)).take 64) (tailOf_end bs e he)
  simp only [List.drop_drop] at h
  rw [← Nat.add_assoc, runBlocks, show 64 * (bs.length / 64 + j) = 64 * (bs.length / 64) + 64 * j by omega, h]
  congr 1
  rw [List.drop_take, List.take_take, show min 64 (e - 64 * j) = 64 by omega]
theorem tail_start (bs : List UInt8) : runBlocks (padded bs) (bs.length / 64 + 0) = runBlocks bs (bs.length / 64) := by
  rw [padded, List.append_assoc, List.append_assoc, Nat.add_zero, runBlocks_left _ _ _ (by omega)]
theorem tail_sha (bs : List UInt8) (e j : Nat) (he : e = if 64 < bs.length % 64 + 9 then 128 else 64) (hj : 64 * j = e) : sha bs = stBytes (runBlocks (padded bs) (bs.length / 64 + j)) := by
  rw [sha, padded_len bs e he]
  congr 2; omega
end Go.Proofs.YtgacdimjbpkgoaaDoor
