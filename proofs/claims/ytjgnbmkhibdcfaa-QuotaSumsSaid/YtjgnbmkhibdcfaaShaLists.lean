/- Lists of words: what stands in the rows of a block's walk. Nothing here speaks of a program. -/
import Derived.Test.YtjgnbmkhibdcfaaShaMath
import Derived.Test.YtjgnbmkhibdcfaaWCells
namespace Go.Proofs.Ytjgnbmkhibdcfaa
open Go.RowKit Crc

def stL (s : St) : List R := [s.a, s.b, s.c, s.d, s.e, s.f, s.g, s.h]
/-- the words of a block, k of them read; the others nought -/
def wsOf (blk : List UInt8) (k : Nat) : List R := words blk k ++ zeroW (64 - k)
theorem wsOf_length (blk : List UInt8) (k : Nat) (hk : k ≤ 64) : (wsOf blk k).length = 64 := by
  rw [wsOf, List.length_append, words_length, zeroW_length]; omega
theorem set_next {l : List R} {k n : Nat} (x : R) (hl : l.length = k) (hk : k < n) : (l ++ zeroW (n - k)).set k x = (l ++ [x]) ++ zeroW (n - (k + 1)) := by
  subst hl
  rw [List.set_append_right _ _ (Nat.le_refl _), Nat.sub_self, show n - l.length = (n - (l.length + 1)) + 1 by omega, zeroW, List.replicate_succ, List.set_cons_zero, List.append_assoc]
  rfl
theorem wsOf_next (blk : List UInt8) (k : Nat) (hk : k < 64) : (wsOf blk k).set k (wordAt blk k) = wsOf blk (k + 1) := by
  unfold wsOf; rw [set_next _ (words_length blk k) hk]; rfl

/-- the 64 words, those below j made; the others nought -/
def wjOf (blk : List UInt8) (j : Nat) : List R := wl (words blk 16) (j - 16) ++ zeroW (64 - j)
theorem wj_len (blk : List UInt8) (j : Nat) (h : 16 ≤ j) : (wl (words blk 16) (j - 16)).length = j := by
  rw [wl_length, words_length]; omega
theorem wjOf_length (blk : List UInt8) (j : Nat) (h : 16 ≤ j) (hj : j ≤ 64) : (wjOf blk j).length = 64 := by
  rw [wjOf, List.length_append, wj_len blk j h, zeroW_length]; omega
theorem wjOf_start (blk : List UInt8) : wsOf blk 16 = wjOf blk 16 := rfl
theorem wjOf_at (blk : List UInt8) (j i : Nat) (h : 16 ≤ j) (hi : i < j) : by32 (wjOf blk j) i = by32 (wl (words blk 16) (j - 16)) i := by
  unfold wjOf; exact by32_left (by rw [wj_len blk j h]; exact hi)
theorem wjOf_next (blk : List UInt8) (j : Nat) (h : 16 ≤ j) (hj : j < 64) :
    (wjOf blk j).set j (ad (ad (ad (by32 (wjOf blk j) (j - 16)) (smallS (by32 (wjOf blk j) (j - 15)))) (by32 (wjOf blk j) (j - 7))) (smallT (by32 (wjOf blk j) (j - 2)))) = wjOf blk (j + 1) := by
  rw [wjOf_at blk j _ h (by omega), wjOf_at blk j _ h (by omega), wjOf_at blk j _ h (by omega), wjOf_at blk j _ h (by omega)]
  unfold wjOf
  rw [set_next _ (wj_len blk j h) hj, show j + 1 - 16 = (j - 16) + 1 by omega, wl]
  congr 3
  unfold wnext
  rw [show 16 + (j - 16) = j by omega]
theorem wjOf_end (blk : List UInt8) : wjOf blk 64 = sched blk := by
  unfold wjOf sched; simp [zeroW]

/-- eight words, the first m of them with others added -/
def addL (x y : List R) (m : Nat) : List R := (List.range 8).map fun i => if i < m then ad (by32 x i) (by32 y i) else by32 x i
theorem addL_length (x y : List R) (m : Nat) : (addL x y m).length = 8 := by simp [addL]
theorem addL_at (x y : List R) (m : Nat) (h : m < 8) : by32 (addL x y m) m = by32 x m := by
  simp [by32, addL, List.getD, h]
theorem addL_next (x y : List R) (m : Nat) (h : m < 8) : (addL x y m).set m (ad (by32 x m) (by32 y m)) = addL x y (m + 1) := by
  apply List.ext_getElem?
  intro i
  rw [List.getElem?_set, addL_length]
  by_cases hi : i < 8
  · by_cases e : m = i
    · subst e; simp [addL, h]
    · rw [if_neg e]
      simp only [addL, List.getElem?_map, List.getElem?_range hi, Option.map_some]
      by_cases g : i < m
      · rw [if_pos g, if_pos (by omega)]
      · rw [if_neg g, if_neg (by omega)]
  · rw [List.getElem?_eq_none (by rw [addL_length]; omega), List.getElem?_eq_none (by rw [addL_length]; omega)]
    rw [if_neg (by omega)]
theorem addL_start (s t : St) : addL (stL s) (stL t) 0 = stL s := by
  simp [addL, List.range, List.range.loop, by32, stL, List.getD]
theorem addL_end (s t : St) : addL (stL s) (stL t) 8 = stL (addSt s t) := by
  simp [addL, List.range, List.range.loop, by32, stL, List.getD, addSt]

end Go.Proofs.Ytjgnbmkhibdcfaa
