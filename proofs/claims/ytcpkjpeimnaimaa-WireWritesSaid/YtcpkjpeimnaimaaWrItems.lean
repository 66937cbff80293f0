/- What a writer makes of a thing: plain functions, and what a draft comes to. -/
import Derived.Test.YtcpkjpeimnaimaaWrEnc
namespace Go.Proofs.Ytcpkjpeimnaimaa
open Go.RowKit

/-- a part of a thing: bytes, or a negative number -/
abbrev Item := Option (List UInt8)
def itemM (lim : Nat) (s : DS) : Item → DS
  | none => { s with neg := true }
  | some cs => putM lim s cs
def numI (n : Int) : Item := if n < 0 then none else some (enc n.toNat)
theorem numM_item (lim : Nat) (s : DS) (n : Int) : numM lim s n = itemM lim s (numI n) := by
  unfold numM numI
  split <;> rfl
def flat (l : List Item) : List UInt8 := l.flatMap fun i => i.getD []
def anyNeg (l : List Item) : Bool := l.any fun i => i.isNone
theorem putM_neg (lim : Nat) (s : DS) (cs : List UInt8) : (putM lim s cs).neg = s.neg := by
  unfold putM
  split <;> rfl
theorem putM_lng (lim : Nat) (s : DS) (cs : List UInt8) (h : s.lng = true) : (putM lim s cs).lng = true := by
  unfold putM
  have : (fitsM lim s cs.length).lng = true := by simp [fitsM, h]
  rw [if_pos this]; exact this
theorem items_neg (lim : Nat) (l : List Item) (s : DS) : (l.foldl (itemM lim) s).neg = (s.neg || anyNeg l) := by
  induction l generalizing s with
  | nil => simp [anyNeg]
  | cons i l ih =>
    rw [List.foldl_cons, ih]
    cases i with
    | none => simp [itemM, anyNeg]
    | some cs => simp [itemM, putM_neg, anyNeg]
theorem items_lng (lim : Nat) (l : List Item) (s : DS) (h : s.lng = true) : (l.foldl (itemM lim) s).lng = true := by
  induction l generalizing s with
  | nil => exact h
  | cons i l ih =>
    rw [List.foldl_cons]
    cases i with
    | none => exact ih _ h
    | some cs => exact ih _ (putM_lng lim s cs h)
theorem items_bs (lim : Nat) (l : List Item) (s : DS) (h : s.lng = false) (hn : anyNeg l = false) (hl : s.bs.length ≤ lim) :
    (l.foldl (itemM lim) s).lng = decide (lim < s.bs.length + (flat l).length) ∧ (¬ lim < s.bs.length + (flat l).length → (l.foldl (itemM lim) s).bs = s.bs ++ flat l) := by
  induction l generalizing s with
  | nil =>
    refine ⟨?_, fun _ => by simp [flat]⟩
    simp [flat, h, hl]
  | cons i l ih =>
    cases i with
    | none => simp [anyNeg] at hn
    | some cs =>
      have hn' : anyNeg l = false := by simpa [anyNeg] using hn
      have hf : flat (some cs :: l) = cs ++ flat l := by simp [flat]
      rw [List.foldl_cons, hf, List.length_append]
      by_cases hq : (fitsM lim s cs.length).lng = true
      · have hx : lim < cs.length + s.bs.length := by simpa [fitsM, h] using hq
        have hp : (itemM lim s (some cs)).lng = true := by show (putM lim s cs).lng = true; rw [putM, if_pos hq]; exact hq
        refine ⟨?_, fun hh => by omega⟩
        rw [items_lng lim l _ hp]
        symm
        simp; omega
      · have hx : ¬ lim < cs.length + s.bs.length := by simpa [fitsM, h] using hq
        have hp : itemM lim s (some cs) = { fitsM lim s cs.length with bs := s.bs ++ cs } := by show putM lim s cs = _; rw [putM, if_neg hq]
        have hlen : (itemM lim s (some cs)).bs.length = s.bs.length + cs.length := by rw [hp]; simp
        have := ih (itemM lim s (some cs)) (by rw [hp]; simpa using hq) hn' (by rw [hlen]; omega)
        rw [hlen] at this
        refine ⟨by rw [this.1, Nat.add_assoc], fun hh => ?_⟩
        rw [this.2 (by omega), hp]
        simp

/-- what a writer has, and its error -/
structure WS where
  bs : List UInt8
  e : Nat
def putW (lim : Nat) (s : WS) (l : List Item) : WS :=
  if s.e ≠ 0 then s else if anyNeg l then { s with e := 3 } else if lim < s.bs.length + (flat l).length then { s with e := 4 } else { s with bs := s.bs ++ flat l }
theorem draft_err (lim : Nat) (bs : List UInt8) (l : List Item) (hl : bs.length ≤ lim) :
    errM (l.foldl (itemM lim) ⟨bs, false, false⟩) = (putW lim ⟨bs, 0⟩ l).e ∧ ((putW lim ⟨bs, 0⟩ l).e = 0 → (l.foldl (itemM lim) ⟨bs, false, false⟩).bs = (putW lim ⟨bs, 0⟩ l).bs) ∧ ((putW lim ⟨bs, 0⟩ l).e ≠ 0 → (putW lim ⟨bs, 0⟩ l).bs = bs) := by
  have h1 := items_neg lim l ⟨bs, false, false⟩
  simp only [Bool.false_or] at h1
  unfold errM putW
  rw [h1]
  cases hn : anyNeg l
  · have h2 := items_bs lim l ⟨bs, false, false⟩ rfl hn hl
    simp only at h2
    rw [h2.1]
    by_cases hx : lim < bs.length + (flat l).length
    · simp [hx]
    · simp [hx, h2.2 hx]
  · simp
theorem putW_len (lim : Nat) (s : WS) (l : List Item) (h : s.bs.length ≤ lim) : (putW lim s l).bs.length ≤ lim := by
  unfold putW
  split
  · exact h
  · split
    · exact h
    · split
      · exact h
      · simp; omega
/-- the parts of a vector -/
theorem vecM_items (lim : Nat) (s : DS) (zs : List Int) : vecM lim s zs = (zs.map numI).foldl (itemM lim) s := by
  rw [vecM, List.foldl_map]
  congr 1
  funext s z
  exact numM_item lim s z
end Go.Proofs.Ytcpkjpeimnaimaa
