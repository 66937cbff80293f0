/- Sectors of a log as plain mathematics: what is in one, which bytes are one, what is read of a row of them. Nothing here speaks of a program. -/
import Derived.Test.YtiejndkchcljdaaMath
import Derived.Test.YtiejndkchcljdaaDvMem
namespace Go.Proofs.Ytiejndkchcljdaa
open Go.RowKit

/-- four bytes, the highest one first -/
def be4 (n : Nat) : List UInt8 := [UInt8.ofNat (n / 16777216), UInt8.ofNat (n / 65536), UInt8.ofNat (n / 256), UInt8.ofNat n]
def bodyL (gen idx k : Nat) (p : List UInt8) : List UInt8 := be4 gen ++ be4 idx ++ [UInt8.ofNat k, UInt8.ofNat p.length] ++ p ++ List.replicate (49 - p.length) 0 ++ [165]
/-- a sector of a log -/
def secL (gen idx k : Nat) (p : List UInt8) : List UInt8 := be4 (Crc.sum (bodyL gen idx k p)).toNat ++ bodyL gen idx k p
def kindL (s : List UInt8) : Nat := (s[12]?.getD 0).toNat
def sizeL (s : List UInt8) : Nat := (s[13]?.getD 0).toNat
def partL (s : List UInt8) : List UInt8 := (s.drop 14).take (sizeL s)
def allowsB (k n : Nat) : Bool := if k = 1 then decide (n ≤ 49) else if k = 2 ∨ k = 3 then decide (n = 49) else if k = 4 then decide (1 ≤ n ∧ n ≤ 49) else false
def validB (gen idx : Nat) (s : List UInt8) : Bool := allowsB (kindL s) (sizeL s) && s == secL gen idx (kindL s) (partL s)
def beginsB (k : Nat) : Bool := decide (k = 1 ∨ k = 2)
def endsB (k : Nat) : Bool := decide (k = 1 ∨ k = 4)
def kindN (i n : Nat) : Nat := if n = 1 then 1 else if i = 0 then 2 else if i = n - 1 then 4 else 3
def needN (n : Nat) : Nat := max 1 ((n + 48) / 49)
def chunksL : Nat → List UInt8 → List (List UInt8)
  | 0, _ => []
  | n + 1, l => l.take 49 :: chunksL n (l.drop 49)
def partsL (rec : List UInt8) : List (List UInt8) := chunksL (needN rec.length) rec
/-- the part i of a record -/
def partN (rec : List UInt8) (i : Nat) : List UInt8 := (rec.drop (i * 49)).take 49
/-- the i-th sector of a record that is written from an index on -/
def recSec (gen at_ : Nat) (rec : List UInt8) (i : Nat) : List UInt8 := secL gen (at_ + i) (kindN i (needN rec.length)) (partN rec i)
/-- what an area contains: the sectors from i on are looked at -/
def scanL (gen : Nat) (sec : Nat → List UInt8) : Nat → Nat → List UInt8 → List (List UInt8) → Nat → List (List UInt8) × Nat
  | 0, _, _, recs, e => (recs, e)
  | fuel + 1, i, rec, recs, e =>
    if validB gen i (sec i) = true ∧ beginsB (kindL (sec i)) = decide (i = e) then
      if endsB (kindL (sec i)) = true then
        if 1048576 < (rec ++ partL (sec i)).length then (recs, e) else scanL gen sec fuel (i + 1) [] (recs ++ [rec ++ partL (sec i)]) (i + 1)
      else scanL gen sec fuel (i + 1) (rec ++ partL (sec i)) recs e
    else (recs, e)

theorem be4_length (n : Nat) : (be4 n).length = 4 := rfl
theorem be4_inj {n m : Nat} (hn : n < 4294967296) (hm : m < 4294967296) (h : be4 n = be4 m) : n = m := by
  simp only [be4, List.cons.injEq, ← UInt8.toNat_inj, UInt8.toNat_ofNat', and_true] at h
  omega
theorem bodyL_length {gen idx k : Nat} {p : List UInt8} (h : p.length ≤ 49) : (bodyL gen idx k p).length = 60 := by
  simp [bodyL, be4_length]; omega
theorem secL_length {gen idx k : Nat} {p : List UInt8} (h : p.length ≤ 49) : (secL gen idx k p).length = 64 := by
  simp [secL, be4_length, bodyL_length h]
theorem secL_split (gen idx k : Nat) (p : List UInt8) : ∃ s : List UInt8, s.length = 4 ∧ secL gen idx k p = s ++ (be4 gen ++ (be4 idx ++ (UInt8.ofNat k :: UInt8.ofNat p.length :: (p ++ (List.replicate (49 - p.length) 0 ++ [165]))))) :=
  ⟨be4 (Crc.sum (bodyL gen idx k p)).toNat, rfl, by simp [secL, bodyL]⟩
theorem secL_gen (gen idx k : Nat) (p : List UInt8) : ((secL gen idx k p).drop 4).take 4 = be4 gen := by
  obtain ⟨s, hs, e⟩ := secL_split gen idx k p
  rw [e, List.drop_append_of_le_length (by omega), List.drop_of_length_le (by omega), List.nil_append, List.take_append_of_le_length (by simp [be4_length]), List.take_of_length_le (by simp [be4_length])]
theorem secL_idx (gen idx k : Nat) (p : List UInt8) : ((secL gen idx k p).drop 8).take 4 = be4 idx := by
  obtain ⟨s, hs, e⟩ := secL_split gen idx k p
  rw [e, ← List.append_assoc, List.drop_append_of_le_length (by simp [be4_length, hs]), List.drop_of_length_le (by simp [be4_length, hs]), List.nil_append, List.take_append_of_le_length (by simp [be4_length]), List.take_of_length_le (by simp [be4_length])]
theorem secL_tail (gen idx k : Nat) (p : List UInt8) : (secL gen idx k p).drop 12 = UInt8.ofNat k :: UInt8.ofNat p.length :: (p ++ (List.replicate (49 - p.length) 0 ++ [165])) := by
  obtain ⟨s, hs, e⟩ := secL_split gen idx k p
  rw [e, ← List.append_assoc, ← List.append_assoc, List.drop_append_of_le_length (by simp [be4_length, hs]), List.drop_of_length_le (by simp [be4_length, hs]), List.nil_append]
theorem secL_kind {gen idx k : Nat} {p : List UInt8} (hk : k < 256) : kindL (secL gen idx k p) = k := by
  have h := congrArg (·[0]?) (secL_tail gen idx k p)
  simp only [List.getElem?_drop, Nat.add_zero, List.getElem?_cons_zero] at h
  simp [kindL, h, Nat.mod_eq_of_lt hk]
theorem secL_size {gen idx k : Nat} {p : List UInt8} (h : p.length ≤ 49) : sizeL (secL gen idx k p) = p.length := by
  have h1 := congrArg (·[1]?) (secL_tail gen idx k p)
  simp only [List.getElem?_drop, List.getElem?_cons_succ, List.getElem?_cons_zero] at h1
  have : p.length < 256 := by omega
  simp [sizeL, h1, Nat.mod_eq_of_lt this]
theorem secL_part {gen idx k : Nat} {p : List UInt8} (h : p.length ≤ 49) : partL (secL gen idx k p) = p := by
  unfold partL
  rw [secL_size h, show 14 = 12 + 2 from rfl, ← List.drop_drop, secL_tail]
  simp
theorem valid_sec {gen idx k : Nat} {p : List UInt8} (hk : k < 256) (h : p.length ≤ 49) : validB gen idx (secL gen idx k p) = allowsB k p.length := by
  unfold validB
  rw [secL_kind hk, secL_size h, secL_part h]
  simp
theorem valid_eq {gen idx : Nat} {s : List UInt8} (h : validB gen idx s = true) : s = secL gen idx (kindL s) (partL s) := by
  unfold validB at h
  rw [Bool.and_eq_true] at h
  exact eq_of_beq h.2
theorem valid_allows {gen idx : Nat} {s : List UInt8} (h : validB gen idx s = true) : allowsB (kindL s) (sizeL s) = true := by
  unfold validB at h
  rw [Bool.and_eq_true] at h
  exact h.1
theorem allows_size {k n : Nat} (h : allowsB k n = true) : n ≤ 49 := by
  unfold allowsB at h
  split at h
  · simpa using h
  · split at h
    · simp at h; omega
    · split at h
      · simp at h; omega
      · cases h
theorem valid_gen {gen gen' idx idx' k : Nat} {p : List UInt8} (h1 : gen < 4294967296) (h2 : gen' < 4294967296) (h : validB gen' idx' (secL gen idx k p) = true) : gen' = gen := by
  have e := valid_eq h
  have := secL_gen gen idx k p
  rw [e, secL_gen] at this
  exact be4_inj h2 h1 this
theorem valid_idx {gen gen' idx idx' k : Nat} {p : List UInt8} (h1 : idx < 4294967296) (h2 : idx' < 4294967296) (h : validB gen' idx' (secL gen idx k p) = true) : idx' = idx := by
  have e := valid_eq h
  have := secL_idx gen idx k p
  rw [e, secL_idx] at this
  exact be4_inj h2 h1 this
theorem secL_last {gen idx k : Nat} {p : List UInt8} (h : p.length ≤ 49) : (secL gen idx k p)[63]? = some 165 := by
  have h1 := congrArg (·[51]?) (secL_tail gen idx k p)
  simp only [List.getElem?_drop] at h1
  rw [show 12 + 51 = 63 from rfl] at h1
  rw [h1]
  simp only [List.getElem?_cons_succ]
  rw [List.getElem?_append_right (by omega), List.getElem?_append_right (by simp)]
  simp only [List.length_replicate]
  rw [show 49 - p.length - (49 - p.length) = 0 by omega]; rfl
theorem partL_length {s : List UInt8} : (partL s).length ≤ sizeL s := by unfold partL; simp; omega
theorem valid_last {gen idx : Nat} {s : List UInt8} (h : validB gen idx s = true) : s[63]? = some 165 := by
  have h1 := allows_size (valid_allows h)
  have h2 := @partL_length s
  rw [valid_eq h]
  exact secL_last (by omega)
theorem not_valid {gen idx : Nat} {s : List UInt8} (h : s[63]? ≠ some 165) : validB gen idx s = false := by
  cases hv : validB gen idx s
  · rfl
  · exact absurd (valid_last hv) h
theorem not_valid_zeros (gen idx : Nat) : validB gen idx (List.replicate 64 0) = false := not_valid (by decide)

/-! ### what is read -/
theorem scan_stop {gen : Nat} {sec : Nat → List UInt8} {fuel i e : Nat} {rec : List UInt8} {recs : List (List UInt8)} (h : validB gen i (sec i) = false) : scanL gen sec fuel i rec recs e = (recs, e) := by
  cases fuel with
  | zero => rfl
  | succ n => unfold scanL; rw [if_neg (by simp [h])]
theorem partN_length (rec : List UInt8) (i : Nat) : (partN rec i).length = min 49 (rec.length - i * 49) := by simp [partN]
theorem need_pos (n : Nat) : 1 ≤ needN n := Nat.le_max_left _ _
theorem kindN_lt (i n : Nat) : kindN i n < 256 := by
  unfold kindN
  by_cases h1 : n = 1
  · rw [if_pos h1]; omega
  · rw [if_neg h1]
    by_cases h2 : i = 0
    · rw [if_pos h2]; omega
    · rw [if_neg h2]
      by_cases h3 : i = n - 1
      · rw [if_pos h3]; omega
      · rw [if_neg h3]; omega
theorem scan_succ (gen : Nat) (sec : Nat → List UInt8) (fuel i : Nat) (rec : List UInt8) (recs : List (List UInt8)) (e : Nat) : scanL gen sec (fuel + 1) i rec recs e =
    if validB gen i (sec i) = true ∧ beginsB (kindL (sec i)) = decide (i = e) then
      if endsB (kindL (sec i)) = true then
        if 1048576 < (rec ++ partL (sec i)).length then (recs, e) else scanL gen sec fuel (i + 1) [] (recs ++ [rec ++ partL (sec i)]) (i + 1)
      else scanL gen sec fuel (i + 1) (rec ++ partL (sec i)) recs e
    else (recs, e) := rfl
/-- which parts a record has, and of which kind -/
theorem part_kind {rec : List UInt8} {i : Nat} (hi : i < needN rec.length) : allowsB (kindN i (needN rec.length)) (partN rec i).length = true := by
  have hl := partN_length rec i
  have hn : needN rec.length = max 1 ((rec.length + 48) / 49) := rfl
  generalize (partN rec i).length = L at hl ⊢
  generalize needN rec.length = n at hi hn ⊢
  unfold kindN allowsB
  by_cases h1 : n = 1
  · simp [h1]; omega
  · rw [if_neg h1]
    by_cases h2 : i = 0
    · simp [h2]; omega
    · rw [if_neg h2]
      by_cases h3 : i = n - 1
      · rw [if_pos h3]; simp; omega
      · rw [if_neg h3]; simp; omega
theorem kind_begins {i n : Nat} : beginsB (kindN i n) = decide (i = 0 ∨ n = 1) := by
  unfold kindN beginsB
  by_cases h1 : n = 1
  · simp [h1]
  · by_cases h2 : i = 0
    · simp [h1, h2]
    · rw [if_neg h1, if_neg h2]
      by_cases h3 : i = n - 1
      · rw [if_pos h3, decide_eq_decide]; omega
      · rw [if_neg h3, decide_eq_decide]; omega
theorem kind_ends {i n : Nat} (hi : i < n) : endsB (kindN i n) = decide (i = n - 1) := by
  unfold kindN endsB
  by_cases h1 : n = 1
  · simp [h1]; omega
  · by_cases h2 : i = 0
    · simp [h1, h2]; omega
    · rw [if_neg h1, if_neg h2]
      by_cases h3 : i = n - 1
      · rw [if_pos h3, decide_eq_decide]; omega
      · rw [if_neg h3, decide_eq_decide]; omega
theorem take_part (rec : List UInt8) (i : Nat) : rec.take (i * 49) ++ partN rec i = rec.take ((i + 1) * 49) := by
  unfold partN
  rw [show (i + 1) * 49 = i * 49 + 49 by omega, List.take_add]
/-- a whole record is read -/
theorem scan_rec {gen : Nat} {sec : Nat → List UInt8} {rec : List UInt8} {recs : List (List UInt8)} {at_ : Nat} (fuel : Nat) (hr : rec.length ≤ 1048576) (hs : ∀ i, i < needN rec.length → sec (at_ + i) = recSec gen at_ rec i) :
    scanL gen sec (fuel + needN rec.length) at_ [] recs at_ = scanL gen sec fuel (at_ + needN rec.length) [] (recs ++ [rec]) (at_ + needN rec.length) := by
  have key : ∀ j, j < needN rec.length → scanL gen sec (fuel + needN rec.length - j) (at_ + j) (rec.take (j * 49)) recs at_ = scanL gen sec fuel (at_ + needN rec.length) [] (recs ++ [rec]) (at_ + needN rec.length) := by
    intro j hj
    obtain ⟨d, hd⟩ : ∃ d, needN rec.length - j = d + 1 := ⟨needN rec.length - j - 1, by omega⟩
    induction d generalizing j with
    | zero =>
      have hp := partN_length rec j
      have hlast : j = needN rec.length - 1 := by omega
      have hn : needN rec.length = max 1 ((rec.length + 48) / 49) := rfl
      rw [show fuel + needN rec.length - j = fuel + 1 by omega, scan_succ]
      have hse := hs j hj
      have hl49 : (partN rec j).length ≤ 49 := by omega
      rw [hse, recSec, valid_sec (kindN_lt _ _) hl49, part_kind hj, secL_kind (kindN_lt _ _), secL_part hl49, kind_begins, kind_ends hj, take_part]
      have hall : rec.take ((j + 1) * 49) = rec := List.take_of_length_le (by omega)
      rw [hall, if_pos ⟨rfl, by
        rw [decide_eq_decide]
        omega⟩, if_pos (by simp; exact hlast), if_neg (by omega), show at_ + j + 1 = at_ + needN rec.length by omega]
    | succ d ih =>
      have hp := partN_length rec j
      have hn : needN rec.length = max 1 ((rec.length + 48) / 49) := rfl
      rw [show fuel + needN rec.length - j = (fuel + needN rec.length - (j + 1)) + 1 by omega, scan_succ]
      have hse := hs j hj
      have hl49 : (partN rec j).length ≤ 49 := by omega
      rw [hse, recSec, valid_sec (kindN_lt _ _) hl49, part_kind hj, secL_kind (kindN_lt _ _), secL_part hl49, kind_begins, kind_ends hj, take_part, if_pos ⟨rfl, by
        rw [decide_eq_decide]
        omega⟩, if_neg (by simp; omega)]
      exact ih (j + 1) (by omega) (by omega)
  have := key 0 (need_pos _)
  simpa using this
/-- a record of which a sector is lacking is not read -/
theorem scan_torn {gen : Nat} {sec : Nat → List UInt8} {rec : List UInt8} {recs : List (List UInt8)} {at_ m : Nat} (fuel : Nat) (hm : m < needN rec.length) (hs : ∀ i, i < m → sec (at_ + i) = recSec gen at_ rec i) (hx : validB gen (at_ + m) (sec (at_ + m)) = false) :
    scanL gen sec fuel at_ [] recs at_ = (recs, at_) := by
  have key : ∀ j, j ≤ m → ∀ f, scanL gen sec f (at_ + j) (rec.take (j * 49)) recs at_ = (recs, at_) := by
    intro j hj
    obtain ⟨d, hd⟩ : ∃ d, m - j = d := ⟨_, rfl⟩
    induction d generalizing j with
    | zero =>
      intro f
      obtain rfl : j = m := by omega
      exact scan_stop hx
    | succ d ih =>
      intro f
      cases f with
      | zero => rfl
      | succ f =>
        have hp := partN_length rec j
        have hl49 : (partN rec j).length ≤ 49 := by omega
        rw [scan_succ, hs j (by omega), recSec, valid_sec (kindN_lt _ _) hl49, part_kind (by omega), secL_kind (kindN_lt _ _), secL_part hl49, kind_begins, kind_ends (by omega), take_part, if_pos ⟨rfl, by
          rw [decide_eq_decide]
          omega⟩, if_neg (by simp; omega)]
        exact ih (j + 1) (by omega) (by omega) f
  have := key 0 (by omega) fuel
  simpa using this
end Go.Proofs.Ytiejndkchcljdaa
