/- Texts of digests as plain mathematics: digits, texts, what is read of a text. Nothing here speaks of a program. -/
import Derived.Test.YtgbjnndebdmijaaDoorNums
import Derived.Test.YtgbjnndebdmijaaDoorShaBytes
import Derived.Lib.Bytealg
namespace Go.Proofs.YtgbjnndebdmijaaDoor
open Go.RowKit Crc
def hexL : List UInt8 := [48, 49, 50, 51, 52, 53, 54, 55, 56, 57, 97, 98, 99, 100, 101, 102]
def dgs (n : Nat) : UInt8 := hexL.getD n 0
def hi4 (b : UInt8) : Nat := b.toNat / 16
def lo4 (b : UInt8) : Nat := b.toNat % 16
theorem hi4_lt (b : UInt8) : hi4 b < 16 := by have := b.toNat_lt; unfold hi4; omega
theorem lo4_lt (b : UInt8) : lo4 b < 16 := by unfold lo4; omega
def two (b : UInt8) : List UInt8 := [dgs (hi4 b), dgs (lo4 b)]
def textB : List UInt8 → List UInt8
  | [] => []
  | b :: l => two b ++ textB l
theorem textB_append (l m : List UInt8) : textB (l ++ m) = textB l ++ textB m := by
  induction l with
  | nil => rfl
  | cons b l ih => rw [List.cons_append, textB, textB, ih, List.append_assoc]
theorem textB_length (l : List UInt8) : (textB l).length = 2 * l.length := by
  induction l with
  | nil => rfl
  | cons b l ih => rw [textB, List.length_append, ih, List.length_cons]; simp [two]; omega
theorem textB_take (l : List UInt8) (i : Nat) (x : UInt8) (h : l[i]? = some x) : textB (l.take (i + 1)) = textB (l.take i) ++ two x := by
  rw [List.take_add_one, h, textB_append]; rfl

def digitN (n : Nat) : Nat := if 48 ≤ n ∧ n ≤ 57 then n - 48 else if 97 ≤ n ∧ n ≤ 102 then n - 87 else 16
theorem digitN_le (n : Nat) : digitN n ≤ 16 := by unfold digitN; split <;> (try split) <;> omega
def hexI (c : UInt8) : Int := if digitN c.toNat = 16 then -1 else (digitN c.toNat : Int)
theorem all_bytes {p : UInt8 → Prop} (h : ∀ n : Fin 256, p (UInt8.ofNat n.val)) (c : UInt8) : p c := by
  have := h ⟨c.toNat, c.toNat_lt⟩
  simpa using this
theorem index_hex (c : UInt8) : Lib.indexByte hexL c = hexI c :=
  all_bytes (p := fun c => Lib.indexByte hexL c = hexI c) (by decide +kernel) c
theorem or_hex (a b : Nat) (ha : a < 16) (hb : b < 16) : bits .or .i64 ((a : Int) * 16) (b : Int) = ((16 * a + b : Nat) : Int) := by
  have h : ∀ a : Fin 16, ∀ b : Fin 16, bits .or .i64 ((a.val : Int) * 16) (b.val : Int) = ((16 * a.val + b.val : Nat) : Int) := by decide +kernel
  exact h ⟨a, ha⟩ ⟨b, hb⟩
theorem n_hi4 (b : UInt8) : (b.toNat : Int) / (16 : Int) = ((hi4 b : Nat) : Int) := by unfold hi4; omega
theorem n_lo4 (b : UInt8) : bits .and .u8 (b.toNat : Int) 15 = ((lo4 b : Nat) : Int) :=
  all_bytes (p := fun b => bits .and .u8 (b.toNat : Int) 15 = ((lo4 b : Nat) : Int)) (by decide +kernel) b

def readP : List UInt8 → Option (List UInt8)
  | a :: b :: l => if digitN a.toNat = 16 ∨ digitN b.toNat = 16 then none else (readP l).map (UInt8.ofNat (16 * digitN a.toNat + digitN b.toNat) :: ·)
  | _ => some []
def readB (l : List UInt8) : List UInt8 := if l.length = 64 then (readP l).getD (zeroB 32) else zeroB 32
def readE (l : List UInt8) : Int := if l.length = 64 then (if (readP l).isSome then 0 else 5) else 5
theorem readP_cons (a b : UInt8) (l : List UInt8) : readP (a :: b :: l) = if digitN a.toNat = 16 ∨ digitN b.toNat = 16 then none else (readP l).map (UInt8.ofNat (16 * digitN a.toNat + digitN b.toNat) :: ·) := rfl
theorem dgs_digit (n : Nat) (h : n < 16) : digitN (dgs n).toNat = n := by
  have h2 : ∀ n : Fin 16, digitN (dgs n.val).toNat = n.val := by decide +kernel
  exact h2 ⟨n, h⟩
theorem two_back (b : UInt8) : UInt8.ofNat (16 * digitN (dgs (hi4 b)).toNat + digitN (dgs (lo4 b)).toNat) = b := by
  rw [dgs_digit _ (hi4_lt b), dgs_digit _ (lo4_lt b)]
  have : 16 * hi4 b + lo4 b = b.toNat := by unfold hi4 lo4; omega
  rw [this]; simp
theorem read_text (l : List UInt8) : readP (textB l) = some l := by
  induction l with
  | nil => rfl
  | cons b l ih =>
    show readP (dgs (hi4 b) :: dgs (lo4 b) :: textB l) = _
    rw [readP_cons, if_neg, ih, two_back]
    · rfl
    · rw [dgs_digit _ (hi4_lt b), dgs_digit _ (lo4_lt b)]; have := hi4_lt b; have := lo4_lt b; omega
theorem two_read (a b : UInt8) (h : ¬ (digitN a.toNat = 16 ∨ digitN b.toNat = 16)) : two (UInt8.ofNat (16 * digitN a.toNat + digitN b.toNat)) = [a, b] := by
  have ha := digitN_le a.toNat; have hb := digitN_le b.toNat
  have e1 : hi4 (UInt8.ofNat (16 * digitN a.toNat + digitN b.toNat)) = digitN a.toNat := by unfold hi4; rw [UInt8.toNat_ofNat']; omega
  have e2 : lo4 (UInt8.ofNat (16 * digitN a.toNat + digitN b.toNat)) = digitN b.toNat := by unfold lo4; rw [UInt8.toNat_ofNat']; omega
  have back : ∀ c : UInt8, digitN c.toNat ≠ 16 → dgs (digitN c.toNat) = c := all_bytes (p := fun c => digitN c.toNat ≠ 16 → dgs (digitN c.toNat) = c) (by decide +kernel)
  rw [two, e1, e2, back a (fun e => h (.inl e)), back b (fun e => h (.inr e))]
theorem text_read : ∀ (n : Nat) (l m : List UInt8), l.length = 2 * n → readP l = some m → textB m = l ∧ m.length = n
  | 0, l, m, hl, h => by
    have : l = [] := List.eq_nil_of_length_eq_zero (by omega)
    subst this
    cases h
    exact ⟨rfl, rfl⟩
  | n + 1, a :: b :: l, m, hl, h => by
    rw [readP_cons] at h
    split at h
    · cases h
    · rename_i hh
      obtain ⟨m', hm, rfl⟩ := Option.map_eq_some_iff.1 h
      obtain ⟨h1, h2⟩ := text_read n l m' (by simp at hl; omega) hm
      exact ⟨by rw [textB, two_read a b hh, h1]; rfl, by simp [h2]⟩
  | n + 1, [], m, hl, h => by simp at hl
  | n + 1, [a], m, hl, h => by simp at hl; omega
end Go.Proofs.YtgbjnndebdmijaaDoor
