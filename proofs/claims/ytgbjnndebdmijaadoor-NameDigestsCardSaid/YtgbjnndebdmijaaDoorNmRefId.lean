/- Contract: the reference's ID. -/
import Derived.Test.YtgbjnndebdmijaaDoorNmOwnId
import Derived.Test.YtgbjnndebdmijaaDoorQuietC
import Derived.Test.YtgbjnndebdmijaaDoorNums
namespace Go.Proofs.YtgbjnndebdmijaaDoor
open Go.RowKit

theorem refDigit (n : Nat) (hn : n < 256) (w : World) : Calls Tryd.prog 16 #[.int .u8 (n : Int)] w fun e w' => e = .returned (.int .i64 (hexv (n : Int))) ∧ w = w' := by
  have h0 : (0 : Int) ≤ (n : Int) := by omega
  have h1 : (n : Int) ≤ 255 := by omega
  by_cases a : 48 ≤ (n : Int)
  · by_cases b : (n : Int) ≤ 57
    · have hv : hexv (n : Int) = (n : Int) - 48 := by unfold hexv; rw [if_pos ⟨a, b⟩]
      have u : IntKind.u8.wrap ((n : Int) - 48) = (n : Int) - 48 := by have h : ((n : Int) - 48) % 256 = (n : Int) - 48 := by omega
                                                                       exact h
      rw [hv]
      clear hv
      go_enter Tryd.func16, Tryd.ntmps16
      go_wp2_with fail
      go_ret
      exact ⟨rfl, rfl⟩
    · by_cases c : 97 ≤ (n : Int)
      · by_cases d : (n : Int) ≤ 102
        · have hv : hexv (n : Int) = (n : Int) - 97 + 10 := by unfold hexv; rw [if_neg (by omega), if_pos ⟨c, d⟩]; omega
          have u : IntKind.u8.wrap ((n : Int) - 97) = (n : Int) - 97 := by have h : ((n : Int) - 97) % 256 = (n : Int) - 97 := by omega
                                                                           exact h
          rw [hv]
          clear hv
          go_enter Tryd.func16, Tryd.ntmps16
          go_wp2_with fail
          go_ret
          exact ⟨ret_int rfl, rfl⟩
        · have hv : hexv (n : Int) = -1 := by unfold hexv; rw [if_neg (by omega), if_neg (by omega)]
          rw [hv]
          clear hv
          go_enter Tryd.func16, Tryd.ntmps16
          go_wp2_with fail
          go_ret
          exact ⟨rfl, rfl⟩
      · have hv : hexv (n : Int) = -1 := by unfold hexv; rw [if_neg (by omega), if_neg (by omega)]
        have c2 : decide (97 ≤ (n : Int)) = false := by simpa using c
        rw [hv]
        clear hv
        go_enter Tryd.func16, Tryd.ntmps16
        go_wp2_with fail
        go_ret
        exact ⟨rfl, rfl⟩
  · have hv : hexv (n : Int) = -1 := by unfold hexv; rw [if_neg (by omega), if_neg (by omega)]
    have c2 : decide (97 ≤ (n : Int)) = false := by simp; omega
    have c3 : ¬ 97 ≤ (n : Int) := by omega
    have a2 : decide (48 ≤ (n : Int)) = false := by simpa using a
    rw [hv]
    clear hv
    go_enter Tryd.func16, Tryd.ntmps16
    go_wp2_with fail
    go_ret
    exact ⟨rfl, rfl⟩
theorem refEnds (e p : Int) (w : World) : Calls Tryd.prog 17 #[.int .i64 e, .int .i64 p] w fun r w' => r = .returned (.agg #[.int .i64 e, .int .i64 p]) ∧ Below w.heap.size w w' := by
  have hz := (zero_of_info infoFault).1
  go_enter Tryd.func17, Tryd.ntmps17
  go_wp2_with fail
  exact bodyPost_ret (v := .agg #[.int .i64 e, .int .i64 p]) (by simp [results, Tryd.results17, go_sem]) rfl ⟨rfl, below_new w _⟩
/-! ### the reference's bytes, digit by digit -/
def nib2 (l : List UInt8) (n j : Nat) : UInt8 :=
  if 2 * j + 1 < n then UInt8.ofNat (hx l (2 * j) * 16 + hx l (2 * j + 1)) else if 2 * j < n then UInt8.ofNat (hx l (2 * j)) else 0
def id2At (l : List UInt8) (n : Nat) : List UInt8 := (List.range 32).map (nib2 l n)
theorem hx_le (l : List UInt8) (i : Nat) : hx l i ≤ 15 := by unfold hx; have := hexv_le ((l.getD (7 + i) 0).toNat : Int); omega
theorem id2At_length (l : List UInt8) (n : Nat) : (id2At l n).length = 32 := by simp [id2At]
theorem id2At_get (l : List UInt8) (n j : Nat) (hj : j < 32) : (id2At l n)[j]? = some (nib2 l n j) := by simp [id2At, hj]
theorem nib2_low (l : List UInt8) (n : Nat) : (nib2 l n (n / 2)).toNat ≤ 15 := by
  unfold nib2
  rw [if_neg (by omega)]
  split
  · rw [UInt8.toNat_ofNat']; have := hx_le l (2 * (n / 2)); omega
  · decide
theorem id2At_set (l : List UInt8) (n : Nat) (hn : n < 64) : (id2At l n).set (n / 2) (UInt8.ofNat ((nib2 l n (n / 2)).toNat * 16 + hx l n)) = id2At l (n + 1) := by
  apply List.ext_getElem?
  intro i
  rw [List.getElem?_set]
  by_cases h : n / 2 = i
  · rw [if_pos h, if_pos (by rw [id2At_length]; omega), id2At_get _ _ _ (by omega)]
    congr 1
    subst h
    unfold nib2
    by_cases q : n % 2 = 0
    · rw [if_neg (by omega), if_neg (by omega), if_neg (by omega), if_pos (by omega), show 2 * (n / 2) = n by omega]
      simp
    · have e : 2 * (n / 2) + 1 = n := by omega
      rw [if_neg (by omega), if_pos (by omega), if_pos (by omega), e, UInt8.toNat_ofNat']
      have := hx_le l (2 * (n / 2))
      rw [Nat.mod_eq_of_lt (by omega)]
  · rw [if_neg h]
    by_cases hi : i < 32
    · rw [id2At_get _ _ _ hi, id2At_get _ _ _ hi]
      congr 1
      unfold nib2
      by_cases h1 : 2 * i + 1 < n
      · rw [if_pos h1, if_pos (by omega)]
      · rw [if_neg h1, if_neg (by omega), if_neg (by omega), if_neg (by omega)]
    · rw [List.getElem?_eq_none (by rw [id2At_length]; omega), List.getElem?_eq_none (by rw [id2At_length]; omega)]
theorem or_add : ∀ a b : Fin 16, UInt8.ofNat (a.val * 16) ||| UInt8.ofNat b.val = UInt8.ofNat (a.val * 16 + b.val) := by decide +kernel
theorem id2At_all (l : List UInt8) : id2At l 64 = idAt l 64 := by
  apply List.ext_getElem?
  intro i
  by_cases hi : i < 32
  · rw [id2At_get _ _ _ hi, idAt_get _ _ _ hi]
    congr 1
    unfold nib nib2
    rw [if_pos (by omega), if_pos (by omega)]
    have h1 := hx_le l (2 * i); have h2 := hx_le l (2 * i + 1)
    exact (or_add ⟨hx l (2 * i), by omega⟩ ⟨hx l (2 * i + 1), by omega⟩).symm
  · rw [List.getElem?_eq_none (by rw [id2At_length]; omega), List.getElem?_eq_none (by rw [idAt_length]; omega)]
theorem id2At_none (l : List UInt8) : id2At l 0 = List.replicate 32 0 := by
  apply List.ext_getElem?
  intro i
  by_cases hi : i < 32
  · rw [id2At_get _ _ _ hi, List.getElem?_replicate, if_pos hi]; rfl
  · rw [List.getElem?_eq_none (by rw [id2At_length]; omega), List.getElem?_eq_none (by simp; omega)]
end Go.Proofs.YtgbjnndebdmijaaDoor
