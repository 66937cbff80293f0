/- Contract: the reference's digit. -/
import Derived.Test.YtajojeajibonpaaDoorNums
import Derived.Test.YtajojeajibonpaaDoorKit0
import Derived.Test.YtajojeajibonpaaDoorHex
namespace Go.Proofs.YtajojeajibonpaaDoor
open Go.RowKit Crc
theorem digit_calls (n : Nat) (w : World) (hn : n < 256) :
    Calls Tryd.prog 39 #[.int .u8 (n : Int)] w fun e w' => e = .returned (.int .u8 (digitN n : Int)) ∧ w' = w := by
  by_cases h1 : 48 ≤ n
  · by_cases h2 : n ≤ 57
    · have a1 : (48 : Int) ≤ (n : Int) := by omega
      have a2 : (n : Int) ≤ 57 := by omega
      have a3 : ((n : Int) - 48) % 256 = (n : Int) - 48 := by omega
      have e : (digitN n : Int) = (n : Int) - 48 := by rw [digitN, if_pos ⟨h1, h2⟩]; omega
      rw [e]
      go_enter Tryd.func39, Tryd.ntmps39
      go_wp2_with fail
      go_ret
      exact ⟨rfl, rfl⟩
    · by_cases h3 : 97 ≤ n ∧ n ≤ 102
      · have a1 : (48 : Int) ≤ (n : Int) := by omega
        have a2 : ¬ (n : Int) ≤ 57 := by omega
        have a4 : (97 : Int) ≤ (n : Int) := by omega
        have a5 : (n : Int) ≤ 102 := by omega
        have a3 : ((n : Int) - 97) % 256 = (n : Int) - 97 := by omega
        have a6 : ((n : Int) - 97 + 10) % 256 = (n : Int) - 97 + 10 := by omega
        have e : (digitN n : Int) = (n : Int) - 97 + 10 := by rw [digitN, if_neg (by omega), if_pos h3]; omega
        rw [e]
        go_enter Tryd.func39, Tryd.ntmps39
        go_wp2_with fail
        go_ret
        exact ⟨rfl, rfl⟩
      · have a1 : (48 : Int) ≤ (n : Int) := by omega
        have a2 : ¬ (n : Int) ≤ 57 := by omega
        have e : (digitN n : Int) = 16 := by rw [digitN, if_neg (by omega), if_neg h3]; rfl
        rw [e]
        by_cases h4 : 97 ≤ n
        · have a4 : (97 : Int) ≤ (n : Int) := by omega
          have a5 : ¬ (n : Int) ≤ 102 := by omega
          go_enter Tryd.func39, Tryd.ntmps39
          go_wp2_with fail
          go_ret
          exact ⟨rfl, rfl⟩
        · have a4 : ¬ (97 : Int) ≤ (n : Int) := by omega
          go_enter Tryd.func39, Tryd.ntmps39
          go_wp2_with fail
          go_ret
          exact ⟨rfl, rfl⟩
  · have a1 : ¬ (48 : Int) ≤ (n : Int) := by omega
    have a4 : ¬ (97 : Int) ≤ (n : Int) := by omega
    have e : (digitN n : Int) = 16 := by rw [digitN, if_neg (by omega), if_neg (by omega)]; rfl
    rw [e]
    go_enter Tryd.func39, Tryd.ntmps39
    go_wp2_with fail
    go_ret
    exact ⟨rfl, rfl⟩
end Go.Proofs.YtajojeajibonpaaDoor
