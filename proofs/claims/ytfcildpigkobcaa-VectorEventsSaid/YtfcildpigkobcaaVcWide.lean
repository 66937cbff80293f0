/- Contract: the law's wide. -/
import Derived.Test.YtfcildpigkobcaaVcLaw
namespace Go.Proofs.Ytfcildpigkobcaa
open Go Go.RowKit Go.Shelf

def wideV (zs : List Int) : Bool := zs.any fun z => decide (1125899906842624 < z)
theorem narrow_of {zs : List Int} (h : wideV zs = false) : narrow zs := fun z hz => by
  unfold wideV at h
  rw [List.any_eq_false] at h
  have := h z hz
  simpa using this
set_option maxHeartbeats 1000000 in
theorem wide_calls (n c : Nat) (A : Option Addr) (zs : List Int) (w : World) (h : NI w A n zs) (hn : n ≤ 1000000) :
    Calls Try.prog 36 #[.slice A n c] w fun e w' => e = .returned (.bool (wideV zs)) ∧ w = w' := by
  have hl := h.1
  have HH := hid h
  have HE := hid (show zs.take n = zs from List.take_of_length_le (by omega))
  clear h hl
  go_enter Try.func36, Try.ntmps36
  go_wp2_with fail
  go_loop [3] (fun i => ∃ k : Nat, k ≤ n ∧ i = .int .i64 (k : Int) ∧ Hid ((zs.take k).any (fun z => decide (1125899906842624 < z)) = false)) (fun i => n - (intOf i).toNat)
  case atStart => exact ⟨0, Nat.zero_le _, rfl, hid rfl⟩
  case round =>
    obtain ⟨k, hk, rfl, HA⟩ := hrel
    by_cases hlt : k < n
    · have hlt' : (k : Int) < (n : Int) := by omega
      obtain ⟨b, off, z, rfl, hz, hc⟩ := HH.out.at_ hlt
      by_cases hg : 1125899906842624 < z
      · have HW := hid (show wideV zs = true from by
          unfold wideV
          exact List.any_eq_true.2 ⟨z, List.mem_of_getElem? hz, by simpa using hg⟩)
        clear hz
        go_wp2_with fail
        go_ret
        exact ⟨ret_bool HW.out.symm, rfl⟩
      · have HA2 := hid (show (zs.take (k + 1)).any (fun z => decide (1125899906842624 < z)) = false from by
          rw [List.take_add_one, hz, List.any_append, HA.out]
          simp
          omega)
        clear hz
        go_wp2_with fail
        go_round
        case rel => exact ⟨k + 1, hlt, by go_num, HA2⟩
        case measure => simp [intOf]; omega
    · obtain rfl : k = n := by omega
      have HW := hid (show wideV zs = false from by
        have := HA.out
        rw [HE.out] at this
        exact this)
      go_wp2_with fail
      go_ret
      exact ⟨ret_bool HW.out.symm, rfl⟩
end Go.Proofs.Ytfcildpigkobcaa
