/- How many sectors records have, as the reference says it; the law LogNeeds, walked. -/
import Derived.Test.YtafoimlmiakmcaaLgKnown
namespace Go.Proofs.Ytafoimlmiakmcaa
open Go.RowKit

theorem refNeed_calls (n : Int) (w : World) : Calls Try.prog 39 #[.int .i64 n] w fun e w' => e = .returned (.int .i64 (needE n : Int)) ∧ w = w' := by
  by_cases h0 : n < 0
  · have HE := hid (show needE n = 0 from if_pos (.inl h0))
    go_enter Try.func39, Try.ntmps39
    go_wp2_with fail
    go_ret
    exact ⟨by rw [HE.out]; rfl, rfl⟩
  by_cases h1 : 1048576 < n
  · have HE := hid (show needE n = 0 from if_pos (.inr h1))
    go_enter Try.func39, Try.ntmps39
    go_wp2_with fail
    go_ret
    exact ⟨by rw [HE.out]; rfl, rfl⟩
  by_cases hz : n = 0
  · subst hz
    have HE := hid (show needE 0 = 1 from by decide +kernel)
    clear h0 h1
    go_enter Try.func39, Try.ntmps39
    go_wp2_with fail
    go_ret
    exact ⟨by rw [HE.out]; rfl, rfl⟩
  · have e1 : IntKind.i64.wrap (n + 49) = n + 49 := IntWalk.i64_in _ (by omega)
    have e2 : IntKind.i64.wrap (n + 49 - 1) = n + 48 := by rw [show n + 49 - 1 = n + 48 by omega]; exact IntWalk.i64_in _ (by omega)
    have e4 : (n + 48).tdiv 49 = (n + 48) / 49 := Int.tdiv_eq_ediv_of_nonneg (by omega)
    have e3 : IntKind.i64.wrap ((n + 48).tdiv 49) = (n + 48) / 49 := by rw [e4]; exact IntWalk.i64_in _ (by omega)
    have HX := hid (show needE n = needN n.toNat from if_neg (by omega))
    have HN := hid (show needN n.toNat = max 1 ((n.toNat + 48) / 49) from rfl)
    clear e4
    go_enter Try.func39, Try.ntmps39
    go_wp2_with fail
    go_ret
    refine ⟨ret_int ?_, rfl⟩
    rw [HX.out, HN.out]; omega
theorem needs_calls (n : Int) (w : World) : Calls Try.prog 4 #[.int .i64 n] w fun e w' => e = .returned (.bool true) ∧ Below w.heap.size w w' := by
  have H1 := hid (fun w => need_calls n w)
  have H2 := hid (fun w => refNeed_calls n w)
  generalize needE n = E at H1 H2
  go_enter Try.func4, Try.ntmps4
  go_wp2_with fail
  refine (H1.out w).mono ?_
  rintro _ _ ⟨rfl, rfl⟩
  go_wp2_with fail
  refine (H2.out w).mono ?_
  rintro _ _ ⟨rfl, rfl⟩
  go_wp2_with fail
  refine (awake_calls w).mono ?_
  rintro _ w1 ⟨rfl, h⟩
  have H := hid h
  clear h
  go_wp2_with fail
  go_ret
  exact ⟨rfl, H.out⟩
end Go.Proofs.Ytafoimlmiakmcaa
