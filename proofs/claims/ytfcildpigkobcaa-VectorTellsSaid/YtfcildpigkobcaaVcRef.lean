/- Contracts of the reference: Join, Meet, Leq, Same, Weight, Less. -/
import Derived.Test.YtfcildpigkobcaaVcLess
namespace Go.Proofs.Ytfcildpigkobcaa
open Go Go.RowKit Go.Shelf

theorem range_take (num : Nat → Int) (k : Nat) : (List.range (k + 1)).map num = (List.range k).map num ++ [num k] := by rw [List.range_succ, List.map_append]; rfl
set_option maxHeartbeats 2000000 in
theorem rLeq_calls (n1 c1 n2 c2 : Nat) (A1 A2 : Option Addr) (v1 v2 : List Int) (w : World) (h1 : NI w A1 n1 v1) (h2 : NI w A2 n2 v2) (hn1 : n1 ≤ 1000000) (hn2 : n2 ≤ 1000000) :
    Calls Try.prog 24 #[.slice A1 n1 c1, .slice A2 n2 c2] w fun e w' => e = .returned (.bool (leqV v1 v2)) ∧ w = w' := by
  have hl1 := h1.1; have hl2 := h2.1
  have HV := hid (fun k => rAt_calls n1 c1 A1 v1 ((k : Nat) + 1 : Int) w h1 (by omega))
  have HU := hid (fun k => rAt_calls n2 c2 A2 v2 ((k : Nat) + 1 : Int) w h2 (by omega))
  have HT := hid (show ((List.range n1).all fun i => decide (nth v1 i ≤ nth v2 i)) = true → leqV v1 v2 = true from fun h => by
    unfold leqV
    rw [List.all_eq_true] at h ⊢
    intro i _
    by_cases hi : i < n1
    · exact h i (List.mem_range.2 hi)
    · rw [nth_far (zs := v1) (by omega)]
      have := nth_nonneg v2 i
      simpa using this)
  have HF := hid (show ∀ k, k < n1 → nth v2 k < nth v1 k → leqV v1 v2 = false from fun k hk h => by
    unfold leqV
    rw [List.all_eq_false]
    exact ⟨k, List.mem_range.2 (by omega), by simp; omega⟩)
  clear h1 h2 hl1 hl2
  go_enter Try.func24, Try.ntmps24
  go_wp2_with fail
  go_loop [5] (fun i => ∃ k : Nat, k ≤ n1 ∧ i = .int .i64 ((k : Int) + 1) ∧ Hid (((List.range k).all fun i => decide (nth v1 i ≤ nth v2 i)) = true)) (fun i => n1 + 1 - (intOf i).toNat)
  case atStart => exact ⟨0, Nat.zero_le _, rfl, hid rfl⟩
  case round =>
    obtain ⟨k, hk, rfl, HA⟩ := hrel
    by_cases hlt : k < n1
    · have hlt' : (k : Int) + 1 ≤ (n1 : Int) := by omega
      have HC1 := hid (HV.out k); have HC2 := hid (HU.out k)
      rw [atV_nat] at HC1 HC2
      obtain ⟨x, hx⟩ : ∃ x, nth v1 k = x := ⟨_, rfl⟩
      obtain ⟨y, hy⟩ : ∃ y, nth v2 k = y := ⟨_, rfl⟩
      rw [hx] at HC1
      rw [hy] at HC2
      have HX := hid hx; have HY := hid hy
      clear hx hy
      have hwr : IntKind.i64.wrap ((k : Int) + 1 + 1) = (k : Int) + 1 + 1 := IntWalk.i64_in _ (by omega)
      by_cases hg : y < x
      · have HE := hid (HF.out k hlt (by rw [HX.out, HY.out]; exact hg))
        go_wp2_with fail
        refine HC1.out.mono ?_
        rintro e W1 ⟨rfl, rfl⟩
        go_wp2_with fail
        refine HC2.out.mono ?_
        rintro e W1 ⟨rfl, rfl⟩
        go_wp2_with fail
        go_ret
        exact ⟨ret_bool HE.out.symm, rfl⟩
      · have HA2 := hid (show ((List.range (k + 1)).all fun i => decide (nth v1 i ≤ nth v2 i)) = true from by
          rw [List.range_succ, List.all_append, HA.out]
          simp [HX.out, HY.out]
          omega)
        go_wp2_with fail
        refine HC1.out.mono ?_
        rintro e W1 ⟨rfl, rfl⟩
        go_wp2_with fail
        refine HC2.out.mono ?_
        rintro e W1 ⟨rfl, rfl⟩
        go_wp2_with fail
        go_round
        case rel => exact ⟨k + 1, hlt, by go_num, HA2⟩
        case measure => simp [intOf]; omega
    · obtain rfl : k = n1 := by omega
      have HE := hid (HT.out HA.out)
      go_wp2_with fail
      go_ret
      exact ⟨ret_bool HE.out.symm, rfl⟩
theorem rSame_calls (n1 c1 n2 c2 : Nat) (A1 A2 : Option Addr) (v1 v2 : List Int) (w : World) (h1 : NI w A1 n1 v1) (h2 : NI w A2 n2 v2) (hn1 : n1 ≤ 1000000) (hn2 : n2 ≤ 1000000) :
    Calls Try.prog 26 #[.slice A1 n1 c1, .slice A2 n2 c2] w fun e w' => e = .returned (.bool (leqV v1 v2 && leqV v2 v1)) ∧ w = w' := by
  have HC := hid (rLeq_calls n1 c1 n2 c2 A1 A2 v1 v2 w h1 h2 hn1 hn2)
  have HD := hid (rLeq_calls n2 c2 n1 c1 A2 A1 v2 v1 w h2 h1 hn2 hn1)
  clear h1 h2
  go_enter Try.func26, Try.ntmps26
  go_wp2_with fail
  refine HC.out.mono ?_
  rintro e W1 ⟨rfl, rfl⟩
  cases hq : leqV v1 v2 with
  | false =>
    have HE := hid (show (leqV v1 v2 && leqV v2 v1) = false from by rw [hq]; rfl)
    clear hq
    go_wp2_with fail
    go_ret
    exact ⟨ret_bool HE.out.symm, rfl⟩
  | true =>
    have HE := hid (show (leqV v1 v2 && leqV v2 v1) = leqV v2 v1 from by rw [hq]; rfl)
    clear hq
    go_wp2_with fail
    refine HD.out.mono ?_
    rintro e W2 ⟨rfl, rfl⟩
    obtain ⟨b2, hb2⟩ : ∃ b2, leqV v2 v1 = b2 := ⟨_, rfl⟩
    have HE2 := hid (HE.out.trans hb2)
    rw [hb2]
    clear hb2
    go_wp2_with fail
    go_ret
    exact ⟨ret_bool HE2.out.symm, rfl⟩
end Go.Proofs.Ytfcildpigkobcaa
