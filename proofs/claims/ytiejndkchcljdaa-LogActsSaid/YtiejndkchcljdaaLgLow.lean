/- Contracts: what a log asks of areas, numbers, kinds and sectors. -/
import Derived.Test.YtiejndkchcljdaaDvOne
import Derived.Test.YtiejndkchcljdaaLgMath
namespace Go.Proofs.Ytiejndkchcljdaa
open Go.RowKit

/-- an area -/
structure AR where
  a : Int
  b : Int
  g : Int
def arv (a : AR) : Value := .agg #[.int .i64 a.a, .int .i64 a.b, .int .i64 a.g]
def arOK (n : Nat) (a : AR) : Prop := 0 ≤ a.a ∧ a.a ≤ a.b ∧ a.b ≤ (n : Int) ∧ 1 ≤ a.g ∧ a.g ≤ 2147483647
instance (n : Nat) (a : AR) : Decidable (arOK n a) := by unfold arOK; infer_instance
def checkE (n : Nat) (a : AR) : Nat := if n = 0 then 1 else if arOK n a then 0 else 3
section
variable (base g : Nat) (F : List Nat) (s : DS) (w : World)
set_option maxHeartbeats 1000000 in
theorem check_calls (a : AR) (h : DevB w base F g s) : Calls Try.prog 33 #[.pointer (some ⟨g, 0, none⟩), arv a] w fun e w' => e = .returned (.int .i64 (checkE s.n a : Int)) ∧ Below w.heap.size w w' := by
  obtain ⟨a, b, g0⟩ := a
  have HS := hid (fun w1 (hb : Below w.heap.size w w1) => dSize_calls base g F s w1 (h.keep hb))
  clear h
  generalize s.n = N at HS ⊢
  unfold arv
  dsimp only
  have HK := hid (below_new w (.cells #[.int .i64 a, .int .i64 b, .int .i64 g0] 33))
  by_cases h0 : N = 0
  · have HE := hid (show checkE N ⟨a, b, g0⟩ = 1 from if_pos h0)
    subst h0
    go_enter Try.func33, Try.ntmps33
    go_wp2_with fail
    refine (HS.out _ HK.out).mono ?_
    rintro _ _ ⟨rfl, rfl⟩
    go_wp2_with fail
    go_ret
    exact ⟨by rw [HE.out]; rfl, HK.out⟩
  by_cases h1 : arOK N ⟨a, b, g0⟩
  · have HE := hid (show checkE N ⟨a, b, g0⟩ = 0 from by unfold checkE; rw [if_neg h0, if_pos h1])
    obtain ⟨k1, k2, k3, k4, k5⟩ := h1
    dsimp only at k1 k2 k3 k4 k5
    have h0' : ¬ (N : Int) = 0 := by omega
    have k1' : ¬ a < 0 := by omega
    have k2' : ¬ b < a := by omega
    have k3' : ¬ (N : Int) < b := by omega
    have k4' : ¬ g0 < 1 := by omega
    have k5' : ¬ 2147483647 < g0 := by omega
    clear h0 k1 k2 k3 k4 k5
    go_enter Try.func33, Try.ntmps33
    go_wp2_with fail
    refine (HS.out _ HK.out).mono ?_
    rintro _ _ ⟨rfl, rfl⟩
    go_wp2_with fail
    go_ret
    exact ⟨by rw [HE.out]; rfl, HK.out⟩
  · have HE := hid (show checkE N ⟨a, b, g0⟩ = 3 from by unfold checkE; rw [if_neg h0, if_neg h1])
    have h0' : ¬ (N : Int) = 0 := by omega
    by_cases k1 : a < 0
    · clear h0 h1
      go_enter Try.func33, Try.ntmps33
      go_wp2_with fail
      refine (HS.out _ HK.out).mono ?_
      rintro _ _ ⟨rfl, rfl⟩
      go_wp2_with fail
      go_ret
      exact ⟨by rw [HE.out]; rfl, HK.out⟩
    by_cases k2 : b < a
    · clear h0 h1
      go_enter Try.func33, Try.ntmps33
      go_wp2_with fail
      refine (HS.out _ HK.out).mono ?_
      rintro _ _ ⟨rfl, rfl⟩
      go_wp2_with fail
      go_ret
      exact ⟨by rw [HE.out]; rfl, HK.out⟩
    by_cases k3 : (N : Int) < b
    · clear h0 h1
      go_enter Try.func33, Try.ntmps33
      go_wp2_with fail
      refine (HS.out _ HK.out).mono ?_
      rintro _ _ ⟨rfl, rfl⟩
      go_wp2_with fail
      go_ret
      exact ⟨by rw [HE.out]; rfl, HK.out⟩
    by_cases k4 : g0 < 1
    · clear h0 h1
      go_enter Try.func33, Try.ntmps33
      go_wp2_with fail
      refine (HS.out _ HK.out).mono ?_
      rintro _ _ ⟨rfl, rfl⟩
      go_wp2_with fail
      go_ret
      exact ⟨by rw [HE.out]; rfl, HK.out⟩
    · have k5 : 2147483647 < g0 := by
        unfold arOK at h1
        dsimp only at h1
        omega
      clear h0 h1
      go_enter Try.func33, Try.ntmps33
      go_wp2_with fail
      refine (HS.out _ HK.out).mono ?_
      rintro _ _ ⟨rfl, rfl⟩
      go_wp2_with fail
      go_ret
      exact ⟨by rw [HE.out]; rfl, HK.out⟩
end
def needE (n : Int) : Nat := if n < 0 ∨ 1048576 < n then 0 else needN n.toNat
theorem need_calls (n : Int) (w : World) : Calls Try.prog 38 #[.int .i64 n] w fun e w' => e = .returned (.int .i64 (needE n : Int)) ∧ w = w' := by
  by_cases h0 : n < 0
  · have HE := hid (show needE n = 0 from if_pos (.inl h0))
    go_enter Try.func38, Try.ntmps38
    go_wp2_with fail
    go_ret
    exact ⟨by rw [HE.out]; rfl, rfl⟩
  by_cases h1 : 1048576 < n
  · have HE := hid (show needE n = 0 from if_pos (.inr h1))
    go_enter Try.func38, Try.ntmps38
    go_wp2_with fail
    go_ret
    exact ⟨by rw [HE.out]; rfl, rfl⟩
  · have e1 : IntKind.i64.wrap (n + 49) = n + 49 := IntWalk.i64_in _ (by omega)
    have e2 : IntKind.i64.wrap (n + 49 - 1) = n + 48 := by rw [show n + 49 - 1 = n + 48 by omega]; exact IntWalk.i64_in _ (by omega)
    have e4 : (n + 48).tdiv 49 = (n + 48) / 49 := Int.tdiv_eq_ediv_of_nonneg (by omega)
    have e3 : IntKind.i64.wrap ((n + 48).tdiv 49) = (n + 48) / 49 := by rw [e4]; exact IntWalk.i64_in _ (by omega)
    have HX := hid (show needE n = needN n.toNat from if_neg (by omega))
    have HN := hid (show needN n.toNat = max 1 ((n.toNat + 48) / 49) from rfl)
    clear e4
    by_cases h2 : (n + 48) / 49 ≤ 1
    · go_enter Try.func38, Try.ntmps38
      go_wp2_with fail
      go_ret
      refine ⟨ret_int ?_, rfl⟩
      rw [HX.out, HN.out]; omega
    · go_enter Try.func38, Try.ntmps38
      go_wp2_with fail
      go_ret
      refine ⟨ret_int ?_, rfl⟩
      rw [HX.out, HN.out]; omega
theorem count_calls (a b g : Int) (w : World) (h : IntKind.i64.wrap (b - a) = b - a) : Calls Try.prog 50 #[arv ⟨a, b, g⟩] w fun e w' => e = .returned (.int .i64 (b - a)) ∧ Below w.heap.size w w' := by
  have HK := hid (below_new w (.cells #[.int .i64 a, .int .i64 b, .int .i64 g] 33))
  unfold arv
  dsimp only
  go_enter Try.func50, Try.ntmps50
  go_wp2_with fail
  go_ret
  exact ⟨rfl, HK.out⟩
theorem kindOf_calls (i n : Nat) (w : World) (hn : 1 ≤ n) (hn2 : n ≤ 1048576) (hi : i ≤ 1048576) : Calls Try.prog 53 #[.int .i64 (i : Int), .int .i64 (n : Int)] w fun e w' => e = .returned (.int .u8 (kindN i n : Int)) ∧ w = w' := by
  have e1 : IntKind.i64.wrap ((n : Int) - 1) = (n : Int) - 1 := IntWalk.i64_in _ (by omega)
  by_cases h1 : n = 1
  · have HE := hid (show kindN i n = 1 from if_pos h1)
    subst h1
    go_enter Try.func53, Try.ntmps53
    go_wp2_with fail
    go_ret
    exact ⟨by rw [HE.out]; rfl, rfl⟩
  have h1' : ¬ (n : Int) = 1 := by omega
  by_cases h2 : i = 0
  · have HE := hid (show kindN i n = 2 from by unfold kindN; rw [if_neg h1, if_pos h2])
    subst h2
    go_enter Try.func53, Try.ntmps53
    go_wp2_with fail
    go_ret
    exact ⟨by rw [HE.out]; rfl, rfl⟩
  have h2' : ¬ (i : Int) = 0 := by omega
  by_cases h3 : i = n - 1
  · have HE := hid (show kindN i n = 4 from by unfold kindN; rw [if_neg h1, if_neg h2, if_pos h3])
    have h3' : (i : Int) = (n : Int) - 1 := by omega
    clear h3
    go_enter Try.func53, Try.ntmps53
    go_wp2_with fail
    go_ret
    exact ⟨by rw [HE.out]; rfl, rfl⟩
  · have HE := hid (show kindN i n = 3 from by unfold kindN; rw [if_neg h1, if_neg h2, if_neg h3])
    have h3' : ¬ (i : Int) = (n : Int) - 1 := by omega
    clear h3
    go_enter Try.func53, Try.ntmps53
    go_wp2_with fail
    go_ret
    exact ⟨by rw [HE.out]; rfl, rfl⟩
theorem begins_calls (k : Nat) (w : World) : Calls Try.prog 83 #[.int .u8 (k : Int)] w fun e w' => e = .returned (.bool (beginsB k)) ∧ w = w' := by
  have HE := hid (show beginsB k = decide (k = 1 ∨ k = 2) from rfl)
  by_cases h1 : k = 1
  · subst h1
    go_enter Try.func83, Try.ntmps83
    go_wp2_with fail
    go_ret
    exact ⟨rfl, rfl⟩
  · have h1' : ¬ (k : Int) = 1 := by omega
    go_enter Try.func83, Try.ntmps83
    go_wp2_with fail
    go_ret
    refine ⟨ret_bool ?_, rfl⟩
    rw [HE.out, Bool.eq_iff_iff]
    simp; omega
theorem ends_calls (k : Nat) (w : World) : Calls Try.prog 85 #[.int .u8 (k : Int)] w fun e w' => e = .returned (.bool (endsB k)) ∧ w = w' := by
  have HE := hid (show endsB k = decide (k = 1 ∨ k = 4) from rfl)
  by_cases h1 : k = 1
  · subst h1
    go_enter Try.func85, Try.ntmps85
    go_wp2_with fail
    go_ret
    exact ⟨rfl, rfl⟩
  · have h1' : ¬ (k : Int) = 1 := by omega
    go_enter Try.func85, Try.ntmps85
    go_wp2_with fail
    go_ret
    refine ⟨ret_bool ?_, rfl⟩
    rw [HE.out, Bool.eq_iff_iff]
    simp; omega
theorem allows_calls (k n : Nat) (w : World) : Calls Try.prog 92 #[.int .u8 (k : Int), .int .i64 (n : Int)] w fun e w' => e = .returned (.bool (allowsB k n)) ∧ w = w' := by
  by_cases h1 : k = 1
  · have HE := hid (show allowsB k n = decide (n ≤ 49) from if_pos h1)
    subst h1
    go_enter Try.func92, Try.ntmps92
    go_wp2_with fail
    go_ret
    exact ⟨ret_bool (by rw [HE.out, Bool.eq_iff_iff]; simp; omega), rfl⟩
  have h1' : ¬ (k : Int) = 1 := by omega
  by_cases h2 : k = 2
  · have HE := hid (show allowsB k n = decide (n = 49) from by unfold allowsB; rw [if_neg h1, if_pos (.inl h2)])
    subst h2
    go_enter Try.func92, Try.ntmps92
    go_wp2_with fail
    go_ret
    exact ⟨ret_bool (by rw [HE.out, Bool.eq_iff_iff]; simp; omega), rfl⟩
  have h2' : ¬ (k : Int) = 2 := by omega
  by_cases h3 : k = 3
  · have HE := hid (show allowsB k n = decide (n = 49) from by unfold allowsB; rw [if_neg h1, if_pos (.inr h3)])
    subst h3
    go_enter Try.func92, Try.ntmps92
    go_wp2_with fail
    go_ret
    exact ⟨ret_bool (by rw [HE.out, Bool.eq_iff_iff]; simp; omega), rfl⟩
  have h3' : ¬ (k : Int) = 3 := by omega
  by_cases h4 : k = 4
  · have HE := hid (show allowsB k n = decide (1 ≤ n ∧ n ≤ 49) from by unfold allowsB; rw [if_neg h1, if_neg (by omega), if_pos h4])
    subst h4
    by_cases h5 : 1 ≤ n
    · have h5' : (1 : Int) ≤ (n : Int) := by omega
      go_enter Try.func92, Try.ntmps92
      go_wp2_with fail
      go_ret
      exact ⟨ret_bool (by rw [HE.out, Bool.eq_iff_iff]; simp; omega), rfl⟩
    · have h5' : ¬ (1 : Int) ≤ (n : Int) := by omega
      go_enter Try.func92, Try.ntmps92
      go_wp2_with fail
      go_ret
      exact ⟨ret_bool (by rw [HE.out, Bool.eq_iff_iff]; simp; omega), rfl⟩
  · have HE := hid (show allowsB k n = false from by unfold allowsB; rw [if_neg h1, if_neg (by omega), if_neg h4])
    have h4' : ¬ (k : Int) = 4 := by omega
    go_enter Try.func92, Try.ntmps92
    go_wp2_with fail
    go_ret
    exact ⟨ret_bool HE.out.symm, rfl⟩
end Go.Proofs.Ytiejndkchcljdaa
