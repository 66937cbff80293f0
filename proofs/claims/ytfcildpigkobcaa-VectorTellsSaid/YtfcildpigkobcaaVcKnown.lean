/- The law's awake, and VectorKnown. Written by tools/mkvk.py. -/
import Derived.Test.YtfcildpigkobcaaVcKit
namespace Go.Proofs.Ytfcildpigkobcaa
open Go Go.RowKit Go.Shelf

set_option maxRecDepth 20000 in
set_option maxHeartbeats 4000000 in
theorem awake_calls (W0 : World) : Calls Try.prog 9 #[] W0 fun e w' => e = .returned (.bool true) ∧ Below W0.heap.size W0 w' := by
  have HB := hid (Below.refl W0.heap.size W0)
  go_enter Try.func9, Try.ntmps9
  go_wp2_with fail
  obtain ⟨W1, hW⟩ : ∃ W', W' = W0.alloc (.cells #[.int .i64 1, .int .i64 2] 3) := ⟨_, rfl⟩
  have hb : Below W0.heap.size W0 W1 := by rw [hW]; exact below_new _ _
  have hf : NI W1 (some ⟨W0.heap.size, 0, none⟩) 2 [1, 2] := by rw [hW]; exact lit_ni [1, 2] _ rfl
  rw [← hW]
  clear hW
  replace HB := hid (HB.out.trans (hb.mono HB.out.size))
  clear hb
  have F2 := hid hf
  clear hf
  refine (of_calls _ _).mono ?_
  rintro e w' ⟨rfl, rfl⟩
  have hc := vAt_calls 2 2 (some ⟨W0.heap.size, 0, none⟩) [1, 2] 2 W1 F2.out (by decide)
  rw [show atV [1, 2] 2 = 2 from by decide +kernel] at hc
  have HC := hid hc
  clear hc
  go_wp2_with fail
  refine HC.out.mono ?_
  rintro e w' ⟨rfl, rfl⟩
  clear HC
  clear F2
  go_wp2_with fail
  obtain ⟨W2, hW⟩ : ∃ W', W' = W1.alloc (.cells #[.int .i64 1, .int .i64 2] 3) := ⟨_, rfl⟩
  have hb : Below W1.heap.size W1 W2 := by rw [hW]; exact below_new _ _
  have hf : NI W2 (some ⟨W1.heap.size, 0, none⟩) 2 [1, 2] := by rw [hW]; exact lit_ni [1, 2] _ rfl
  rw [← hW]
  clear hW
  replace HB := hid (HB.out.trans (hb.mono HB.out.size))
  clear hb
  have F7 := hid hf
  clear hf
  refine (of_calls _ _).mono ?_
  rintro e w' ⟨rfl, rfl⟩
  have hc := dot_calls 2 2 W2
  have HC := hid hc
  clear hc
  go_wp2_with fail
  refine HC.out.mono ?_
  rintro e W3 ⟨rfl, hb⟩
  clear HC
  replace F7 := hid (F7.out.keep hb)
  replace HB := hid (HB.out.trans (hb.mono HB.out.size))
  clear hb
  have hc := vHas_calls 2 2 (some ⟨W1.heap.size, 0, none⟩) [1, 2] 2 2 W3 F7.out (by decide)
  rw [show hasV [1, 2] 2 2 = true from by decide +kernel] at hc
  have HC := hid hc
  clear hc
  go_wp2_with fail
  refine HC.out.mono ?_
  rintro e W4 ⟨rfl, hb⟩
  clear HC
  clear F7
  replace HB := hid (HB.out.trans (hb.mono HB.out.size))
  clear hb
  go_wp2_with fail
  obtain ⟨W5, hW⟩ : ∃ W', W' = W4.alloc (.cells #[.int .i64 1, .int .i64 2] 3) := ⟨_, rfl⟩
  have hb : Below W4.heap.size W4 W5 := by rw [hW]; exact below_new _ _
  have hf : NI W5 (some ⟨W4.heap.size, 0, none⟩) 2 [1, 2] := by rw [hW]; exact lit_ni [1, 2] _ rfl
  rw [← hW]
  clear hW
  replace HB := hid (HB.out.trans (hb.mono HB.out.size))
  clear hb
  have F13 := hid hf
  clear hf
  refine (of_calls _ _).mono ?_
  rintro e w' ⟨rfl, rfl⟩
  go_wp2_with fail
  obtain ⟨W6, hW⟩ : ∃ W', W' = W5.alloc (.cells #[.int .i64 1, .int .i64 2, .int .i64 0] 3) := ⟨_, rfl⟩
  have hb : Below W5.heap.size W5 W6 := by rw [hW]; exact below_new _ _
  have hf : NI W6 (some ⟨W5.heap.size, 0, none⟩) 3 [1, 2, 0] := by rw [hW]; exact lit_ni [1, 2, 0] _ rfl
  rw [← hW]
  clear hW
  replace F13 := hid (F13.out.keep hb)
  replace HB := hid (HB.out.trans (hb.mono HB.out.size))
  clear hb
  have F15 := hid hf
  clear hf
  refine (of_calls _ _).mono ?_
  rintro e w' ⟨rfl, rfl⟩
  have hc := leq_calls 2 2 3 3 (some ⟨W4.heap.size, 0, none⟩) (some ⟨W5.heap.size, 0, none⟩) [1, 2] [1, 2, 0] W6 F13.out F15.out (by decide) (by decide)
  rw [show leqV [1, 2] [1, 2, 0] = true from by decide +kernel] at hc
  have HC := hid hc
  clear hc
  go_wp2_with fail
  refine HC.out.mono ?_
  rintro e W7 ⟨rfl, hb⟩
  clear HC
  clear F13 F15
  replace HB := hid (HB.out.trans (hb.mono HB.out.size))
  clear hb
  go_wp2_with fail
  obtain ⟨W8, hW⟩ : ∃ W', W' = W7.alloc (.cells #[.int .i64 1, .int .i64 2] 3) := ⟨_, rfl⟩
  have hb : Below W7.heap.size W7 W8 := by rw [hW]; exact below_new _ _
  have hf : NI W8 (some ⟨W7.heap.size, 0, none⟩) 2 [1, 2] := by rw [hW]; exact lit_ni [1, 2] _ rfl
  rw [← hW]
  clear hW
  replace HB := hid (HB.out.trans (hb.mono HB.out.size))
  clear hb
  have F20 := hid hf
  clear hf
  refine (of_calls _ _).mono ?_
  rintro e w' ⟨rfl, rfl⟩
  go_wp2_with fail
  obtain ⟨W9, hW⟩ : ∃ W', W' = W8.alloc (.cells #[.int .i64 2, .int .i64 1, .int .i64 4] 3) := ⟨_, rfl⟩
  have hb : Below W8.heap.size W8 W9 := by rw [hW]; exact below_new _ _
  have hf : NI W9 (some ⟨W8.heap.size, 0, none⟩) 3 [2, 1, 4] := by rw [hW]; exact lit_ni [2, 1, 4] _ rfl
  rw [← hW]
  clear hW
  replace F20 := hid (F20.out.keep hb)
  replace HB := hid (HB.out.trans (hb.mono HB.out.size))
  clear hb
  have F22 := hid hf
  clear hf
  refine (of_calls _ _).mono ?_
  rintro e w' ⟨rfl, rfl⟩
  have hc := join_calls 2 2 3 3 (some ⟨W7.heap.size, 0, none⟩) (some ⟨W8.heap.size, 0, none⟩) [1, 2] [2, 1, 4] W9 F20.out F22.out (by decide) (by decide)
  rw [show joinV [1, 2] [2, 1, 4] = [2, 2, 4] from by decide +kernel] at hc
  have HC := hid hc
  clear hc
  go_wp2_with fail
  refine HC.out.mono ?_
  rintro e W10 ⟨v23, rfl, ho, hb⟩
  clear HC
  clear F20 F22
  replace HB := hid (HB.out.trans (hb.mono HB.out.size))
  clear hb
  obtain ⟨A23, c23, rfl, _, hf, _⟩ := ho.ni
  have F23 : Hid (NI W10 A23 3 [2, 2, 4]) := hf
  clear ho hf
  go_wp2_with fail
  obtain ⟨W11, hW⟩ : ∃ W', W' = W10.alloc (.cells #[.int .i64 2, .int .i64 2, .int .i64 4] 3) := ⟨_, rfl⟩
  have hb : Below W10.heap.size W10 W11 := by rw [hW]; exact below_new _ _
  have hf : NI W11 (some ⟨W10.heap.size, 0, none⟩) 3 [2, 2, 4] := by rw [hW]; exact lit_ni [2, 2, 4] _ rfl
  rw [← hW]
  clear hW
  replace F23 := hid (F23.out.keep hb)
  replace HB := hid (HB.out.trans (hb.mono HB.out.size))
  clear hb
  have F25 := hid hf
  clear hf
  refine (of_calls _ _).mono ?_
  rintro e w' ⟨rfl, rfl⟩
  have hc := sameI_calls 3 c23 3 3 A23 (some ⟨W10.heap.size, 0, none⟩) [2, 2, 4] [2, 2, 4] W11 F23.out F25.out (by decide) (by decide)
  rw [show ([2, 2, 4] == ([2, 2, 4] : List Int)) = true from by decide +kernel] at hc
  have HC := hid hc
  clear hc
  go_wp2_with fail
  refine HC.out.mono ?_
  rintro e W12 ⟨rfl, hb⟩
  clear HC
  clear F23 F25
  replace HB := hid (HB.out.trans (hb.mono HB.out.size))
  clear hb
  go_wp2_with fail
  obtain ⟨W13, hW⟩ : ∃ W', W' = W12.alloc (.cells #[.int .i64 1, .int .i64 2] 3) := ⟨_, rfl⟩
  have hb : Below W12.heap.size W12 W13 := by rw [hW]; exact below_new _ _
  have hf : NI W13 (some ⟨W12.heap.size, 0, none⟩) 2 [1, 2] := by rw [hW]; exact lit_ni [1, 2] _ rfl
  rw [← hW]
  clear hW
  replace HB := hid (HB.out.trans (hb.mono HB.out.size))
  clear hb
  have F30 := hid hf
  clear hf
  refine (of_calls _ _).mono ?_
  rintro e w' ⟨rfl, rfl⟩
  have hc := vNext_calls 2 2 (some ⟨W12.heap.size, 0, none⟩) [1, 2] 2 W13 F30.out (by decide)
  rw [show nextV [1, 2] 2 = (2, 3) from by decide +kernel] at hc
  have HC := hid hc
  clear hc
  go_wp2_with fail
  refine HC.out.mono ?_
  rintro e W14 ⟨rfl, hb⟩
  clear HC
  clear F30
  replace HB := hid (HB.out.trans (hb.mono HB.out.size))
  clear hb
  have hc := dot_calls 2 3 W14
  have HC := hid hc
  clear hc
  go_wp2_with fail
  refine HC.out.mono ?_
  rintro e W15 ⟨rfl, hb⟩
  clear HC
  replace HB := hid (HB.out.trans (hb.mono HB.out.size))
  clear hb
  go_wp2_with fail
  go_ret
  exact ⟨rfl, HB.out⟩
set_option maxRecDepth 20000 in
set_option maxHeartbeats 4000000 in
theorem known_calls (W0 : World) : Calls Try.prog 5 #[] W0 fun e w' => e = .returned (.bool true) ∧ Below W0.heap.size W0 w' := by
  have HB := hid (Below.refl W0.heap.size W0)
  go_enter Try.func5, Try.ntmps5
  go_wp2_with fail
  obtain ⟨W1, hW⟩ : ∃ W', W' = W0.alloc (.cells #[.int .i64 1, .int .i64 2] 3) := ⟨_, rfl⟩
  have hb : Below W0.heap.size W0 W1 := by rw [hW]; exact below_new _ _
  have hf : NI W1 (some ⟨W0.heap.size, 0, none⟩) 2 [1, 2] := by rw [hW]; exact lit_ni [1, 2] _ rfl
  rw [← hW]
  clear hW
  replace HB := hid (HB.out.trans (hb.mono HB.out.size))
  clear hb
  have F5 := hid hf
  clear hf
  refine (of_calls _ _).mono ?_
  rintro e w' ⟨rfl, rfl⟩
  have hc := vAt_calls 2 2 (some ⟨W0.heap.size, 0, none⟩) [1, 2] 3 W1 F5.out (by decide)
  rw [show atV [1, 2] 3 = 0 from by decide +kernel] at hc
  have HC := hid hc
  clear hc
  go_wp2_with fail
  refine HC.out.mono ?_
  rintro e w' ⟨rfl, rfl⟩
  clear HC
  clear F5
  go_wp2_with fail
  obtain ⟨W2, hW⟩ : ∃ W', W' = W1.alloc (.cells #[.int .i64 (-5)] 3) := ⟨_, rfl⟩
  have hb : Below W1.heap.size W1 W2 := by rw [hW]; exact below_new _ _
  have hf : NI W2 (some ⟨W1.heap.size, 0, none⟩) 1 [-5] := by rw [hW]; exact lit_ni [-5] _ rfl
  rw [← hW]
  clear hW
  replace HB := hid (HB.out.trans (hb.mono HB.out.size))
  clear hb
  have F10 := hid hf
  clear hf
  refine (of_calls _ _).mono ?_
  rintro e w' ⟨rfl, rfl⟩
  have hc := vAt_calls 1 1 (some ⟨W1.heap.size, 0, none⟩) [-5] 1 W2 F10.out (by decide)
  rw [show atV [-5] 1 = 0 from by decide +kernel] at hc
  have HC := hid hc
  clear hc
  go_wp2_with fail
  refine HC.out.mono ?_
  rintro e w' ⟨rfl, rfl⟩
  clear HC
  clear F10
  go_wp2_with fail
  obtain ⟨W3, hW⟩ : ∃ W', W' = W2.alloc (.cells #[.int .i64 1, .int .i64 2] 3) := ⟨_, rfl⟩
  have hb : Below W2.heap.size W2 W3 := by rw [hW]; exact below_new _ _
  have hf : NI W3 (some ⟨W2.heap.size, 0, none⟩) 2 [1, 2] := by rw [hW]; exact lit_ni [1, 2] _ rfl
  rw [← hW]
  clear hW
  replace HB := hid (HB.out.trans (hb.mono HB.out.size))
  clear hb
  have F16 := hid hf
  clear hf
  refine (of_calls _ _).mono ?_
  rintro e w' ⟨rfl, rfl⟩
  have hc := dot_calls 2 3 W3
  have HC := hid hc
  clear hc
  go_wp2_with fail
  refine HC.out.mono ?_
  rintro e W4 ⟨rfl, hb⟩
  clear HC
  replace F16 := hid (F16.out.keep hb)
  replace HB := hid (HB.out.trans (hb.mono HB.out.size))
  clear hb
  have hc := vHas_calls 2 2 (some ⟨W2.heap.size, 0, none⟩) [1, 2] 2 3 W4 F16.out (by decide)
  rw [show hasV [1, 2] 2 3 = false from by decide +kernel] at hc
  have HC := hid hc
  clear hc
  go_wp2_with fail
  refine HC.out.mono ?_
  rintro e W5 ⟨rfl, hb⟩
  clear HC
  clear F16
  replace HB := hid (HB.out.trans (hb.mono HB.out.size))
  clear hb
  go_wp2_with fail
  obtain ⟨W6, hW⟩ : ∃ W', W' = W5.alloc (.cells #[.int .i64 1, .int .i64 2] 3) := ⟨_, rfl⟩
  have hb : Below W5.heap.size W5 W6 := by rw [hW]; exact below_new _ _
  have hf : NI W6 (some ⟨W5.heap.size, 0, none⟩) 2 [1, 2] := by rw [hW]; exact lit_ni [1, 2] _ rfl
  rw [← hW]
  clear hW
  replace HB := hid (HB.out.trans (hb.mono HB.out.size))
  clear hb
  have F23 := hid hf
  clear hf
  refine (of_calls _ _).mono ?_
  rintro e w' ⟨rfl, rfl⟩
  have hc := dot_calls 2 0 W6
  have HC := hid hc
  clear hc
  go_wp2_with fail
  refine HC.out.mono ?_
  rintro e W7 ⟨rfl, hb⟩
  clear HC
  replace F23 := hid (F23.out.keep hb)
  replace HB := hid (HB.out.trans (hb.mono HB.out.size))
  clear hb
  have hc := vHas_calls 2 2 (some ⟨W5.heap.size, 0, none⟩) [1, 2] 2 0 W7 F23.out (by decide)
  rw [show hasV [1, 2] 2 0 = false from by decide +kernel] at hc
  have HC := hid hc
  clear hc
  go_wp2_with fail
  refine HC.out.mono ?_
  rintro e W8 ⟨rfl, hb⟩
  clear HC
  clear F23
  replace HB := hid (HB.out.trans (hb.mono HB.out.size))
  clear hb
  go_wp2_with fail
  obtain ⟨W9, hW⟩ : ∃ W', W' = W8.alloc (.cells #[.int .i64 1, .int .i64 2] 3) := ⟨_, rfl⟩
  have hb : Below W8.heap.size W8 W9 := by rw [hW]; exact below_new _ _
  have hf : NI W9 (some ⟨W8.heap.size, 0, none⟩) 2 [1, 2] := by rw [hW]; exact lit_ni [1, 2] _ rfl
  rw [← hW]
  clear hW
  replace HB := hid (HB.out.trans (hb.mono HB.out.size))
  clear hb
  have F30 := hid hf
  clear hf
  refine (of_calls _ _).mono ?_
  rintro e w' ⟨rfl, rfl⟩
  go_wp2_with fail
  obtain ⟨W10, hW⟩ : ∃ W', W' = W9.alloc (.cells #[.int .i64 1, .int .i64 2, .int .i64 0] 3) := ⟨_, rfl⟩
  have hb : Below W9.heap.size W9 W10 := by rw [hW]; exact below_new _ _
  have hf : NI W10 (some ⟨W9.heap.size, 0, none⟩) 3 [1, 2, 0] := by rw [hW]; exact lit_ni [1, 2, 0] _ rfl
  rw [← hW]
  clear hW
  replace F30 := hid (F30.out.keep hb)
  replace HB := hid (HB.out.trans (hb.mono HB.out.size))
  clear hb
  have F32 := hid hf
  clear hf
  refine (of_calls _ _).mono ?_
  rintro e w' ⟨rfl, rfl⟩
  have hc := same_calls 2 2 3 3 (some ⟨W8.heap.size, 0, none⟩) (some ⟨W9.heap.size, 0, none⟩) [1, 2] [1, 2, 0] W10 F30.out F32.out (by decide) (by decide)
  rw [show (leqV [1, 2] [1, 2, 0] && leqV [1, 2, 0] [1, 2]) = true from by decide +kernel] at hc
  have HC := hid hc
  clear hc
  go_wp2_with fail
  refine HC.out.mono ?_
  rintro e W11 ⟨rfl, hb⟩
  clear HC
  clear F30 F32
  replace HB := hid (HB.out.trans (hb.mono HB.out.size))
  clear hb
  go_wp2_with fail
  obtain ⟨W12, hW⟩ : ∃ W', W' = W11.alloc (.cells #[.int .i64 1, .int .i64 2] 3) := ⟨_, rfl⟩
  have hb : Below W11.heap.size W11 W12 := by rw [hW]; exact below_new _ _
  have hf : NI W12 (some ⟨W11.heap.size, 0, none⟩) 2 [1, 2] := by rw [hW]; exact lit_ni [1, 2] _ rfl
  rw [← hW]
  clear hW
  replace HB := hid (HB.out.trans (hb.mono HB.out.size))
  clear hb
  have F37 := hid hf
  clear hf
  refine (of_calls _ _).mono ?_
  rintro e w' ⟨rfl, rfl⟩
  go_wp2_with fail
  obtain ⟨W13, hW⟩ : ∃ W', W' = W12.alloc (.cells #[.int .i64 2, .int .i64 1] 3) := ⟨_, rfl⟩
  have hb : Below W12.heap.size W12 W13 := by rw [hW]; exact below_new _ _
  have hf : NI W13 (some ⟨W12.heap.size, 0, none⟩) 2 [2, 1] := by rw [hW]; exact lit_ni [2, 1] _ rfl
  rw [← hW]
  clear hW
  replace F37 := hid (F37.out.keep hb)
  replace HB := hid (HB.out.trans (hb.mono HB.out.size))
  clear hb
  have F39 := hid hf
  clear hf
  refine (of_calls _ _).mono ?_
  rintro e w' ⟨rfl, rfl⟩
  have hc := leq_calls 2 2 2 2 (some ⟨W11.heap.size, 0, none⟩) (some ⟨W12.heap.size, 0, none⟩) [1, 2] [2, 1] W13 F37.out F39.out (by decide) (by decide)
  rw [show leqV [1, 2] [2, 1] = false from by decide +kernel] at hc
  have HC := hid hc
  clear hc
  go_wp2_with fail
  refine HC.out.mono ?_
  rintro e W14 ⟨rfl, hb⟩
  clear HC
  clear F37 F39
  replace HB := hid (HB.out.trans (hb.mono HB.out.size))
  clear hb
  go_wp2_with fail
  obtain ⟨W15, hW⟩ : ∃ W', W' = W14.alloc (.cells #[.int .i64 1, .int .i64 2] 3) := ⟨_, rfl⟩
  have hb : Below W14.heap.size W14 W15 := by rw [hW]; exact below_new _ _
  have hf : NI W15 (some ⟨W14.heap.size, 0, none⟩) 2 [1, 2] := by rw [hW]; exact lit_ni [1, 2] _ rfl
  rw [← hW]
  clear hW
  replace HB := hid (HB.out.trans (hb.mono HB.out.size))
  clear hb
  have F45 := hid hf
  clear hf
  refine (of_calls _ _).mono ?_
  rintro e w' ⟨rfl, rfl⟩
  go_wp2_with fail
  obtain ⟨W16, hW⟩ : ∃ W', W' = W15.alloc (.cells #[.int .i64 2, .int .i64 1, .int .i64 4] 3) := ⟨_, rfl⟩
  have hb : Below W15.heap.size W15 W16 := by rw [hW]; exact below_new _ _
  have hf : NI W16 (some ⟨W15.heap.size, 0, none⟩) 3 [2, 1, 4] := by rw [hW]; exact lit_ni [2, 1, 4] _ rfl
  rw [← hW]
  clear hW
  replace F45 := hid (F45.out.keep hb)
  replace HB := hid (HB.out.trans (hb.mono HB.out.size))
  clear hb
  have F47 := hid hf
  clear hf
  refine (of_calls _ _).mono ?_
  rintro e w' ⟨rfl, rfl⟩
  have hc := meet_calls 2 2 3 3 (some ⟨W14.heap.size, 0, none⟩) (some ⟨W15.heap.size, 0, none⟩) [1, 2] [2, 1, 4] W16 F45.out F47.out (by decide) (by decide)
  rw [show meetV [1, 2] [2, 1, 4] = [1, 1, 0] from by decide +kernel] at hc
  have HC := hid hc
  clear hc
  go_wp2_with fail
  refine HC.out.mono ?_
  rintro e W17 ⟨v48, rfl, ho, hb⟩
  clear HC
  clear F45 F47
  replace HB := hid (HB.out.trans (hb.mono HB.out.size))
  clear hb
  obtain ⟨A48, c48, rfl, _, hf, _⟩ := ho.ni
  have F48 : Hid (NI W17 A48 3 [1, 1, 0]) := hf
  clear ho hf
  go_wp2_with fail
  obtain ⟨W18, hW⟩ : ∃ W', W' = W17.alloc (.cells #[.int .i64 1, .int .i64 1, .int .i64 0] 3) := ⟨_, rfl⟩
  have hb : Below W17.heap.size W17 W18 := by rw [hW]; exact below_new _ _
  have hf : NI W18 (some ⟨W17.heap.size, 0, none⟩) 3 [1, 1, 0] := by rw [hW]; exact lit_ni [1, 1, 0] _ rfl
  rw [← hW]
  clear hW
  replace F48 := hid (F48.out.keep hb)
  replace HB := hid (HB.out.trans (hb.mono HB.out.size))
  clear hb
  have F50 := hid hf
  clear hf
  refine (of_calls _ _).mono ?_
  rintro e w' ⟨rfl, rfl⟩
  have hc := sameI_calls 3 c48 3 3 A48 (some ⟨W17.heap.size, 0, none⟩) [1, 1, 0] [1, 1, 0] W18 F48.out F50.out (by decide) (by decide)
  rw [show ([1, 1, 0] == ([1, 1, 0] : List Int)) = true from by decide +kernel] at hc
  have HC := hid hc
  clear hc
  go_wp2_with fail
  refine HC.out.mono ?_
  rintro e W19 ⟨rfl, hb⟩
  clear HC
  clear F48 F50
  replace HB := hid (HB.out.trans (hb.mono HB.out.size))
  clear hb
  go_wp2_with fail
  obtain ⟨W20, hW⟩ : ∃ W', W' = W19.alloc (.cells #[.int .i64 1] 3) := ⟨_, rfl⟩
  have hb : Below W19.heap.size W19 W20 := by rw [hW]; exact below_new _ _
  have hf : NI W20 (some ⟨W19.heap.size, 0, none⟩) 1 [1] := by rw [hW]; exact lit_ni [1] _ rfl
  rw [← hW]
  clear hW
  replace HB := hid (HB.out.trans (hb.mono HB.out.size))
  clear hb
  have F54 := hid hf
  clear hf
  refine (of_calls _ _).mono ?_
  rintro e w' ⟨rfl, rfl⟩
  have hc := dot_calls 3 2 W20
  have HC := hid hc
  clear hc
  go_wp2_with fail
  refine HC.out.mono ?_
  rintro e W21 ⟨rfl, hb⟩
  clear HC
  replace F54 := hid (F54.out.keep hb)
  replace HB := hid (HB.out.trans (hb.mono HB.out.size))
  clear hb
  have hc := vWith_calls 1 1 (some ⟨W19.heap.size, 0, none⟩) [1] 3 2 W21 F54.out (by decide)
  rw [show withV [1] 3 2 = [1, 0, 2] from by decide +kernel] at hc
  have HC := hid hc
  clear hc
  go_wp2_with fail
  refine HC.out.mono ?_
  rintro e W22 ⟨v56, rfl, ho, hb⟩
  clear HC
  clear F54
  replace HB := hid (HB.out.trans (hb.mono HB.out.size))
  clear hb
  obtain ⟨A56, c56, rfl, _, hf, _⟩ := ho.ni
  have F56 : Hid (NI W22 A56 3 [1, 0, 2]) := hf
  clear ho hf
  go_wp2_with fail
  obtain ⟨W23, hW⟩ : ∃ W', W' = W22.alloc (.cells #[.int .i64 1, .int .i64 0, .int .i64 2] 3) := ⟨_, rfl⟩
  have hb : Below W22.heap.size W22 W23 := by rw [hW]; exact below_new _ _
  have hf : NI W23 (some ⟨W22.heap.size, 0, none⟩) 3 [1, 0, 2] := by rw [hW]; exact lit_ni [1, 0, 2] _ rfl
  rw [← hW]
  clear hW
  replace F56 := hid (F56.out.keep hb)
  replace HB := hid (HB.out.trans (hb.mono HB.out.size))
  clear hb
  have F58 := hid hf
  clear hf
  refine (of_calls _ _).mono ?_
  rintro e w' ⟨rfl, rfl⟩
  have hc := sameI_calls 3 c56 3 3 A56 (some ⟨W22.heap.size, 0, none⟩) [1, 0, 2] [1, 0, 2] W23 F56.out F58.out (by decide) (by decide)
  rw [show ([1, 0, 2] == ([1, 0, 2] : List Int)) = true from by decide +kernel] at hc
  have HC := hid hc
  clear hc
  go_wp2_with fail
  refine HC.out.mono ?_
  rintro e W24 ⟨rfl, hb⟩
  clear HC
  clear F56 F58
  replace HB := hid (HB.out.trans (hb.mono HB.out.size))
  clear hb
  go_wp2_with fail
  obtain ⟨W25, hW⟩ : ∃ W', W' = W24.alloc (.cells #[.int .i64 1, .int .i64 5] 3) := ⟨_, rfl⟩
  have hb : Below W24.heap.size W24 W25 := by rw [hW]; exact below_new _ _
  have hf : NI W25 (some ⟨W24.heap.size, 0, none⟩) 2 [1, 5] := by rw [hW]; exact lit_ni [1, 5] _ rfl
  rw [← hW]
  clear hW
  replace HB := hid (HB.out.trans (hb.mono HB.out.size))
  clear hb
  have F62 := hid hf
  clear hf
  refine (of_calls _ _).mono ?_
  rintro e w' ⟨rfl, rfl⟩
  have hc := dot_calls 2 3 W25
  have HC := hid hc
  clear hc
  go_wp2_with fail
  refine HC.out.mono ?_
  rintro e W26 ⟨rfl, hb⟩
  clear HC
  replace F62 := hid (F62.out.keep hb)
  replace HB := hid (HB.out.trans (hb.mono HB.out.size))
  clear hb
  have hc := vWith_calls 2 2 (some ⟨W24.heap.size, 0, none⟩) [1, 5] 2 3 W26 F62.out (by decide)
  rw [show withV [1, 5] 2 3 = [1, 5] from by decide +kernel] at hc
  have HC := hid hc
  clear hc
  go_wp2_with fail
  refine HC.out.mono ?_
  rintro e W27 ⟨v64, rfl, ho, hb⟩
  clear HC
  clear F62
  replace HB := hid (HB.out.trans (hb.mono HB.out.size))
  clear hb
  obtain ⟨A64, c64, rfl, _, hf, _⟩ := ho.ni
  have F64 : Hid (NI W27 A64 2 [1, 5]) := hf
  clear ho hf
  go_wp2_with fail
  obtain ⟨W28, hW⟩ : ∃ W', W' = W27.alloc (.cells #[.int .i64 1, .int .i64 5] 3) := ⟨_, rfl⟩
  have hb : Below W27.heap.size W27 W28 := by rw [hW]; exact below_new _ _
  have hf : NI W28 (some ⟨W27.heap.size, 0, none⟩) 2 [1, 5] := by rw [hW]; exact lit_ni [1, 5] _ rfl
  rw [← hW]
  clear hW
  replace F64 := hid (F64.out.keep hb)
  replace HB := hid (HB.out.trans (hb.mono HB.out.size))
  clear hb
  have F66 := hid hf
  clear hf
  refine (of_calls _ _).mono ?_
  rintro e w' ⟨rfl, rfl⟩
  have hc := sameI_calls 2 c64 2 2 A64 (some ⟨W27.heap.size, 0, none⟩) [1, 5] [1, 5] W28 F64.out F66.out (by decide) (by decide)
  rw [show ([1, 5] == ([1, 5] : List Int)) = true from by decide +kernel] at hc
  have HC := hid hc
  clear hc
  go_wp2_with fail
  refine HC.out.mono ?_
  rintro e W29 ⟨rfl, hb⟩
  clear HC
  clear F64 F66
  replace HB := hid (HB.out.trans (hb.mono HB.out.size))
  clear hb
  go_wp2_with fail
  obtain ⟨W30, hW⟩ : ∃ W', W' = W29.alloc (.cells #[.int .i64 1] 3) := ⟨_, rfl⟩
  have hb : Below W29.heap.size W29 W30 := by rw [hW]; exact below_new _ _
  have hf : NI W30 (some ⟨W29.heap.size, 0, none⟩) 1 [1] := by rw [hW]; exact lit_ni [1] _ rfl
  rw [← hW]
  clear hW
  replace HB := hid (HB.out.trans (hb.mono HB.out.size))
  clear hb
  have F71 := hid hf
  clear hf
  refine (of_calls _ _).mono ?_
  rintro e w' ⟨rfl, rfl⟩
  have hc := dot_calls 17 1 W30
  have HC := hid hc
  clear hc
  go_wp2_with fail
  refine HC.out.mono ?_
  rintro e W31 ⟨rfl, hb⟩
  clear HC
  replace F71 := hid (F71.out.keep hb)
  replace HB := hid (HB.out.trans (hb.mono HB.out.size))
  clear hb
  have hc := vWith_calls 1 1 (some ⟨W29.heap.size, 0, none⟩) [1] 17 1 W31 F71.out (by decide)
  rw [show withV [1] 17 1 = [1] from by decide +kernel] at hc
  have HC := hid hc
  clear hc
  go_wp2_with fail
  refine HC.out.mono ?_
  rintro e W32 ⟨v73, rfl, ho, hb⟩
  clear HC
  clear F71
  replace HB := hid (HB.out.trans (hb.mono HB.out.size))
  clear hb
  obtain ⟨A73, c73, rfl, _, hf, _⟩ := ho.ni
  have F73 : Hid (NI W32 A73 1 [1]) := hf
  clear ho hf
  go_wp2_with fail
  obtain ⟨W33, hW⟩ : ∃ W', W' = W32.alloc (.cells #[.int .i64 1] 3) := ⟨_, rfl⟩
  have hb : Below W32.heap.size W32 W33 := by rw [hW]; exact below_new _ _
  have hf : NI W33 (some ⟨W32.heap.size, 0, none⟩) 1 [1] := by rw [hW]; exact lit_ni [1] _ rfl
  rw [← hW]
  clear hW
  replace F73 := hid (F73.out.keep hb)
  replace HB := hid (HB.out.trans (hb.mono HB.out.size))
  clear hb
  have F75 := hid hf
  clear hf
  refine (of_calls _ _).mono ?_
  rintro e w' ⟨rfl, rfl⟩
  have hc := sameI_calls 1 c73 1 1 A73 (some ⟨W32.heap.size, 0, none⟩) [1] [1] W33 F73.out F75.out (by decide) (by decide)
  rw [show ([1] == ([1] : List Int)) = true from by decide +kernel] at hc
  have HC := hid hc
  clear hc
  go_wp2_with fail
  refine HC.out.mono ?_
  rintro e W34 ⟨rfl, hb⟩
  clear HC
  clear F73 F75
  replace HB := hid (HB.out.trans (hb.mono HB.out.size))
  clear hb
  go_wp2_with fail
  obtain ⟨W35, hW⟩ : ∃ W', W' = W34.alloc (.cells #[.int .i64 1, .int .i64 2] 3) := ⟨_, rfl⟩
  have hb : Below W34.heap.size W34 W35 := by rw [hW]; exact below_new _ _
  have hf : NI W35 (some ⟨W34.heap.size, 0, none⟩) 2 [1, 2] := by rw [hW]; exact lit_ni [1, 2] _ rfl
  rw [← hW]
  clear hW
  replace HB := hid (HB.out.trans (hb.mono HB.out.size))
  clear hb
  have F80 := hid hf
  clear hf
  refine (of_calls _ _).mono ?_
  rintro e w' ⟨rfl, rfl⟩
  have hc := vNext_calls 2 2 (some ⟨W34.heap.size, 0, none⟩) [1, 2] 3 W35 F80.out (by decide)
  rw [show nextV [1, 2] 3 = (3, 1) from by decide +kernel] at hc
  have HC := hid hc
  clear hc
  go_wp2_with fail
  refine HC.out.mono ?_
  rintro e W36 ⟨rfl, hb⟩
  clear HC
  clear F80
  replace HB := hid (HB.out.trans (hb.mono HB.out.size))
  clear hb
  have hc := dot_calls 3 1 W36
  have HC := hid hc
  clear hc
  go_wp2_with fail
  refine HC.out.mono ?_
  rintro e W37 ⟨rfl, hb⟩
  clear HC
  replace HB := hid (HB.out.trans (hb.mono HB.out.size))
  clear hb
  go_wp2_with fail
  obtain ⟨W38, hW⟩ : ∃ W', W' = W37.alloc (.cells #[.int .i64 1] 3) := ⟨_, rfl⟩
  have hb : Below W37.heap.size W37 W38 := by rw [hW]; exact below_new _ _
  have hf : NI W38 (some ⟨W37.heap.size, 0, none⟩) 1 [1] := by rw [hW]; exact lit_ni [1] _ rfl
  rw [← hW]
  clear hW
  replace HB := hid (HB.out.trans (hb.mono HB.out.size))
  clear hb
  have F87 := hid hf
  clear hf
  refine (of_calls _ _).mono ?_
  rintro e w' ⟨rfl, rfl⟩
  have hc := vNext_calls 1 1 (some ⟨W37.heap.size, 0, none⟩) [1] 0 W38 F87.out (by decide)
  rw [show nextV [1] 0 = (0, 0) from by decide +kernel] at hc
  have HC := hid hc
  clear hc
  go_wp2_with fail
  refine HC.out.mono ?_
  rintro e W39 ⟨rfl, hb⟩
  clear HC
  clear F87
  replace HB := hid (HB.out.trans (hb.mono HB.out.size))
  clear hb
  have hc := dot_calls 0 0 W39
  have HC := hid hc
  clear hc
  go_wp2_with fail
  refine HC.out.mono ?_
  rintro e W40 ⟨rfl, hb⟩
  clear HC
  replace HB := hid (HB.out.trans (hb.mono HB.out.size))
  clear hb
  go_wp2_with fail
  obtain ⟨W41, hW⟩ : ∃ W', W' = W40.alloc (.cells #[.int .i64 1, .int .i64 2, .int .i64 (-7)] 3) := ⟨_, rfl⟩
  have hb : Below W40.heap.size W40 W41 := by rw [hW]; exact below_new _ _
  have hf : NI W41 (some ⟨W40.heap.size, 0, none⟩) 3 [1, 2, -7] := by rw [hW]; exact lit_ni [1, 2, -7] _ rfl
  rw [← hW]
  clear hW
  replace HB := hid (HB.out.trans (hb.mono HB.out.size))
  clear hb
  have F93 := hid hf
  clear hf
  refine (of_calls _ _).mono ?_
  rintro e w' ⟨rfl, rfl⟩
  have hc := weight_calls 3 3 (some ⟨W40.heap.size, 0, none⟩) [1, 2, -7] W41 F93.out (by decide)
  rw [show wgtV [1, 2, -7] = 3 from by decide +kernel] at hc
  have HC := hid hc
  clear hc
  go_wp2_with fail
  refine HC.out.mono ?_
  rintro e W42 ⟨rfl, hb⟩
  clear HC
  clear F93
  replace HB := hid (HB.out.trans (hb.mono HB.out.size))
  clear hb
  go_wp2_with fail
  obtain ⟨W43, hW⟩ : ∃ W', W' = W42.alloc (.cells #[.int .i64 4611686018427387904, .int .i64 1] 3) := ⟨_, rfl⟩
  have hb : Below W42.heap.size W42 W43 := by rw [hW]; exact below_new _ _
  have hf : NI W43 (some ⟨W42.heap.size, 0, none⟩) 2 [4611686018427387904, 1] := by rw [hW]; exact lit_ni [4611686018427387904, 1] _ rfl
  rw [← hW]
  clear hW
  replace HB := hid (HB.out.trans (hb.mono HB.out.size))
  clear hb
  have F98 := hid hf
  clear hf
  refine (of_calls _ _).mono ?_
  rintro e w' ⟨rfl, rfl⟩
  have hc := weight_calls 2 2 (some ⟨W42.heap.size, 0, none⟩) [4611686018427387904, 1] W43 F98.out (by decide)
  rw [show wgtV [4611686018427387904, 1] = 4611686018427387904 from by decide +kernel] at hc
  have HC := hid hc
  clear hc
  go_wp2_with fail
  refine HC.out.mono ?_
  rintro e W44 ⟨rfl, hb⟩
  clear HC
  clear F98
  replace HB := hid (HB.out.trans (hb.mono HB.out.size))
  clear hb
  have hc := dot_calls 1 2 W44
  have HC := hid hc
  clear hc
  go_wp2_with fail
  refine HC.out.mono ?_
  rintro e W45 ⟨rfl, hb⟩
  clear HC
  replace HB := hid (HB.out.trans (hb.mono HB.out.size))
  clear hb
  go_wp2_with fail
  obtain ⟨W46, hW⟩ : ∃ W', W' = W45.alloc (.cells #[.int .i64 1] 3) := ⟨_, rfl⟩
  have hb : Below W45.heap.size W45 W46 := by rw [hW]; exact below_new _ _
  have hf : NI W46 (some ⟨W45.heap.size, 0, none⟩) 1 [1] := by rw [hW]; exact lit_ni [1] _ rfl
  rw [← hW]
  clear hW
  replace HB := hid (HB.out.trans (hb.mono HB.out.size))
  clear hb
  have F105 := hid hf
  clear hf
  refine (of_calls _ _).mono ?_
  rintro e w' ⟨rfl, rfl⟩
  have hc := dot_calls 2 1 W46
  have HC := hid hc
  clear hc
  go_wp2_with fail
  refine HC.out.mono ?_
  rintro e W47 ⟨rfl, hb⟩
  clear HC
  replace F105 := hid (F105.out.keep hb)
  replace HB := hid (HB.out.trans (hb.mono HB.out.size))
  clear hb
  go_wp2_with fail
  obtain ⟨W48, hW⟩ : ∃ W', W' = W47.alloc (.cells #[.int .i64 0, .int .i64 0] 3) := ⟨_, rfl⟩
  have hb : Below W47.heap.size W47 W48 := by rw [hW]; exact below_new _ _
  have hf : NI W48 (some ⟨W47.heap.size, 0, none⟩) 2 [0, 0] := by rw [hW]; exact lit_ni [0, 0] _ rfl
  rw [← hW]
  clear hW
  replace F105 := hid (F105.out.keep hb)
  replace HB := hid (HB.out.trans (hb.mono HB.out.size))
  clear hb
  have F108 := hid hf
  clear hf
  refine (of_calls _ _).mono ?_
  rintro e w' ⟨rfl, rfl⟩
  have hc := vLess_calls 1 2 2 1 1 1 2 2 (some ⟨W45.heap.size, 0, none⟩) (some ⟨W47.heap.size, 0, none⟩) [1] [0, 0] W48 F105.out F108.out (by decide) (by decide)
  rw [show lessV 1 2 [1] 2 1 [0, 0] = false from by decide +kernel] at hc
  have HC := hid hc
  clear hc
  go_wp2_with fail
  refine HC.out.mono ?_
  rintro e W49 ⟨rfl, hb⟩
  clear HC
  clear F105 F108
  replace HB := hid (HB.out.trans (hb.mono HB.out.size))
  clear hb
  have hc := dot_calls 2 1 W49
  have HC := hid hc
  clear hc
  go_wp2_with fail
  refine HC.out.mono ?_
  rintro e W50 ⟨rfl, hb⟩
  clear HC
  replace HB := hid (HB.out.trans (hb.mono HB.out.size))
  clear hb
  have hc := dot_calls 1 2 W50
  have HC := hid hc
  clear hc
  go_wp2_with fail
  refine HC.out.mono ?_
  rintro e W51 ⟨rfl, hb⟩
  clear HC
  replace HB := hid (HB.out.trans (hb.mono HB.out.size))
  clear hb
  go_wp2_with fail
  obtain ⟨W52, hW⟩ : ∃ W', W' = W51.alloc (.cells #[.int .i64 1] 3) := ⟨_, rfl⟩
  have hb : Below W51.heap.size W51 W52 := by rw [hW]; exact below_new _ _
  have hf : NI W52 (some ⟨W51.heap.size, 0, none⟩) 1 [1] := by rw [hW]; exact lit_ni [1] _ rfl
  rw [← hW]
  clear hW
  replace HB := hid (HB.out.trans (hb.mono HB.out.size))
  clear hb
  have F116 := hid hf
  clear hf
  refine (of_calls _ _).mono ?_
  rintro e w' ⟨rfl, rfl⟩
  have hc := vLess_calls 2 1 1 2 0 0 1 1 none (some ⟨W51.heap.size, 0, none⟩) [] [1] W52 (NI.nil _ _) F116.out (by decide) (by decide)
  rw [show lessV 2 1 [] 1 2 [1] = true from by decide +kernel] at hc
  have HC := hid hc
  clear hc
  go_wp2_with fail
  refine HC.out.mono ?_
  rintro e W53 ⟨rfl, hb⟩
  clear HC
  clear F116
  replace HB := hid (HB.out.trans (hb.mono HB.out.size))
  clear hb
  have hc := awake_calls W53
  have HC := hid hc
  clear hc
  go_wp2_with fail
  refine HC.out.mono ?_
  rintro e W54 ⟨rfl, hb⟩
  clear HC
  replace HB := hid (HB.out.trans (hb.mono HB.out.size))
  clear hb
  go_wp2_with fail
  go_ret
  exact ⟨rfl, HB.out⟩
end Go.Proofs.Ytfcildpigkobcaa
