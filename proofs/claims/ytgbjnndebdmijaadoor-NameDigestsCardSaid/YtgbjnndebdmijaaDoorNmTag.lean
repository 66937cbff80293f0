/- The examples of Repo and Tag that the law asks for each time. -/
import Derived.Test.YtgbjnndebdmijaaDoorNmRepoOf
namespace Go.Proofs.YtgbjnndebdmijaaDoor
open Go.RowKit
attribute [local go_sem] eql_func eql_none run_mkF

theorem fine_calls (w : World) : Calls Tryd.prog 10 #[] w fun e w' => e = .returned (.agg #[.int .i64 0, .int .i64 0]) ∧ Below w.heap.size w w' := by
  have hz := (zero_of_info infoFault).1
  go_enter Tryd.func10, Tryd.ntmps10
  go_wp2_with fail
  exact bodyPost_ret (v := .agg #[.int .i64 0, .int .i64 0]) (by simp [results, Tryd.results10, go_sem]) rfl ⟨rfl, below_new w _⟩
theorem wrong_calls (p : Int) (w : World) : Calls Tryd.prog 11 #[.int .i64 p] w fun e w' => e = .returned (.agg #[.int .i64 7, .int .i64 p]) ∧ Below w.heap.size w w' := by
  have hz := (zero_of_info infoFault).1
  go_enter Tryd.func11, Tryd.ntmps11
  go_wp2_with fail
  exact bodyPost_ret (v := .agg #[.int .i64 7, .int .i64 p]) (by simp [results, Tryd.results11, go_sem]) rfl ⟨rfl, below_new w _⟩

def libS : ByteArray := ⟨#[108, 105, 98, 114, 97, 114, 121, 47, 103, 111, 95, 49, 46, 50, 45, 45, 120]⟩
def aS : ByteArray := ⟨#[97, 95, 95, 95, 98]⟩
theorem lib_no : ∀ pos, ¬ RStop libS.data.toList pos := by
  intro pos h
  by_cases hp : pos < 17
  · have : ∀ i : Fin 17, rrun (libS.data.toList.take (i.val + 1)) ≠ none := by decide +kernel
    have h2 := h.2
    rw [if_pos (show pos < libS.data.toList.length from hp)] at h2
    exact this ⟨pos, hp⟩ h2
  · have h2 := h.2
    rw [if_neg (show ¬ pos < libS.data.toList.length from hp)] at h2
    exact absurd h2 (by decide +kernel)
theorem a_stop : ∀ pos, RStop aS.data.toList pos → pos = 3 := by
  intro pos h
  by_cases hp : pos < 5
  · have : ∀ i : Fin 5, (rrun (aS.data.toList.take i.val)).isSome = true → rrun (aS.data.toList.take (i.val + 1)) = none → i.val = 3 := by decide +kernel
    have h2 := h.2
    rw [if_pos (show pos < aS.data.toList.length from hp)] at h2
    exact this ⟨pos, hp⟩ h.1 h2
  · have h1 := h.1
    rw [List.take_of_length_le (show aS.data.toList.length ≤ pos by show 5 ≤ pos; omega)] at h1
    exact absurd h1 (by decide +kernel)
theorem a_done : ¬ RDone aS.data.toList := fun h => absurd h.1 (by decide +kernel)
theorem repo_lib (w : World) : Calls Tryd.prog 9 #[.string libS] w fun e w' => e = .returned (.agg #[.int .i64 0, .int .i64 0]) ∧ Below w.heap.size w w' := by
  refine (repo_calls libS _ rfl (by decide +kernel) (by decide) w).mono ?_
  rintro e w' ⟨⟨x, y, rfl, ⟨pos, h, _⟩ | ⟨_, rfl, rfl⟩⟩, b⟩
  · exact absurd h (lib_no pos)
  · exact ⟨rfl, b⟩
theorem repo_a (w : World) : Calls Tryd.prog 9 #[.string aS] w fun e w' => e = .returned (.agg #[.int .i64 7, .int .i64 3]) ∧ Below w.heap.size w w' := by
  refine (repo_calls aS _ rfl (by decide +kernel) (by decide) w).mono ?_
  rintro e w' ⟨⟨x, y, rfl, ⟨pos, h, rfl, rfl⟩ | ⟨h, _⟩⟩, b⟩
  · rw [a_stop pos h]; exact ⟨rfl, b⟩
  · exact absurd h a_done

/-! ### a tag -/
theorem beginsTag_at (c : Int) (b : Bool) (h : (c, b) ∈ [((118 : Int), true), (49, true), (46, false), (48, true), (45, false), (66, true), (95, true), (-1, false)]) (w : World) :
    Calls Tryd.prog 31 #[.int .i32 c] w fun e w' => e = .returned (.bool b) ∧ Below w.heap.size w w' := by
  simp only [List.mem_cons, Prod.mk.injEq, List.not_mem_nil, or_false] at h
  rcases h with ⟨rfl, rfl⟩ | ⟨rfl, rfl⟩ | ⟨rfl, rfl⟩ | ⟨rfl, rfl⟩ | ⟨rfl, rfl⟩ | ⟨rfl, rfl⟩ | ⟨rfl, rfl⟩ | ⟨rfl, rfl⟩
  all_goals
    go_enter Tryd.func31, Tryd.ntmps31
    go_wp2_with fail
    refine (inWord_calls _ w).mono ?_
    rintro _ w1 ⟨rfl, b1⟩
    simp only [inW, Int.reduceLE, decide_true, decide_false, Bool.and_true, Bool.and_false, Bool.or_true, Bool.or_false]
    go_wp2_with fail
    go_ret
    exact ⟨rfl, b1⟩
theorem inTag_at (c : Int) (b b2 : Bool) (h : (c, b, b2) ∈ [((118 : Int), true, true), (49, true, true), (46, false, true), (48, true, true), (45, false, true), (66, true, true), (95, true, true), (-1, false, false)]) (w : World) :
    Calls Tryd.prog 32 #[.int .i32 c] w fun e w' => e = .returned (.bool b2) ∧ Below w.heap.size w w' := by
  simp only [List.mem_cons, Prod.mk.injEq, List.not_mem_nil, or_false] at h
  rcases h with ⟨rfl, rfl, rfl⟩ | ⟨rfl, rfl, rfl⟩ | ⟨rfl, rfl, rfl⟩ | ⟨rfl, rfl, rfl⟩ | ⟨rfl, rfl, rfl⟩ | ⟨rfl, rfl, rfl⟩ | ⟨rfl, rfl, rfl⟩ | ⟨rfl, rfl, rfl⟩
  all_goals
    go_enter Tryd.func32, Tryd.ntmps32
    go_wp2_with fail
    refine (beginsTag_at _ _ (by simp; rfl) w).mono ?_
    rintro _ w1 ⟨rfl, b1⟩
    go_wp2_with fail
    go_ret
    exact ⟨rfl, b1⟩
end Go.Proofs.YtgbjnndebdmijaaDoor
