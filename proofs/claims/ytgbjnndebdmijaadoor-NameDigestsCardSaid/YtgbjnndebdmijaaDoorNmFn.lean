/- Contracts: the questions that a char is asked, pass, ends. -/
import Derived.Test.YtgbjnndebdmijaaDoorNmIdx
namespace Go.Proofs.YtgbjnndebdmijaaDoor
open Go.RowKit

def hexv (r : Int) : Int := if 48 ≤ r ∧ r ≤ 57 then r - 48 else if 97 ≤ r ∧ r ≤ 102 then r - 87 else -1
def digs : ByteArray := ⟨#[48, 49, 50, 51, 52, 53, 54, 55, 56, 57, 97, 98, 99, 100, 101, 102]⟩
theorem first_digs : ∀ n : Fin 128, firstIdx digs n.val.toUInt8 = hexv (n.val : Int) := by decide +kernel
theorem digs_ascii : ∀ b ∈ digs.data.toList, b.toNat < 128 := by decide +kernel
theorem digs_size : digs.size = 16 := rfl
/-- what a char can be: the end, a broken byte, a rune -/
def IsChar (c : Int) : Prop := c = -1 ∨ c = -2 ∨ 0 ≤ c ∧ Utf8.valid c = true
theorem hexv_high {c : Int} (h : c < 48 ∨ 128 ≤ c) : hexv c = -1 := by unfold hexv; rw [if_neg (by omega), if_neg (by omega)]

theorem idx_digs (c : Int) (hc : IsChar c) (w : World) : Calls Tryd.prog 44 #[.string digs, .int .i32 c] w fun e w' => e = .returned (.int .i64 (hexv c)) ∧ Below w.heap.size w w' := by
  by_cases h0 : c < 0
  · refine (idx_none digs c h0 w).mono fun e w' h => ?_
    rw [hexv_high (by omega)]
    exact ⟨h.1, h.2 ▸ Below.refl _ _⟩
  · have hv : Utf8.valid c = true := by
      rcases hc with h | h | h
      · omega
      · omega
      · exact h.2
    by_cases h1 : c < 128
    · refine (idx_low digs c (by omega) h1 w).mono fun e w' h => ?_
      have := first_digs ⟨c.toNat, by omega⟩
      have hcc : ((c.toNat : Nat) : Int) = c := by omega
      simp only [hcc] at this
      exact ⟨by rw [h.1, this], h.2 ▸ Below.refl _ _⟩
    · rw [hexv_high (by omega)]
      by_cases h2 : c = 65533
      · subst h2
        exact idx_error digs digs_ascii (by rw [digs_size]; omega) w
      · exact idx_high digs digs_ascii (by rw [digs_size]; omega) (by rw [digs_size]; omega) c hv (by omega) h2 w

theorem digit_calls (c : Int) (hc : IsChar c) (w : World) : Calls Tryd.prog 36 #[.int .i32 c] w fun e w' => e = .returned (.int .i64 (hexv c)) ∧ Below w.heap.size w w' := by
  have h := hid (idx_digs c hc w)
  clear hc
  go_enter Tryd.func36, Tryd.ntmps36
  go_wp2_with fail
  refine h.out.mono ?_
  rintro _ w1 ⟨rfl, b1⟩
  go_wp2_with fail
  go_ret
  exact ⟨rfl, b1⟩
theorem isDigit_calls (c : Int) (hc : IsChar c) (w : World) : Calls Tryd.prog 37 #[.int .i32 c] w fun e w' => e = .returned (.bool (decide (0 ≤ hexv c))) ∧ Below w.heap.size w w' := by
  have h := hid (digit_calls c hc w)
  clear hc
  go_enter Tryd.func37, Tryd.ntmps37
  go_wp2_with fail
  refine h.out.mono ?_
  rintro _ w1 ⟨rfl, b1⟩
  go_wp2_with fail
  go_ret
  exact ⟨rfl, b1⟩
theorem isEnd_calls (c : Int) (w : World) : Calls Tryd.prog 42 #[.int .i32 c] w fun e w' => e = .returned (.bool (c == -1)) ∧ Below w.heap.size w w' := by
  go_enter Tryd.func42, Tryd.ntmps42
  go_wp2_with fail
  go_ret
  exact ⟨rfl, Below.refl _ _⟩

/-- a function value: a function of the program, with a receiver or none -/
def fv (k : FuncId) (first : Array Value) : Value := .func (.func k) first #[]
/-- the value, or none -/
def pick (b : Bool) (v : Value) : Value := if b = true then v else .nilFunc
def Enters' (k : FuncId) : Prop := ∀ args w, (callFunc k args).run Tryd.prog w = .ok (.enter k args) w

theorem pass_calls (c : Int) (k : FuncId) (nx : Value) (b : Bool) (w : World) (he : Enters' k) (ha : Calls Tryd.prog k #[.int .i32 c] w fun e w' => e = .returned (.bool b) ∧ Below w.heap.size w w') :
    Calls Tryd.prog 29 #[.int .i32 c, .func (.func k) #[] #[], nx] w fun e w' => e = .returned (pick b nx) ∧ Below w.heap.size w w' := by
  have h := hid ha; have hE := he
  unfold Enters' at hE
  clear ha he
  cases b
  · go_enter Tryd.func29, Tryd.ntmps29
    go_wp2_with fail
    refine h.out.mono ?_
    rintro _ w1 ⟨rfl, b1⟩
    go_wp2_with fail
    go_ret
    exact ⟨rfl, b1⟩
  · go_enter Tryd.func29, Tryd.ntmps29
    go_wp2_with fail
    refine h.out.mono ?_
    rintro _ w1 ⟨rfl, b1⟩
    go_wp2_with fail
    go_ret
    exact ⟨rfl, b1⟩
theorem ends_calls (c : Int) (w : World) : Calls Tryd.prog 33 #[.int .i32 c] w fun e w' => e = .returned (pick (c == -1) (.func (.func 33) #[] #[])) ∧ Below w.heap.size w w' := by
  have hE : Enters' 42 := enters_of Tryd.func42 (by kernel_rfl) rfl
  have h := hid (pass_calls c 42 (.func (.func 33) #[] #[]) _ w hE (isEnd_calls c w))
  clear hE
  go_enter Tryd.func33, Tryd.ntmps33
  go_wp2_with fail
  refine h.out.mono ?_
  rintro _ w1 ⟨rfl, b1⟩
  go_wp2_with fail
  go_ret
  exact ⟨rfl, b1⟩
end Go.Proofs.YtgbjnndebdmijaaDoor
