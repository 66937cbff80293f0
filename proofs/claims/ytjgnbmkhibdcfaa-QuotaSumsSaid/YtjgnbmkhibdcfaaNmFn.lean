/- Contracts: the questions that a char is asked, pass, ends. -/
import Derived.Test.YtjgnbmkhibdcfaaNmIdx
namespace Go.Proofs.Ytjgnbmkhibdcfaa
open Go.RowKit

def hexv (r : Int) : Int := if 48 ≤ r ∧ r ≤ 57 then r - 48 else if 97 ≤ r ∧ r ≤ 102 then r - 87 else -1
def digs : ByteArray := ⟨#[48, 49, 50, 51, 52, 53, 54, 55, 56, 57, 97, 98, 99, 100, 101, 102]⟩
theorem first_digs : ∀ n : Fin 128, firstIdx digs n.val.toUInt8 = hexv (n.val : Int) := by decide +kernel
theorem digs_ascii : ∀ b ∈ digs.data.toList, b.toNat < 128 := by decide +kernel
theorem digs_size : digs.size = 16 := rfl
/-- what a char can be: the end, a broken byte, a rune -/
def IsChar (c : Int) : Prop := c = -1 ∨ c = -2 ∨ 0 ≤ c ∧ Utf8.valid c = true
theorem hexv_high {c : Int} (h : c < 48 ∨ 128 ≤ c) : hexv c = -1 := by unfold hexv; rw [if_neg (by omega), if_neg (by omega)]

theorem isEnd_calls (c : Int) (w : World) : Calls Try.prog 102 #[.int .i32 c] w fun e w' => e = .returned (.bool (c == -1)) ∧ Below w.heap.size w w' := by
  go_enter Try.func102, Try.ntmps102
  go_wp2_with fail
  go_ret
  exact ⟨rfl, Below.refl _ _⟩

/-- a function value: a function of the program, with a receiver or none -/
def fv (k : FuncId) (first : Array Value) : Value := .func (.func k) first #[]
/-- the value, or none -/
def pick (b : Bool) (v : Value) : Value := if b = true then v else .nilFunc
def Enters' (k : FuncId) : Prop := ∀ args w, (callFunc k args).run Try.prog w = .ok (.enter k args) w

theorem nm_pass_calls (c : Int) (k : FuncId) (nx : Value) (b : Bool) (w : World) (he : Enters' k) (ha : Calls Try.prog k #[.int .i32 c] w fun e w' => e = .returned (.bool b) ∧ Below w.heap.size w w') :
    Calls Try.prog 77 #[.int .i32 c, .func (.func k) #[] #[], nx] w fun e w' => e = .returned (pick b nx) ∧ Below w.heap.size w w' := by
  have h := hid ha; have hE := he
  unfold Enters' at hE
  clear ha he
  cases b
  · go_enter Try.func77, Try.ntmps77
    go_wp2_with fail
    refine h.out.mono ?_
    rintro _ w1 ⟨rfl, b1⟩
    go_wp2_with fail
    go_ret
    exact ⟨rfl, b1⟩
  · go_enter Try.func77, Try.ntmps77
    go_wp2_with fail
    refine h.out.mono ?_
    rintro _ w1 ⟨rfl, b1⟩
    go_wp2_with fail
    go_ret
    exact ⟨rfl, b1⟩
theorem ends_calls (c : Int) (w : World) : Calls Try.prog 94 #[.int .i32 c] w fun e w' => e = .returned (pick (c == -1) (.func (.func 94) #[] #[])) ∧ Below w.heap.size w w' := by
  have hE : Enters' 102 := enters_of Try.func102 (by kernel_rfl) rfl
  have h := hid (nm_pass_calls c 102 (.func (.func 94) #[] #[]) _ w hE (isEnd_calls c w))
  clear hE
  go_enter Try.func94, Try.ntmps94
  go_wp2_with fail
  refine h.out.mono ?_
  rintro _ w1 ⟨rfl, b1⟩
  go_wp2_with fail
  go_ret
  exact ⟨rfl, b1⟩
end Go.Proofs.Ytjgnbmkhibdcfaa
