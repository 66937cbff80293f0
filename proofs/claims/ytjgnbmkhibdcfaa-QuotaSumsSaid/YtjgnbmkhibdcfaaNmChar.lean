/- Contracts: which chars stand in words and tags; the machine of names of repositories. -/
import Derived.Test.YtjgnbmkhibdcfaaNmExam
namespace Go.Proofs.Ytjgnbmkhibdcfaa
open Go.RowKit
attribute [local go_sem] eql_func eql_none
theorem run_mkF (fn : Fn) (first cap : Array Value) (w : World) : (Instr.makeFunc fn first cap).run Try.prog w = .ok (.func fn first cap) w := rfl
attribute [local go_sem] run_mkF

def inW (c : Int) : Bool := decide (97 ≤ c) && decide (c ≤ 122) || decide (48 ≤ c) && decide (c ≤ 57)
set_option maxHeartbeats 1000000 in
theorem inWord_calls (c : Int) (w : World) : Calls Try.prog 75 #[.int .i32 c] w fun e w' => e = .returned (.bool (inW c)) ∧ Below w.heap.size w w' := by
  obtain ⟨b, hb⟩ : ∃ b, inW c = b := ⟨_, rfl⟩
  rw [hb]
  by_cases h1 : 97 ≤ c
  · have d1 : decide (97 ≤ c) = true := by simpa using h1
    by_cases h2 : c ≤ 122
    · have d2 : decide (c ≤ 122) = true := by simpa using h2
      obtain rfl : true = b := by rw [← hb]; unfold inW; rw [d1, d2]; rfl
      clear hb
      go_enter Try.func75, Try.ntmps75
      go_wp2_with fail
      go_ret
      exact ⟨rfl, Below.refl _ _⟩
    · have d2 : decide (c ≤ 122) = false := by simpa using h2
      have h4 : ¬ c ≤ 57 := by omega
      have h3 : 48 ≤ c := by omega
      have d4 : decide (c ≤ 57) = false := by simpa using h4
      have d3 : decide (48 ≤ c) = true := by simpa using h3
      obtain rfl : false = b := by rw [← hb]; unfold inW; rw [d1, d2, d3, d4]; rfl
      clear hb
      go_enter Try.func75, Try.ntmps75
      go_wp2_with fail
      go_ret
      exact ⟨rfl, Below.refl _ _⟩
  · have d1 : decide (97 ≤ c) = false := by simpa using h1
    by_cases h3 : 48 ≤ c
    · have d3 : decide (48 ≤ c) = true := by simpa using h3
      by_cases h4 : c ≤ 57
      · have d4 : decide (c ≤ 57) = true := by simpa using h4
        obtain rfl : true = b := by rw [← hb]; unfold inW; rw [d1, d3, d4]; rfl
        clear hb
        go_enter Try.func75, Try.ntmps75
        go_wp2_with fail
        go_ret
        exact ⟨rfl, Below.refl _ _⟩
      · have d4 : decide (c ≤ 57) = false := by simpa using h4
        obtain rfl : false = b := by rw [← hb]; unfold inW; rw [d1, d3, d4]; rfl
        clear hb
        go_enter Try.func75, Try.ntmps75
        go_wp2_with fail
        go_ret
        exact ⟨rfl, Below.refl _ _⟩
    · have d3 : decide (48 ≤ c) = false := by simpa using h3
      obtain rfl : false = b := by rw [← hb]; unfold inW; rw [d1, d3]; rfl
      clear hb
      go_enter Try.func75, Try.ntmps75
      go_wp2_with fail
      go_ret
      exact ⟨rfl, Below.refl _ _⟩

/-! ### a word: its block holds two questions and what comes behind -/
/-- the cells of a machine that begins with a word -/
def wcells (f m : FuncId) (after : Value) (more : List Value) : Array Value := (.func (.func f) #[] #[] :: .func (.func m) #[] #[] :: after :: more).toArray
theorem ptr_first (g : Nat) (c : Int) : (#[.pointer (some ⟨g, 0, none⟩)] ++ #[.int .i32 c] : Array Value) = #[.pointer (some ⟨g, 0, none⟩), .int .i32 c] := rfl

theorem nm_begin_calls (g : Nat) (T : TypeId) (f m : FuncId) (after : Value) (more : List Value) (c : Int) (b : Bool) (w : World) (he : Enters' f) (hf : ∀ w, Calls Try.prog f #[.int .i32 c] w fun e w' => e = .returned (.bool b) ∧ Below w.heap.size w w') (hb : Blk w g T (wcells f m after more)) :
    Calls Try.prog 68 #[.pointer (some ⟨g, 0, none⟩), .int .i32 c] w fun e w' => e = .returned (pick b (.func (.func 78) #[.pointer (some ⟨g, 0, none⟩)] #[])) ∧ Below w.heap.size w w' := by
  have c0 := hb.cell 0 (show (wcells f m after more)[0]? = some (.func (.func f) #[] #[]) from rfl)
  have HP := hid (nm_pass_calls c f (.func (.func 78) #[.pointer (some ⟨g, 0, none⟩)] #[]) b w he (hf w))
  clear hb he hf
  go_enter Try.func68, Try.ntmps68
  go_wp2_with fail
  refine HP.out.mono ?_
  rintro e w1 ⟨rfl, b1⟩
  go_wp2_with fail
  go_ret
  exact ⟨rfl, b1⟩
theorem inside_more (g : Nat) (T : TypeId) (f m : FuncId) (after : Value) (more : List Value) (c : Int) (w : World) (he : Enters' m) (hf : ∀ w, Calls Try.prog m #[.int .i32 c] w fun e w' => e = .returned (.bool true) ∧ Below w.heap.size w w') (hb : Blk w g T (wcells f m after more)) :
    Calls Try.prog 78 #[.pointer (some ⟨g, 0, none⟩), .int .i32 c] w fun e w' => e = .returned (.func (.func 78) #[.pointer (some ⟨g, 0, none⟩)] #[]) ∧ Below w.heap.size w w' := by
  have c1 := hb.cell 1 (show (wcells f m after more)[1]? = some (.func (.func m) #[] #[]) from rfl)
  have HF := hid hf
  unfold Enters' at he
  clear hb hf
  go_enter Try.func78, Try.ntmps78
  go_wp2_with fail
  refine (HF.out _).mono ?_
  rintro e w1 ⟨rfl, b1⟩
  go_wp2_with fail
  go_ret
  exact ⟨rfl, b1⟩
theorem inside_less (g : Nat) (T : TypeId) (f m ka : FuncId) (fa : Array Value) (more : List Value) (c : Int) (w : World) (Q : Ending → World → Prop) (he : Enters' m) (hf : ∀ w, Calls Try.prog m #[.int .i32 c] w fun e w' => e = .returned (.bool false) ∧ Below w.heap.size w w') (hb : Blk w g T (wcells f m (.func (.func ka) fa #[]) more))
    (hea : Enters' ka) (ha : ∀ w1, Below w.heap.size w w1 → Calls Try.prog ka (fa ++ #[.int .i32 c]) w1 fun e w' => (∃ v, e = .returned v) ∧ Q e w') :
    Calls Try.prog 78 #[.pointer (some ⟨g, 0, none⟩), .int .i32 c] w Q := by
  have c1 := hb.cell 1 (show (wcells f m (.func (.func ka) fa #[]) more)[1]? = some (.func (.func m) #[] #[]) from rfl)
  have HF := hid hf; have HB := hid hb; have HA := hid ha
  unfold Enters' at he hea
  clear hb hf ha
  go_enter Try.func78, Try.ntmps78
  go_wp2_with fail
  refine (HF.out _).mono ?_
  rintro e w1 ⟨rfl, b1⟩
  have c2 := (HB.out.keep b1).cell 2 (show (wcells f m (.func (.func ka) fa #[]) more)[2]? = some (.func (.func ka) fa #[]) from rfl)
  have B1 := hid b1
  clear b1
  go_wp2_with fail
  refine (HA.out _ B1.out).mono ?_
  rintro e w2 ⟨⟨v, rfl⟩, hq⟩
  have HQ := hid hq
  clear hq
  go_wp2_with fail
  exact HQ.out

/-! ### names of repositories -/
def BG : FuncId := 68
def IN : FuncId := 78
def LN : FuncId := 91
def DS : FuncId := 92
def EN : FuncId := 94
def rpcells (g p : Nat) : Array Value := wcells 75 75 (.func (.func 76) #[.pointer (some ⟨g, 0, none⟩)] #[]) [.int .i64 (p : Int)]
def ptr (g : Nat) : Array Value := #[.pointer (some ⟨g, 0, none⟩)]
/-- how the machine goes on: which state, how many parts -/
def rstep (k : FuncId) (p : Nat) (c : Int) : Option (FuncId × Nat) :=
  if k = BG then (if inW c = true then some (IN, p) else none)
  else if k = IN then (if inW c = true then some (IN, p) else if c = 46 then some (BG, p) else if c = 95 then some (LN, p) else if c = 45 then some (DS, p) else if c = 47 then (if p = 8 then none else some (BG, p + 1)) else if c = -1 then some (EN, p) else none)
  else if k = LN then (if c = 95 then some (BG, p) else if inW c = true then some (IN, p) else none)
  else if k = DS then (if c = 45 then some (DS, p) else if inW c = true then some (IN, p) else none)
  else none
/-- what a state leaves, by the step -/
def Goes (g : Nat) (w : World) (r : Option (FuncId × Nat)) (e : Ending) (w' : World) : Prop :=
  w.grownBy w' (some g) ∧ match r with
    | none => e = .returned .nilFunc
    | some (k, p) => e = .returned (.func (.func k) (if k = EN then #[] else ptr g) #[]) ∧ Blk w' g 115 (rpcells g p)

theorem inWord_enters : Enters' 75 := enters_of Try.func75 (by kernel_rfl) rfl
theorem afterWord_enters : Enters' 76 := enters_of Try.func76 (by kernel_rfl) rfl
theorem bg_goes (g p : Nat) (c : Int) (w : World) (hb : Blk w g 115 (rpcells g p)) :
    Calls Try.prog BG (ptr g ++ #[.int .i32 c]) w (Goes g w (if inW c = true then some (IN, p) else none)) := by
  refine (nm_begin_calls g 115 _ _ _ _ c (inW c) w inWord_enters (inWord_calls c) hb).mono ?_
  rintro e w' ⟨rfl, b⟩
  refine ⟨grown_of_below b _, ?_⟩
  cases h : inW c with
  | true => exact ⟨rfl, hb.keep b⟩
  | false => exact rfl
theorem ln_goes (g p : Nat) (c : Int) (w : World) (hb : Blk w g 115 (rpcells g p)) :
    Calls Try.prog LN (ptr g ++ #[.int .i32 c]) w (Goes g w (rstep LN p c)) := by
  show Calls Try.prog 91 #[.pointer (some ⟨g, 0, none⟩), .int .i32 c] w _
  by_cases h : c = 95
  · subst h
    have HB := hid hb
    clear hb
    go_enter Try.func91, Try.ntmps91
    go_wp2_with fail
    go_ret
    exact ⟨World.grownBy.refl _ _, rfl, HB.out⟩
  · have q : (c == 95) = false := beq_eq_false_iff_ne.2 h
    have HB := hid (bg_goes g p c w hb)
    cases hw : inW c with
    | true =>
      rw [hw] at HB
      have HR := hid (show rstep LN p c = some (IN, p) by unfold rstep; simp [h, hw, BG, IN, LN])
      clear hb h hw
      go_enter Try.func91, Try.ntmps91
      go_wp2_with fail
      refine HB.out.mono ?_
      rintro e w2 ⟨gx, rfl, hb2⟩
      have HG := hid (show Goes g w (rstep LN p c) (.returned (.func (.func IN) (ptr g) #[])) w2 by rw [HR.out]; exact ⟨gx, rfl, hb2⟩)
      clear gx hb2 HR HB
      go_wp2_with fail
      go_ret
      exact HG.out
    | false =>
      rw [hw] at HB
      have HR := hid (show rstep LN p c = none by unfold rstep; simp [h, hw, BG, IN, LN])
      clear hb h hw
      go_enter Try.func91, Try.ntmps91
      go_wp2_with fail
      refine HB.out.mono ?_
      rintro e w2 ⟨gx, rfl⟩
      have HG := hid (show Goes g w (rstep LN p c) (.returned .nilFunc) w2 by rw [HR.out]; exact ⟨gx, rfl⟩)
      clear gx HR HB
      go_wp2_with fail
      go_ret
      exact HG.out
theorem ds_goes (g p : Nat) (c : Int) (w : World) (hb : Blk w g 115 (rpcells g p)) :
    Calls Try.prog DS (ptr g ++ #[.int .i32 c]) w (Goes g w (rstep DS p c)) := by
  show Calls Try.prog 92 #[.pointer (some ⟨g, 0, none⟩), .int .i32 c] w _
  by_cases h : c = 45
  · subst h
    have HB := hid hb
    clear hb
    go_enter Try.func92, Try.ntmps92
    go_wp2_with fail
    go_ret
    exact ⟨World.grownBy.refl _ _, rfl, HB.out⟩
  · have q : (c == 45) = false := beq_eq_false_iff_ne.2 h
    have HB := hid (bg_goes g p c w hb)
    cases hw : inW c with
    | true =>
      rw [hw] at HB
      have HR := hid (show rstep DS p c = some (IN, p) by unfold rstep; simp [h, hw, BG, IN, LN, DS])
      clear hb h hw
      go_enter Try.func92, Try.ntmps92
      go_wp2_with fail
      refine HB.out.mono ?_
      rintro e w2 ⟨gx, rfl, hb2⟩
      have HG := hid (show Goes g w (rstep DS p c) (.returned (.func (.func IN) (ptr g) #[])) w2 by rw [HR.out]; exact ⟨gx, rfl, hb2⟩)
      clear gx hb2 HR HB
      go_wp2_with fail
      go_ret
      exact HG.out
    | false =>
      rw [hw] at HB
      have HR := hid (show rstep DS p c = none by unfold rstep; simp [h, hw, BG, IN, LN, DS])
      clear hb h hw
      go_enter Try.func92, Try.ntmps92
      go_wp2_with fail
      refine HB.out.mono ?_
      rintro e w2 ⟨gx, rfl⟩
      have HG := hid (show Goes g w (rstep DS p c) (.returned .nilFunc) w2 by rw [HR.out]; exact ⟨gx, rfl⟩)
      clear gx HR HB
      go_wp2_with fail
      go_ret
      exact HG.out
end Go.Proofs.Ytjgnbmkhibdcfaa
