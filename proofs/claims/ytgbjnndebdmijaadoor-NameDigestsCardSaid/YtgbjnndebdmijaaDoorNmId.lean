/- The machine that reads a digest, state by state. -/
import Derived.Test.YtgbjnndebdmijaaDoorNmLow
import Derived.Test.YtgbjnndebdmijaaDoorNmIdMath
namespace Go.Proofs.YtgbjnndebdmijaaDoor
open Go.RowKit

def stF (pos : Nat) : FuncId :=
  if pos < 7 then 15 else if pos < 71 then (if (pos - 7) % 2 = 0 then 26 else 38) else 33
def stR (g pos : Nat) : Array Value := if pos < 71 then #[.pointer (some ⟨g, 0, none⟩)] else #[]
/-- how the machine stands at a place -/
def DI (l : List UInt8) (g pos : Nat) (k : FuncId) (first cs : Array Value) : Prop :=
  pos ≤ 71 ∧ pos ≤ l.length ∧ stopAt l = scan (l.drop pos) pos ∧ k = stF pos ∧ first = stR g pos ∧ cs = dcells (idAt l (pos - 7)) (min pos 7) ((pos - 7) / 2)
def DStop (l : List UInt8) (pos : Nat) : Prop := stopAt l = pos ∧ ¬ (pos = 71 ∧ l.length = 71)
def DDone (l : List UInt8) (cs : Array Value) : Prop := stopAt l = 71 ∧ l.length = 71 ∧ cs = dcells (idAt l 64) 7 32

theorem stF_enters (pos : Nat) : Enters' (stF pos) := by
  unfold stF
  split
  · exact enters_of Tryd.func15 (by kernel_rfl) rfl
  · split
    · split
      · exact enters_of Tryd.func26 (by kernel_rfl) rfl
      · exact enters_of Tryd.func38 (by kernel_rfl) rfl
    · exact enters_of Tryd.func33 (by kernel_rfl) rfl
theorem arr_two (a b : Value) : (#[a] ++ #[b] : Array Value) = #[a, b] := rfl
theorem arr_one (b : Value) : (#[] ++ #[b] : Array Value) = #[b] := rfl

/-- a char that is no good there is told so -/
theorem id_bad (l : List UInt8) (g pos : Nat) (k : FuncId) (first cs : Array Value) (c : Int) (wr : World) (S : Prop) (N : FuncId → Array Value → Array Value → Prop) (hI : DI l g pos k first cs) (hb : Blk wr g 37 cs) (hc : IsChar c)
    (h1 : ∀ x : UInt8, headL[pos]? = some x → c ≠ (x.toNat : Int)) (h2 : 7 ≤ pos → pos < 71 → hexv c = -1) (h3 : pos = 71 → c ≠ -1) (hS : S) :
    Calls Tryd.prog k (first ++ #[.int .i32 c]) wr (Took g 37 wr S N) := by
  obtain ⟨p1, p2, p3, rfl, rfl, rfl⟩ := hI
  by_cases q1 : pos < 7
  · rw [show stF pos = 15 by unfold stF; rw [if_pos q1], show stR g pos = #[.pointer (some ⟨g, 0, none⟩)] by unfold stR; rw [if_pos (by omega)], arr_two]
    have e1 : min pos 7 = pos := by omega
    have e2 : (pos - 7) / 2 = 0 := by omega
    rw [e1, e2] at hb
    have hlt : pos < headL.length := by show pos < 7; exact q1
    have hx : headL[pos]? = some headL[pos] := List.getElem?_eq_getElem hlt
    have hx2 : ([115, 104, 97, 50, 53, 54, 58] : List Int)[pos]? = some ((headL[pos].toNat : Nat) : Int) := by
      have : ∀ i : Fin 7, ([115, 104, 97, 50, 53, 54, 58] : List Int)[i.val]? = headL[i.val]?.map fun x => ((x.toNat : Nat) : Int) := by decide
      have := this ⟨pos, q1⟩
      simp only at this
      rw [this, hx]; rfl
    refine (scheme_no g _ pos q1 c _ hx2 (h1 _ hx) wr (idAt_length _ _) hb).mono ?_
    rintro e w' ⟨rfl, rfl⟩
    exact ⟨World.grownBy.refl _ _, .inl ⟨rfl, hS⟩⟩
  · by_cases q2 : pos < 71
    · have hv := h2 (by omega) q2
      have e1 : min pos 7 = 7 := by omega
      rw [e1] at hb
      by_cases q3 : (pos - 7) % 2 = 0
      · rw [show stF pos = 26 by unfold stF; rw [if_neg q1, if_pos q2, if_pos q3], show stR g pos = #[.pointer (some ⟨g, 0, none⟩)] by unfold stR; rw [if_pos q2], arr_two]
        refine (high_no g _ _ (by omega) c hc hv wr (idAt_length _ _) hb).mono ?_
        rintro e w' ⟨rfl, gx⟩
        exact ⟨gx, .inl ⟨rfl, hS⟩⟩
      · rw [show stF pos = 38 by unfold stF; rw [if_neg q1, if_pos q2, if_neg q3], show stR g pos = #[.pointer (some ⟨g, 0, none⟩)] by unfold stR; rw [if_pos q2], arr_two]
        refine (low_no g _ _ (by omega) c hc hv wr (idAt_length _ _) hb).mono ?_
        rintro e w' ⟨rfl, gx⟩
        exact ⟨gx, .inl ⟨rfl, hS⟩⟩
    · rw [show stF pos = 33 by unfold stF; rw [if_neg q1, if_neg q2], show stR g pos = #[] by unfold stR; rw [if_neg q2], arr_one]
      refine (ends_calls c wr).mono ?_
      rintro e w' ⟨rfl, b⟩
      rw [beq_eq_false_iff_ne.2 (h3 (by omega))]
      exact ⟨grown_of_below b _, .inl ⟨rfl, hS⟩⟩

theorem id_good (l : List UInt8) (g pos : Nat) (k : FuncId) (first cs : Array Value) (wr : World) (S : Prop) (hI : DI l g pos k first cs) (hb : Blk wr g 37 cs) (hlt : pos < l.length) (hg : goodB pos l[pos] = true) :
    Calls Tryd.prog k (first ++ #[.int .i32 ((l[pos]).toNat : Int)]) wr (Took g 37 wr S (DI l g (pos + 1))) := by
  have hasc := good_ascii hg
  have hc : IsChar ((l[pos]).toNat : Int) := .inr (.inr ⟨by omega, by
    rw [validRune_eq, validRune]; exact decide_eq_true (.inl ⟨by omega, by omega⟩)⟩)
  obtain ⟨p1, p2, p3, rfl, rfl, rfl⟩ := hI
  rw [scan_good hlt hg] at p3
  have hsz := idAt_length l (pos - 7)
  by_cases q1 : pos < 7
  · rw [show stF pos = 15 by unfold stF; rw [if_pos q1], show stR g pos = #[.pointer (some ⟨g, 0, none⟩)] by unfold stR; rw [if_pos (by omega)], arr_two]
    have e1 : min pos 7 = pos := by omega
    have e2 : (pos - 7) / 2 = 0 := by omega
    have e3 : pos - 7 = 0 := by omega
    rw [e1, e2] at hb
    refine (scheme_yes g _ pos q1 _ (good_head q1 hg) wr hsz hb).mono ?_
    rintro e w' ⟨rfl, gx, hb2⟩
    refine ⟨gx, .inr ⟨_, _, _, rfl, ⟨by omega, hlt, p3, ?_, ?_, rfl⟩, ?_⟩⟩
    · unfold stF
      by_cases q : pos < 6
      · rw [if_pos q, if_pos (by omega)]
      · rw [if_neg q, if_neg (by omega), if_pos (by omega), if_pos (by omega)]
    · unfold stR; rw [if_pos (by omega)]
    · rw [show pos + 1 - 7 = pos - 7 by omega, show min (pos + 1) 7 = pos + 1 by omega, e2]
      exact hb2
  · obtain ⟨q2, hv⟩ := good_digit (by omega) hg
    have e1 : min pos 7 = 7 := by omega
    have e1' : min (pos + 1) 7 = 7 := by omega
    rw [e1] at hb
    have hv2 := (hexv_le ((l[pos]).toNat : Int)).2
    have hxx := hx_of hlt (by omega)
    have en : pos + 1 - 7 = (pos - 7) + 1 := by omega
    by_cases q3 : (pos - 7) % 2 = 0
    · rw [show stF pos = 26 by unfold stF; rw [if_neg q1, if_pos q2, if_pos q3], show stR g pos = #[.pointer (some ⟨g, 0, none⟩)] by unfold stR; rw [if_pos q2], arr_two]
      refine (high_yes g _ ((pos - 7) / 2) (by omega) _ hc hv hv2 wr hsz hb).mono ?_
      rintro e w' ⟨rfl, gx, hb2⟩
      refine ⟨gx, .inr ⟨_, _, _, rfl, ⟨by omega, hlt, p3, ?_, ?_, rfl⟩, ?_⟩⟩
      · unfold stF; rw [if_neg (by omega), if_pos (by omega), if_neg (by omega)]
      · unfold stR; rw [if_pos (by omega)]
      · rw [e1', en, ← idAt_even l (pos - 7) ((pos - 7) / 2) (by omega) (by omega), hxx, show (pos - 7 + 1) / 2 = (pos - 7) / 2 by omega]
        exact hb2
    · rw [show stF pos = 38 by unfold stF; rw [if_neg q1, if_pos q2, if_neg q3], show stR g pos = #[.pointer (some ⟨g, 0, none⟩)] by unfold stR; rw [if_pos q2], arr_two]
      have hy := idAt_odd_get l (pos - 7) ((pos - 7) / 2) (by omega) (by omega)
      have hset := idAt_odd l (pos - 7) ((pos - 7) / 2) (by omega) (by omega)
      rw [hxx] at hset
      by_cases q4 : pos < 70
      · refine (low_more g _ ((pos - 7) / 2) (by omega) (by omega) _ hc hv hv2 _ hy wr hsz hb).mono ?_
        rintro e w' ⟨rfl, gx, hb2⟩
        refine ⟨gx, .inr ⟨_, _, _, rfl, ⟨by omega, hlt, p3, ?_, ?_, rfl⟩, ?_⟩⟩
        · unfold stF; rw [if_neg (by omega), if_pos (by omega), if_pos (by omega)]
        · unfold stR; rw [if_pos (by omega)]
        · rw [e1', en, ← hset, show (pos - 7 + 1) / 2 = (pos - 7) / 2 + 1 by omega]
          exact hb2
      · refine (low_last g _ ((pos - 7) / 2) (by omega) (by omega) _ hc hv hv2 _ hy wr hsz hb).mono ?_
        rintro e w' ⟨rfl, gx, hb2⟩
        refine ⟨gx, .inr ⟨_, _, _, rfl, ⟨by omega, hlt, p3, ?_, ?_, rfl⟩, ?_⟩⟩
        · unfold stF; rw [if_neg (by omega), if_neg (by omega)]
        · unfold stR; rw [if_neg (by omega)]
        · rw [e1', en, ← hset, show (pos - 7 + 1) / 2 = (pos - 7) / 2 + 1 by omega]
          exact hb2
end Go.Proofs.YtgbjnndebdmijaaDoor
