/- Contracts of package blob: what stands alone: unless, first, valid; bytes cloned and compared. -/
import Derived.Test.YtoogaapjdlhpbaaDoorBlMem
import Derived.LaidEqlPtr
import Derived.Laws.EntriesVeiled
namespace Go.Proofs.YtoogaapjdlhpbaaDoor
open Go.RowKit

theorem sameBytes_calls (B n c B' n' c' : Nat) (A A' : Option Addr) (xs bs : List UInt8) (w : World) (ha : SB w B A n xs) (hb : SB w B' A' n' bs) :
    Calls Tryd.prog 37 #[.slice A n c, .slice A' n' c'] w fun e w' => e = .returned (.bool (xs == bs)) ∧ w = w' := by
  have h1 := run_str (P := Tryd.prog) ha c 33 9 5 Tryd.underlying33 Tryd.underlying5 Tryd.underlying9
  have h2 := run_str (P := Tryd.prog) hb c' 33 9 5 Tryd.underlying33 Tryd.underlying5 Tryd.underlying9
  go_enter Tryd.func37, Tryd.ntmps37
  go_wp2_with fail
  go_ret
  exact ⟨ret_bool (strB_eq xs bs), rfl⟩
theorem equal_calls (B n c B' n' c' : Nat) (A A' : Option Addr) (xs bs : List UInt8) (w : World) (ha : SB w B A n xs) (hb : SB w B' A' n' bs) :
    Calls Tryd.prog 62 #[.slice A n c, .slice A' n' c'] w fun e w' => e = .returned (.bool (xs == bs)) ∧ w = w' := by
  have h1 := run_str (P := Tryd.prog) ha c 33 9 5 Tryd.underlying33 Tryd.underlying5 Tryd.underlying9
  have h2 := run_str (P := Tryd.prog) hb c' 33 9 5 Tryd.underlying33 Tryd.underlying5 Tryd.underlying9
  go_enter Tryd.func62, Tryd.ntmps62
  go_wp2_with fail
  go_ret
  exact ⟨ret_bool (strB_eq xs bs), rfl⟩
theorem eql_nil {P : Program} (w : World) (t e : TypeId) (a : Option Addr) (n c : Nat) (h : P.underlying t = some (.slice e)) :
    (binOp .eql t (.slice a n c) (.slice none 0 0)).run P w = .ok (.bool a.isNone) w := by
  have hq : ∀ d : Nat, (Op.equalIn (d + 1) t (.slice a n c) (.slice none 0 0)).run P w = .ok a.isNone w := fun d => by
    cases a <;> simp [Op.equalIn, run_underlying h]
  simp only [binOp]
  simp [Op.equal, Op.maxDepth, hq 9999]
theorem info5b : (Tryd.prog.info? 5).map (fun i => (i.zero, i.size, i.bytes)) = some (some (.int .u8 0), 1, 1) := by kernel_rfl
theorem bl_clone (B n c : Nat) (A : Option Addr) (bs : List UInt8) (w : World) (hs : SB w B A n bs) (hc : n ≤ c) (hn : n ≤ 1099511627776) :
    Calls Tryd.prog 43 #[.slice A n c] w fun e w' => ∃ v, e = .returned v ∧ Own w' w.heap.size 5 v n bs ∧ Below w.heap.size w w' := by
  cases A with
  | none =>
    have hn0 : n = 0 := by
      rcases Nat.eq_zero_or_pos n with h | h
      · exact h
      · obtain ⟨_, _, e, _⟩ := hs.2 h; cases e
    subst hn0
    obtain rfl : bs = [] := List.eq_nil_of_length_eq_zero hs.1
    clear hs
    have hq := fun w => eql_nil (P := Tryd.prog) w 33 5 none 0 c Tryd.underlying33
    go_enter Tryd.func43, Tryd.ntmps43
    go_wp2_with fail
    go_ret
    exact ⟨_, rfl, Own.nil _ _ _, Below.refl _ _⟩
  | some a =>
    have HS := hid hs
    clear hs
    have hq := fun w => eql_nil (P := Tryd.prog) w 33 5 (some a) n c Tryd.underlying33
    go_enter Tryd.func43, Tryd.ntmps43
    go_wp2_with (at_builtin; refine Held.go ?_)
    have ho := Own.lit w 5 w.heap.size [] #[] 0 rfl rfl (Nat.le_refl _) (by omega)
    have hb := below_new w (.cells #[] 5)
    generalize w.alloc (.cells #[] 5) = w1 at ho hb ⊢
    refine wpList_append_bytes _ rfl _ _ _ rfl _ Tryd.underlying33 info5b w.heap.size _ 0 [] rfl ho B _ n c bs rfl (HS.out.keep hb) (by omega) hb.size ?_
    intro v' w' h1 h2 h3
    have HK := hid (show Own w' w.heap.size 5 v' n bs ∧ Below w.heap.size w w' from ⟨by simpa using h1, hb.trans (below_of_grown h2 hb.size (fun g e => (ho.block g e).1))⟩)
    clear h1 h2 h3 ho hb
    go_wp2_with fail
    go_ret
    exact ⟨v', rfl, HK.out⟩
theorem unless_calls (b : Bool) (k : Nat) (w : World) : Calls Tryd.prog 57 #[.bool b, .int .i64 (k : Int)] w fun e w' => e = .returned (.int .i64 ((if b then 0 else k : Nat) : Int)) ∧ w = w' := by
  cases b with
  | true =>
    go_enter Tryd.func57, Tryd.ntmps57
    go_wp2_with fail
    go_ret
    exact ⟨rfl, rfl⟩
  | false =>
    go_enter Tryd.func57, Tryd.ntmps57
    go_wp2_with fail
    go_ret
    exact ⟨rfl, rfl⟩
/-- a function value: a function of the program, what stands ahead of its arguments, and what it holds -/
structure FnV where
  k : FuncId
  first : Array Value
  cap : Array Value
def fnV (f : FnV) : Value := .func (.func f.k) f.first f.cap
def EntersV (k : FuncId) : Prop := ∀ args w, (callFunc k args).run Tryd.prog w = .ok (.enter k args) w
/-- the first number that is not 0 -/
def firstE : List Nat → Nat
  | [] => 0
  | e :: l => if e = 0 then firstE l else e
theorem firstE_zero {es : List Nat} (h : ∀ e ∈ es, e = 0) : firstE es = 0 := by
  induction es with
  | nil => rfl
  | cons e l ih => rw [firstE, if_pos (h e (by simp))]; exact ih (fun x hx => h x (by simp [hx]))
set_option maxRecDepth 20000 in
set_option maxHeartbeats 4000000 in
theorem first_calls (es : List Nat) (vs : List FnV) (b c n : Nat) (w : World) (hl : vs.length = es.length) (hn : es.length = n) (hn2 : n ≤ 1099511627776)
    (hcell : ∀ (k : Nat) v, vs[k]? = some v → w.cell? ⟨b, k, none⟩ = some (fnV v))
    (hstep : ∀ (k : Nat) e v, es[k]? = some e → vs[k]? = some v → (∀ j < k, es[j]? = some 0) → EntersV v.k ∧ ∀ W, Below w.heap.size w W → Calls Tryd.prog v.k (v.first ++ v.cap) W fun x W' => x = .returned (.int .i64 (e : Int)) ∧ Below w.heap.size w W') :
    Calls Tryd.prog 55 #[.slice (some ⟨b, 0, none⟩) n c] w fun e w' => e = .returned (.int .i64 ((firstE es : Nat) : Int)) ∧ Below w.heap.size w w' := by
  have HC := hid hcell; have HS := hid hstep
  have HR := hid (show firstE (es.drop 0) = firstE es from rfl)
  clear hcell hstep
  generalize firstE es = R at HR ⊢
  go_enter Tryd.func55, Tryd.ntmps55
  go_wp2_with fail
  go_loopw [8] (fun v8 wr => ∃ (k : Nat), v8 = .int .i64 (k : Int) ∧ k ≤ n ∧ Hid (Below w.heap.size w wr) ∧ Hid (firstE (es.drop k) = R) ∧ Hid (∀ j < k, es[j]? = some 0)) (fun v8 _ => n - (intOf v8).toNat)
  case atStart => exact ⟨0, rfl, Nat.zero_le _, hid (Below.refl _ _), HR, hid (fun j h => absurd h (by omega))⟩
  case round =>
    clear HR
    obtain ⟨k, rfl, hk, HI, HR, HQ⟩ := hrel
    by_cases hlt : k < n
    · have hlt' : (k : Int) < (n : Int) := by omega
      obtain ⟨f, hf⟩ : ∃ f, es[k]? = some f := ⟨es[k]'(by omega), List.getElem?_eq_getElem (by omega)⟩
      obtain ⟨v, hv⟩ : ∃ v, vs[k]? = some v := ⟨vs[k]'(by omega), List.getElem?_eq_getElem (by omega)⟩
      have hc := (HI.out.cell (p := ⟨b, k, none⟩) (lt_of_cell (HC.out k v hv))).trans (HC.out k v hv)
      obtain ⟨hE, hS⟩ := HS.out k f v hf hv HQ.out
      unfold EntersV at hE
      have HST := hid (hS wr HI.out)
      have hd : es.drop k = f :: es.drop (k + 1) := by
        have hkf : k < es.length := by omega
        rw [List.drop_eq_getElem_cons hkf]
        rw [List.getElem?_eq_getElem hkf] at hf
        cases hf
        rfl
      rw [hd] at HR
      have HF := hid hf
      obtain ⟨fk, first, cap⟩ := v
      unfold fnV at hc
      dsimp only at hc hE HST
      clear hd hf hv hS HI
      go_wp2_with fail
      refine HST.out.mono ?_
      rintro _ w1 ⟨rfl, hI⟩
      have HI := hid hI
      clear hI HST hc hE
      by_cases hz : f = 0
      · subst hz
        have HR2 := hid (show firstE (es.drop (k + 1)) = R from by have := HR.out; rw [firstE, if_pos rfl] at this; exact this)
        have HQ2 := hid (show ∀ j < k + 1, es[j]? = some 0 from fun j hj => by
          by_cases e : j = k
          · rw [e]; exact HF.out
          · exact HQ.out j (by omega))
        rw [show ((0 : Nat) : Int) = 0 from rfl]
        clear HR HQ HF
        go_wp2_with fail
        go_roundw
        case rel => exact ⟨k + 1, by go_num, by omega, HI, HR2, HQ2⟩
        case measure => simp [intOf]; omega
      · have HE := hid (show f = R from by have := HR.out; rw [firstE, if_neg hz] at this; exact this)
        have hz' : ¬ (f : Int) = 0 := by omega
        clear HR hz HQ HF
        go_wp2_with fail
        go_ret
        exact ⟨by rw [← HE.out]; rfl, HI.out⟩
    · obtain rfl : k = n := by omega
      have HE := hid (show 0 = R from by
        have := HR.out
        rw [List.drop_of_length_le (by omega)] at this
        exact this)
      clear HR
      go_wp2_with fail
      go_ret
      exact ⟨by rw [← HE.out]; rfl, HI.out⟩
end Go.Proofs.YtoogaapjdlhpbaaDoor
