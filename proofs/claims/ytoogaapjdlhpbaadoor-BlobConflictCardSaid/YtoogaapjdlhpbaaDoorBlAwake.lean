/- Contracts: a law's own store; puts and awake. -/
import Derived.Test.YtoogaapjdlhpbaaDoorBlLaw
namespace Go.Proofs.YtoogaapjdlhpbaaDoor
open Go.RowKit Crc

/-- a law's own store: all that it has is new -/
structure LawB (w0 w : World) (F : List Nat) (s m k : Nat) (b : BS) (f : List UInt8 → Option Nat) : Prop where
  st : StB w F s m k b f
  below : Below w0.heap.size w0 w
  new : ∀ x ∈ F, w0.heap.size ≤ x
section
variable {w0 w w' : World} {F : List Nat} {s m k : Nat} {b : BS} {f : List UInt8 → Option Nat}
theorem LawB.keep (h : LawB w0 w F s m k b f) (hb : Below w.heap.size w w') : LawB w0 w' F s m k b f := ⟨h.st.keep hb, h.below.trans (hb.mono h.below.size), h.new⟩
theorem LawB.of (h : LawB w0 w F s m k b f) {F' : List Nat} {k' : Nat} {b' : BS} {f' : List UInt8 → Option Nat} (hs : StB w' F' s m k' b' f') (hc : Chg F w w') (hF : ∀ x ∈ F', x ∈ F ∨ w.heap.size ≤ x) : LawB w0 w' F' s m k' b' f' :=
  ⟨hs, h.below.trans (hc.below h.new h.below.size), fun x hx => (hF x hx).elim (fun hx => h.new x hx) (fun hx => Nat.le_trans h.below.size hx)⟩
theorem LawB.glob (h : LawB w0 w F s m k b f) (hG : Glob w0) : Glob w := hG.keep h.below
theorem notin_of {F' : List Nat} {o : Nat} (hF : ∀ x ∈ F', x ∈ F ∨ w.heap.size ≤ x) (ho : o < w.heap.size) (hn : o ∉ F) : o ∉ F' := fun h => (hF o h).elim hn (fun h => by omega)
def PutsP (w0 w : World) (F : List Nat) (s m k : Nat) (b : BS) (w' : World) : Prop := ∃ F' k' f', LawB w0 w' F' s m k' b f' ∧ k' ≤ k + 1 ∧ Chg F w w' ∧ ∀ x ∈ F', x ∈ F ∨ w.heap.size ≤ x
theorem lputs_calls (h : LawB w0 w F s m k b f) (hG : Glob w0) (cs : List UInt8) (hcs : cs.length ≤ 1000) (want : Bool) (err : Nat) (b' : BS) (hI : putI b (digB cs b.width) cs = want) (hE : putE b (digB cs b.width) cs = err) (hB : putB b (digB cs b.width) cs = b') (hk : k ≤ 1000000) :
    Calls Tryd.prog 31 #[.pointer (some ⟨s, 0, none⟩), .string (strB cs), .bool want, .int .i64 (err : Int)] w fun e w' => e = .returned (.bool true) ∧ PutsP w0 w F s m k b' w' := by
  refine (puts_calls h.st cs hcs want err hI hE (h.glob hG) hk).mono ?_
  rintro _ w1 ⟨rfl, F', k', f', p1, p2, p3, p4⟩
  rw [hB] at p1
  exact ⟨rfl, F', k', f', h.of p1 p3 p4, p2, p3, p4⟩
end
def abcT : List UInt8 := [97, 98, 99]
def defgT : List UInt8 := [100, 101, 102, 103]
def st0B : BS := ⟨32, 5, []⟩
def st1B : BS := ⟨32, 5, [(digB abcT 32, abcT)]⟩
theorem aw1 : putI st0B (digB abcT 32) abcT = true ∧ putE st0B (digB abcT 32) abcT = 0 ∧ putB st0B (digB abcT 32) abcT = st1B := by
  refine ⟨by decide +kernel, by decide +kernel, ?_⟩
  have h : putE st0B (digB abcT 32) abcT = 0 ∧ lookB st0B.l (digB abcT 32) = none := ⟨by decide +kernel, rfl⟩
  unfold putB
  rw [if_pos h]
  rfl
theorem aw2 : putI st1B (digB abcT 32) abcT = false ∧ putE st1B (digB abcT 32) abcT = 0 ∧ putB st1B (digB abcT 32) abcT = st1B := by
  have h : ¬ (putE st1B (digB abcT 32) abcT = 0 ∧ lookB st1B.l (digB abcT 32) = none) := by decide +kernel
  exact ⟨by unfold putI; rw [decide_eq_false h], by decide +kernel, if_neg h⟩
theorem aw3 : putI st1B (digB defgT 32) defgT = false ∧ putE st1B (digB defgT 32) defgT = 10 ∧ putB st1B (digB defgT 32) defgT = st1B := by
  have h : ¬ (putE st1B (digB defgT 32) defgT = 0 ∧ lookB st1B.l (digB defgT 32) = none) := by decide +kernel
  exact ⟨by unfold putI; rw [decide_eq_false h], by decide +kernel, if_neg h⟩
set_option maxRecDepth 20000 in
set_option maxHeartbeats 2000000 in
theorem awake_calls (w : World) (hG : Glob w) : Calls Tryd.prog 28 #[] w fun e w' => e = .returned (.bool true) ∧ Below w.heap.size w w' := by
  have HG := hid hG
  have HN := hid (new_calls 32 5 w (by omega) (by omega) (by omega))
  clear hG
  go_enter Tryd.func28, Tryd.ntmps28
  go_wp2_with fail
  refine HN.out.mono ?_
  rintro _ w1 ⟨s, m, F, rfl, p1, p2, p3⟩
  have HS := hid (show LawB w w1 F s m 0 st0B _ from ⟨p1, p2, p3⟩)
  clear p1 p2 p3 HN
  have H1 := hid (lputs_calls HS.out HG.out abcT (by decide) true 0 st1B aw1.1 aw1.2.1 aw1.2.2 (by omega))
  go_wp2_with fail
  refine H1.out.mono ?_
  rintro _ w2 ⟨rfl, F2, k2, f2, p1, p2, -, -⟩
  have HS2 := hid p1
  have H2 := hid (lputs_calls HS2.out HG.out abcT (by decide) false 0 st1B aw2.1 aw2.2.1 aw2.2.2 (by omega))
  clear H1 HS p1
  go_wp2_with fail
  refine H2.out.mono ?_
  rintro _ w3 ⟨rfl, F3, k3, f3, p1, p3, -, -⟩
  have HS3 := hid p1
  have H3 := hid (used_calls HS3.out.st)
  rw [show usedB st1B.l = 3 from by decide +kernel] at H3
  clear H2 HS2 p1
  go_wp2_with fail
  refine H3.out.mono ?_
  rintro _ _ ⟨rfl, rfl⟩
  have H4 := hid (lputs_calls HS3.out HG.out defgT (by decide) false 10 st1B aw3.1 aw3.2.1 aw3.2.2 (by omega))
  clear H3
  rw [show ((3 : Nat) : Int) = 3 from rfl]
  go_wp2_with fail
  refine H4.out.mono ?_
  rintro _ w4 ⟨rfl, F4, k4, f4, p1, p4, -, -⟩
  have HB := hid p1.below
  clear H4 HS3 p1
  go_wp2_with fail
  go_ret
  exact ⟨rfl, HB.out⟩
end Go.Proofs.YtoogaapjdlhpbaaDoor
