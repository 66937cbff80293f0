/- Contracts: what a device asks of itself. -/
import Derived.Test.YtiejndkchcljdaaDvMem
import Derived.Test.YtiejndkchcljdaaKit0
import Derived.LaidEqlPtr
namespace Go.Proofs.Ytiejndkchcljdaa
open Go.RowKit

theorem eql_nil {P : Program} (w : World) (t e : TypeId) (a : Option Addr) (n c : Nat) (h : P.underlying t = some (.slice e)) :
    (binOp .eql t (.slice a n c) (.slice none 0 0)).run P w = .ok (.bool a.isNone) w := by
  have hq : ∀ d : Nat, (Op.equalIn (d + 1) t (.slice a n c) (.slice none 0 0)).run P w = .ok a.isNone w := fun d => by
    cases a <;> simp [Op.equalIn, run_underlying h]
  simp only [binOp]
  simp [Op.equal, Op.maxDepth, hq 9999]
set_option maxRecDepth 20000 in
theorem clone_calls (B n c : Nat) (A : Option Addr) (bs : List UInt8) (w : World) (hs : SB w B A n bs) (hn : n ≤ 1099511627776) :
    Calls Try.prog 87 #[.slice A n c] w fun e w' => ∃ v, e = .returned v ∧ Own w' w.heap.size 5 v n bs ∧ Below w.heap.size w w' := by
  cases A with
  | none =>
    have hn0 : n = 0 := by
      rcases Nat.eq_zero_or_pos n with h | h
      · exact h
      · obtain ⟨_, _, e, _⟩ := hs.2 h; cases e
    subst hn0
    obtain rfl : bs = [] := List.eq_nil_of_length_eq_zero hs.1
    clear hs
    have hq := fun w => eql_nil (P := Try.prog) w 34 5 none 0 c Try.underlying34
    go_enter Try.func87, Try.ntmps87
    go_wp2_with fail
    go_ret
    exact ⟨_, rfl, Own.nil _ _ _, Below.refl _ _⟩
  | some a =>
    have HS := hid hs
    clear hs
    have hq := fun w => eql_nil (P := Try.prog) w 34 5 (some a) n c Try.underlying34
    go_enter Try.func87, Try.ntmps87
    go_wp2_with (at_builtin; refine Held.go ?_)
    have ho := Own.lit w 5 w.heap.size [] #[] 0 rfl rfl (Nat.le_refl _) (by omega)
    have hb := below_new w (.cells #[] 5)
    generalize w.alloc (.cells #[] 5) = w1 at ho hb ⊢
    refine wpList_append_bytes _ rfl _ _ _ rfl _ Try.underlying34 info5' w.heap.size _ 0 [] rfl ho B _ n c bs rfl (HS.out.keep hb) (by omega) hb.size ?_
    intro v' w' h1 h2 h3
    have HK := hid (show Own w' w.heap.size 5 v' n bs ∧ Below w.heap.size w w' from ⟨by simpa using h1, hb.trans (below_of_grown h2 hb.size (fun g e => (ho.block g e).1))⟩)
    clear h1 h2 h3 ho hb
    go_wp2_with fail
    go_ret
    exact ⟨v', rfl, HK.out⟩

section
variable (base g a m c : Nat) (A : Option Addr) (q : Option Nat) (s : DS) (w : World)
theorem valid_calls (h : DevIn w base g a m A c q s) :
    Calls Try.prog 59 #[.pointer (some ⟨g, 0, none⟩)] w fun e w' => e = .returned (.bool true) ∧ w = w' := by
  have hsz : (Try.prog.info? 65).map (·.size) = some 6 := by kernel_rfl
  obtain ⟨j, hj, _⟩ := Option.map_eq_some_iff.1 hsz
  have he := fun W => run_eql_ptr_same (P := Try.prog) W (tp := 24) (te := 65) ⟨g, 0, none⟩ (by kernel_rfl) hj
  have c0 := h.hd.cell 0 rfl
  clear h hj hsz
  go_enter Try.func59, Try.ntmps59
  go_wp2_with fail
  go_ret
  exact ⟨rfl, rfl⟩
theorem size_calls (h : DevIn w base g a m A c q s) :
    Calls Try.prog 79 #[.pointer (some ⟨g, 1, none⟩)] w fun e w' => e = .returned (.int .i64 (s.n : Int)) ∧ w = w' := by
  have c2 := h.hd.cell 2 rfl
  clear h
  go_enter Try.func79, Try.ntmps79
  go_wp2_with fail
  go_ret
  exact ⟨rfl, rfl⟩
def hasB (n : Nat) (i : Int) : Bool := decide (0 ≤ i ∧ i < n)
theorem has_calls (i : Int) (h : DevIn w base g a m A c q s) :
    Calls Try.prog 62 #[.pointer (some ⟨g, 1, none⟩), .int .i64 i] w fun e w' => e = .returned (.bool (hasB s.n i)) ∧ w = w' := by
  have HZ := hid (size_calls base g a m c A q s w h)
  clear h
  by_cases h0 : 0 ≤ i
  · have HE := hid (show hasB s.n i = decide (i < (s.n : Int)) from by unfold hasB; rw [decide_eq_decide]; omega)
    go_enter Try.func62, Try.ntmps62
    go_wp2_with fail
    refine HZ.out.mono ?_
    rintro _ _ ⟨rfl, rfl⟩
    go_wp2_with fail
    go_ret
    exact ⟨ret_bool HE.out.symm, rfl⟩
  · have HE := hid (show hasB s.n i = false from by unfold hasB; rw [decide_eq_false_iff_not]; omega)
    go_enter Try.func62, Try.ntmps62
    go_wp2_with fail
    go_ret
    exact ⟨ret_bool HE.out.symm, rfl⟩
theorem state_calls (h : DevIn w base g a m A c q s) :
    Calls Try.prog 55 #[.pointer (some ⟨g, 0, none⟩)] w fun e w' => e = .returned (.int .i64 (if s.out then 22 else 0)) ∧ w = w' := by
  have HV := hid (valid_calls base g a m c A q s w h)
  have c5 := h.hd.cell 5 rfl
  clear h
  generalize s.out = o at c5 ⊢
  cases o
  · go_enter Try.func55, Try.ntmps55
    go_wp2_with fail
    refine HV.out.mono ?_
    rintro _ _ ⟨rfl, rfl⟩
    go_wp2_with fail
    go_ret
    exact ⟨rfl, rfl⟩
  · go_enter Try.func55, Try.ntmps55
    go_wp2_with fail
    refine HV.out.mono ?_
    rintro _ _ ⟨rfl, rfl⟩
    go_wp2_with fail
    go_ret
    exact ⟨rfl, rfl⟩
end
theorem bytes_calls (b off : Nat) (bs : List UInt8) (w : World) (hs : SB w w.heap.size (some ⟨b, off, none⟩) 64 bs) :
    Calls Try.prog 72 #[.pointer (some ⟨b, off, none⟩)] w fun e w' => ∃ v, e = .returned v ∧ Own w' w.heap.size 5 v 64 bs ∧ Below w.heap.size w w' := by
  have HC := hid (clone_calls w.heap.size 64 64 (some ⟨b, off, none⟩) bs w hs (by omega))
  clear hs
  go_enter Try.func72, Try.ntmps72
  go_wp2_with fail
  refine HC.out.mono ?_
  rintro _ w1 ⟨v, rfl, h1, h2⟩
  have HK := hid (show Own w1 w.heap.size 5 v 64 bs ∧ Below w.heap.size w w1 from ⟨h1, h2⟩)
  clear h1 h2
  go_wp2_with fail
  go_ret
  exact ⟨v, rfl, HK.out⟩
end Go.Proofs.Ytiejndkchcljdaa
