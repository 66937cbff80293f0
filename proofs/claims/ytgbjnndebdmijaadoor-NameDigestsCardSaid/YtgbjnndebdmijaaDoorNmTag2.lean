/- The example of Tag that the law asks for each time. -/
import Derived.Test.YtgbjnndebdmijaaDoorNmTag
namespace Go.Proofs.YtgbjnndebdmijaaDoor
open Go.RowKit
attribute [local go_sem] eql_func eql_none run_mkF

def tagS : ByteArray := ⟨#[118, 49, 46, 48, 45, 66, 95]⟩
def tcells : Array Value := wcells 31 32 (.func (.func 33) #[] #[]) []
theorem newTag_calls (w : World) : Calls Tryd.prog 21 #[] w fun e w' => e = .returned (.pointer (some ⟨w.heap.size, 0, none⟩)) ∧ Blk w' w.heap.size 50 tcells ∧ Below w.heap.size w w' := by
  have K := hid (show Blk (w.alloc (.cells tcells 50)) w.heap.size 50 tcells from Blk.new w _ _)
  have B := hid (below_new w (.cells tcells 50))
  go_enter Tryd.func21, Tryd.ntmps21
  go_wp2_with fail
  go_ret
  exact ⟨rfl, K.out, B.out⟩
def TI (g pos : Nat) (k : FuncId) (first cs : Array Value) : Prop := pos ≤ 7 ∧ k = (if pos = 0 then BG else IN) ∧ first = ptr g ∧ cs = tcells
theorem begins_enters : Enters' 31 := enters_of Tryd.func31 (by kernel_rfl) rfl
theorem inTag_enters : Enters' 32 := enters_of Tryd.func32 (by kernel_rfl) rfl
theorem bg_enters : Enters' BG := enters_of Tryd.func20 (by kernel_rfl) rfl
theorem in_enters : Enters' IN := enters_of Tryd.func30 (by kernel_rfl) rfl
theorem ends_enters : Enters' 33 := enters_of Tryd.func33 (by kernel_rfl) rfl
theorem tag_chars : ∀ i : Fin 7, (Utf8.decode tagS i.val).2 = 1 ∧ (Utf8.decode tagS i.val).1 ≠ 65533 ∧ (((Utf8.decode tagS i.val).1 : Int), (if i.val = 2 ∨ i.val = 4 then false else true), true) ∈ [((118 : Int), true, true), (49, true, true), (46, false, true), (48, true, true), (45, false, true), (66, true, true), (95, true, true), (-1, false, false)] := by decide +kernel
theorem tag_step (g : Nat) : ∀ pos k first cs c wr, pos < tagS.size → TI g pos k first cs → Blk wr g 50 cs → True → IsChar c → (c = (Utf8.decode tagS pos).1 ∨ (Utf8.decode tagS pos).1 = 65533 ∧ c = -2) →
    Enters' k ∧ Calls Tryd.prog k (first ++ #[.int .i32 c]) wr (Took g 50 wr False (TI g (pos + (Utf8.decode tagS pos).2))) := by
  intro pos k first cs c wr hlt hI hb _ _ hdec
  obtain ⟨h1, rfl, rfl, rfl⟩ := hI
  have hp : pos < 7 := hlt
  obtain ⟨hw, hne, hm⟩ := tag_chars ⟨pos, hp⟩
  simp only at hw hne hm
  rw [hw]
  have hc : c = ((Utf8.decode tagS pos).1 : Int) := by
    rcases hdec with h | ⟨h, _⟩
    · exact h
    · exact absurd h hne
  subst hc
  by_cases h0 : pos = 0
  · subst h0
    refine ⟨bg_enters, ?_⟩
    rw [if_pos rfl]
    refine (begin_calls g 50 _ _ _ _ _ true wr begins_enters (fun w => beginsTag_at _ true (by decide +kernel) w) hb).mono ?_
    rintro e w' ⟨rfl, b⟩
    exact ⟨grown_of_below b _, .inr ⟨_, _, _, rfl, ⟨by omega, rfl, rfl, rfl⟩, hb.keep b⟩⟩
  · rw [if_neg h0]
    refine ⟨in_enters, ?_⟩
    refine (inside_more g 50 _ _ _ _ _ wr inTag_enters (fun w => inTag_at _ _ true hm w) hb).mono ?_
    rintro e w' ⟨rfl, b⟩
    exact ⟨grown_of_below b _, .inr ⟨_, _, _, rfl, ⟨by omega, by rw [if_neg (by omega)]; rfl, rfl, rfl⟩, hb.keep b⟩⟩
theorem tag_end (g : Nat) : ∀ k first cs wr, TI g tagS.size k first cs → Blk wr g 50 cs → True →
    Enters' k ∧ Calls Tryd.prog k (first ++ #[.int .i32 (-1)]) wr (Took g 50 wr False (fun _ _ _ => True)) := by
  intro k first cs wr hI hb _
  obtain ⟨h1, rfl, rfl, rfl⟩ := hI
  rw [if_neg (show ¬ tagS.size = 0 by decide)]
  refine ⟨in_enters, ?_⟩
  refine inside_less g 50 _ _ 33 #[] [] (-1) wr _ inTag_enters (fun w => inTag_at (-1) false false (by simp) w) hb ends_enters (fun w1 b1 => ?_)
  refine (ends_calls (-1) w1).mono ?_
  rintro e w' ⟨rfl, b⟩
  exact ⟨⟨_, rfl⟩, (grown_of_below b1 _).trans (grown_of_below b _), .inr ⟨_, _, _, rfl, trivial, (hb.keep b1).keep b⟩⟩
theorem tag_calls (w : World) : Calls Tryd.prog 12 #[.string tagS] w fun e w' => e = .returned (.agg #[.int .i64 0, .int .i64 0]) ∧ Below w.heap.size w w' := by
  have hz := (zero_of_info infoFault).1
  have EF : Hid ((Tryd.prog.info? 27).map (·.size) = some 2) := (zero_of_info infoFault).2
  have K0 := hid (Blk.new w 27 #[.int .i64 0, .int .i64 0])
  have B0 := hid (below_new w (.cells #[.int .i64 0, .int .i64 0] 27))
  have hss : tagS.size ≤ 64 := by decide
  have hss2 : tagS.size ≤ 1099511627776 := by decide
  have hst := tag_step; have hen := tag_end
  have HSS := hid hss; have HSS2 := hid hss2; have HST := hid hst; have HEN := hid hen
  clear hss hss2 hst hen
  generalize tagS = s at HSS HSS2 HST HEN ⊢
  go_enter Tryd.func12, Tryd.ntmps12
  go_wp2_with fail
  clear hz
  generalize w.alloc (.cells #[.int .i64 0, .int .i64 0] 27) = w1 at K0 B0 ⊢
  refine (newTag_calls w1).mono ?_
  rintro _ w2 ⟨rfl, k2, b2⟩
  have K02 := hid (K0.out.keep b2)
  have B2 := hid (B0.out.trans (b2.mono B0.out.size))
  have lw := K0.out.lt
  generalize w1.heap.size = g at k2 lw ⊢
  have K2 := hid k2
  clear k2 b2 K0 B0
  go_wp2_with fail
  have hI0 : TI g 0 20 #[.pointer (some ⟨g, 0, none⟩)] tcells := ⟨by omega, rfl, rfl, rfl⟩
  have hex := examine_calls s g 50 (TI g) (fun _ => True) (fun _ => False) (fun _ => True) 7 (fun _ _ _ _ => trivial) (HST.out g) (HEN.out g) _ _ _ (w2.alloc (.cells #[.int .i64 0, .int .i64 0] 27)) hI0 (K2.out.alloc _) trivial HSS2.out
  refine (bounded_calls s 64 HSS.out _ w2 _ hex (fun e w' => e = .returned (.agg #[.int .i64 0, .int .i64 0]) ∧ Blk w' w.heap.size 27 #[.int .i64 0, .int .i64 0] ∧ Below w.heap.size w w') (fun e w3 ⟨gx, h⟩ => ?_)).mono ?_
  · have hk : Blk w3 w2.heap.size 27 #[.int .i64 0, .int .i64 0] := (Blk.new w2 27 #[.int .i64 0, .int .i64 0]).grown gx (by have := K2.out.lt; simp only [ne_eq, Option.some.injEq]; omega)
    have hk0 : Blk w3 w.heap.size 27 #[.int .i64 0, .int .i64 0] := (K02.out.alloc _).grown gx (by simp only [ne_eq, Option.some.injEq]; omega)
    have hb : Below w.heap.size w w3 := (B2.out.alloc (by have := K02.out.lt; omega) _).trans (below_of_grown gx (by have := K02.out.lt; simp; omega) (fun g' e => by cases e; omega))
    have hlt := K02.out.lt
    rcases h with ⟨pos, hst, rfl⟩ | ⟨rfl, _, hdn, _⟩
    · exact hst.elim
    · exact ⟨0, 0, rfl, hk, rfl, hk0.grown (grown_setRow w3 w2.heap.size _) (by simp only [ne_eq, Option.some.injEq]; omega), hb.trans (below_of_grown (grown_setRow w3 w2.heap.size _) (Nat.le_of_lt hk0.lt) (fun g' e => by cases e; omega))⟩
  · rintro e w4 ⟨rfl, hk, hb⟩
    have K4 := hid hk; have B4 := hid hb
    clear hk hb hex hI0 K02 B2 K2 lw
    go_wp2_with (refine wpList_store_blk rfl 27 _ _ rfl w.heap.size #[.int .i64 0, .int .i64 0] rfl rfl 27 _ K4.out EF.out rfl (by rfl) ?_)
    exact bodyPost_ret (v := .agg #[.int .i64 0, .int .i64 0]) (results_cell_row rfl _ _ w.heap.size 27 _ (0, 0) _ rfl (K4.out.setRow _) Tryd.underlying27 rfl EF.out) rfl ⟨rfl, B4.out.trans (below_of_grown (grown_setRow w4 w.heap.size _) (Nat.le_of_lt K4.out.lt) (fun g' e => by cases e; omega))⟩
end Go.Proofs.YtgbjnndebdmijaaDoor
