/- A region that draws its order, whose own operations only read, and whose callees keep a class of worlds that is given by facts: one walk, in the order of the text. -/
import Derived.Deep.QuietTactic
import Derived.Test.YtiejndkchcljdaaOrders
namespace Go.Proofs.Ytiejndkchcljdaa
open Go

theorem wp_region_class {P : Program} {id : Nat} {Q : Exit → Act → World → Prop} {a : Act} {w : World} {l : List Oper} (C : World → Prop) (hm : P.follows .mixedOrders = true) (hB : Region.lexB .any l.toArray = true) (hC : C w.drew)
    (h : ∀ (S : Type) [Nonempty S] (at_ : S → World), (∀ x, C (at_ x)) → (∀ w, C w → ∃ x, w = at_ x) → wpQuiet P l.toArray (fun w' => ∃ x : S, w' = at_ x) (fun a' => ∀ w', C w' → Q .normal a' w') l a) : (Code.region id l.toArray true).wp P Q a w := by
  have : Nonempty {w // C w} := ⟨⟨_, hC⟩⟩
  have hh := h {w // C w} (fun x => x.1) (fun x => x.2) (fun w hw => ⟨⟨w, hw⟩, rfl⟩)
  refine wp_region_quiet (C := fun w' => ∃ x : {w // C w}, w' = x.1) hm hB ⟨⟨w.drew, hC⟩, rfl⟩ ?_
  have he : (fun a' => ∀ w', C w' → Q .normal a' w') = (fun a' => ∀ w', (∃ x : {w // C w}, w' = x.1) → Q .normal a' w') := by
    funext a'
    refine propext ⟨fun h w' ⟨x, e⟩ => e ▸ h _ x.2, fun h w' hw => h w' ⟨⟨w', hw⟩, rfl⟩⟩
  rw [← he]
  simpa using hh

section
variable {P : Program} {ops : Array Oper} {S : Type} {at_ : S → World} {Q : Act → Prop} {rest : List Oper} {o : Oper} {a : Act}
theorem quiet_load (hgd : Region.wanted o (yielded ops a.tmps) = true) (t : TypeId) (x : Operand) (ho : o.op = .load t x) (g : Nat) (hx : a.eval x = .pointer (some ⟨g, 0, none⟩)) (t' : TypeId) (cs : Array Value) (hb : ∀ x, Blk (at_ x) g t' cs)
    (n : Nat) (e : TypeId) (hu : P.underlying t = some (.array n e)) (hi : (P.info? t).map (·.size) = some cs.size)
    (h : wpQuiet P ops (fun w' => ∃ x : S, w' = at_ x) Q rest (a.put o.dst (.agg cs))) : wpQuiet P ops (fun w' => ∃ x : S, w' = at_ x) Q (o :: rest) a := by
  refine wpQuiet_step fun K hK => ?_
  rw [if_pos hgd]
  refine ⟨.agg cs, ?_, hK _ h⟩
  rintro w ⟨y, rfl⟩
  unfold Oper.quietAt execOp
  simp only [ho, hx, Instr.loadAt, Instr.sureAddr, Sem.run_bind, Sem.run_pure, Result.andThen_ok, run_loadVar_row (at_ y) g t' t cs (0, 0) _ (hb y) hu rfl hi]
  exact ⟨rfl, rfl⟩
theorem quiet_call (hgd : Region.wanted o (yielded ops a.tmps) = true) (f : FuncId) (args : Array Value) (hop : ∀ w, (execOp a.eval o).run P w = .ok (.enter f args) w) (v : Value)
    (hc : ∀ x, Calls P f args (at_ x) fun e w' => e = .returned v ∧ ∃ y, w' = at_ y)
    (h : wpQuiet P ops (fun w' => ∃ x : S, w' = at_ x) Q rest (a.put o.dst v)) : wpQuiet P ops (fun w' => ∃ x : S, w' = at_ x) Q (o :: rest) a := by
  refine wpQuiet_step fun K hK => ?_
  rw [if_pos hgd]
  refine ⟨v, ?_, hK _ h⟩
  rintro w ⟨y, rfl⟩
  unfold Oper.quietAt
  rw [hop]
  exact ⟨rfl, hc y⟩
theorem quiet_loadK {K : Act → Prop} (hgd : Region.wanted o (yielded ops a.tmps) = true) (t : TypeId) (x : Operand) (ho : o.op = .load t x) (g : Nat) (hx : a.eval x = .pointer (some ⟨g, 0, none⟩)) (t' : TypeId) (cs : Array Value) (hb : ∀ x, Blk (at_ x) g t' cs)
    (n : Nat) (e : TypeId) (hu : P.underlying t = some (.array n e)) (hi : (P.info? t).map (·.size) = some cs.size)
    (h : K (a.put o.dst (.agg cs))) : if Region.wanted o (yielded ops a.tmps) then o.quiet P a (fun w' => ∃ x : S, w' = at_ x) K else K (a.put o.dst undef) := by
  rw [if_pos hgd]
  refine ⟨.agg cs, ?_, h⟩
  rintro w ⟨y, rfl⟩
  unfold Oper.quietAt execOp
  simp only [ho, hx, Instr.loadAt, Instr.sureAddr, Sem.run_bind, Sem.run_pure, Result.andThen_ok, run_loadVar_row (at_ y) g t' t cs (0, 0) _ (hb y) hu rfl hi]
  exact ⟨rfl, rfl⟩
theorem quiet_callK {K : Act → Prop} (hgd : Region.wanted o (yielded ops a.tmps) = true) (f : FuncId) (args : Array Value) (hop : ∀ w, (execOp a.eval o).run P w = .ok (.enter f args) w) (v : Value)
    (hc : ∀ x, Calls P f args (at_ x) fun e w' => e = .returned v ∧ ∃ y, w' = at_ y)
    (h : K (a.put o.dst v)) : if Region.wanted o (yielded ops a.tmps) then o.quiet P a (fun w' => ∃ x : S, w' = at_ x) K else K (a.put o.dst undef) := by
  rw [if_pos hgd]
  refine ⟨v, ?_, h⟩
  rintro w ⟨y, rfl⟩
  unfold Oper.quietAt
  rw [hop]
  exact ⟨rfl, hc y⟩
end
end Go.Proofs.Ytiejndkchcljdaa
