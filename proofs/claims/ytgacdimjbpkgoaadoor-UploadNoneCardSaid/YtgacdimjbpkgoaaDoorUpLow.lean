/- Contracts: what a table of uploads asks of itself; refusals, and the calls that are deferred. -/
import Derived.Test.YtgacdimjbpkgoaaDoorProg
import Derived.Test.YtgacdimjbpkgoaaDoorBlk
import Derived.Test.YtgacdimjbpkgoaaDoorWrMem
import Derived.Test.YtgacdimjbpkgoaaDoorLgList
import Derived.Test.YtgacdimjbpkgoaaDoorGuard
import Derived.LaidEqlPtr
import Derived.Defers
import Derived.Laws.EntriesVeiled
namespace Go.Proofs.YtgacdimjbpkgoaaDoor
open Go.RowKit

theorem up_mkf (fn : Fn) (first cap : Array Value) (w : World) : (Instr.makeFunc fn first cap).run Tryd.prog w = .ok (.func fn first cap) w := rfl
def upCells (t : Nat) (width next : Int) (sv : Value) : Array Value := #[.pointer (some ⟨t, 0, none⟩), .int .i64 width, .int .i64 next, sv]
theorem up_valid {w : World} {t : Nat} {width next : Int} {sv : Value} (h : Blk w t 29 (upCells t width next sv)) :
    Calls Tryd.prog 28 #[.pointer (some ⟨t, 0, none⟩)] w fun e w' => e = .returned (.bool true) ∧ w = w' := by
  have hsz : (Tryd.prog.info? 29).map (·.size) = some 4 := by kernel_rfl
  obtain ⟨j, hj, _⟩ := Option.map_eq_some_iff.1 hsz
  have he := fun W => run_eql_ptr_same (P := Tryd.prog) W (tp := 26) (te := 29) ⟨t, 0, none⟩ (by kernel_rfl) hj
  have c0 : w.cell? ⟨t, 0, none⟩ = some (.pointer (some ⟨t, 0, none⟩)) := h.cell 0 rfl
  clear h hj hsz
  go_enter Tryd.func28, Tryd.ntmps28
  go_wp2_with fail
  go_ret
  exact ⟨rfl, rfl⟩
/-- a table that is nil, or that nobody made -/
def UpNo (w : World) (h : Value) : Prop := h = .pointer none ∨ ∃ g, h = .pointer (some ⟨g, 0, none⟩) ∧ w.cell? ⟨g, 0, none⟩ = some (.pointer none)
theorem UpNo.keep {w w' : World} {h : Value} (hn : UpNo w h) (hb : Below w.heap.size w w') : UpNo w' h := by
  rcases hn with rfl | ⟨g, rfl, hc⟩
  · exact .inl rfl
  · exact .inr ⟨g, rfl, (hb.cell (p := ⟨g, 0, none⟩) (lt_of_cell hc)).trans hc⟩
theorem up_eql_none {P : Program} (w : World) (t e : TypeId) (b : Option Addr) (h : P.underlying t = some (.pointer e)) :
    (binOp .eql t (.pointer none) (.pointer b)).run P w = .ok (.bool b.isNone) w := by
  have hq : ∀ d : Nat, (Op.equalIn (d + 1) t (.pointer none) (.pointer b)).run P w = .ok b.isNone w := fun d => by
    simp [Op.equalIn, run_underlying h]
  simp only [binOp]
  simp [Op.equal, Op.maxDepth, hq 9999]
theorem up_invalid (h : Value) (w : World) (hn : UpNo w h) : Calls Tryd.prog 28 #[h] w fun e w' => e = .returned (.bool false) ∧ w = w' := by
  rcases hn with rfl | ⟨g, rfl, hc⟩
  · go_enter Tryd.func28, Tryd.ntmps28
    go_wp2_with fail
    go_ret
    exact ⟨rfl, rfl⟩
  · have he := fun W => up_eql_none (P := Tryd.prog) W 26 29 (some ⟨g, 0, none⟩) Tryd.underlying26
    go_enter Tryd.func28, Tryd.ntmps28
    go_wp2_with fail
    go_ret
    exact ⟨rfl, rfl⟩
theorem up_unless (y : Nat) (b : Bool) (e x : Int) (w : World) (h : Blk w y 65 #[.int .i64 x]) :
    Calls Tryd.prog 27 #[.pointer (some ⟨y, 0, none⟩), .bool b, .int .i64 e] w fun en w' => en = .returned (.bool b) ∧ Chg [y] w w' ∧ w'.heap.size = w.heap.size ∧ Blk w' y 65 #[.int .i64 (if b = true then x else e)] := by
  have c0 : w.cell? ⟨y, 0, none⟩ = some (.int .i64 x) := h.cell 0 rfl
  have z0 := h.frozen 0
  have HB := hid h
  clear h
  cases b with
  | true =>
    go_enter Tryd.func27, Tryd.ntmps27
    go_wp2_with fail
    go_ret
    exact ⟨rfl, Chg.refl _ _, rfl, HB.out⟩
  | false =>
    go_enter Tryd.func27, Tryd.ntmps27
    go_wp2_with fail
    go_ret
    exact ⟨rfl, Chg.of_grown (grown_setCell w y 0 _) (fun g e => by cases e; simp), by simp, by have := HB.out.set_ 0 (.int .i64 e); simpa using this⟩
theorem up_doorStart (y x : Nat) (e z : Int) (u : FrameMode) (w : World) (hy : Blk w y 65 #[.int .i64 e]) (hx : Blk w x 31 #[.int .i64 z]) :
    CallsD Tryd.prog 26 #[.pointer (some ⟨y, 0, none⟩), .pointer (some ⟨x, 0, none⟩)] u w fun en u' w' => u' = u ∧ (en = .returned (.tuple #[]) ∧ w' = w.setCell ⟨x, 0, none⟩ (.int .i64 e)) := by
  have c0 : w.cell? ⟨y, 0, none⟩ = some (.int .i64 e) := hy.cell 0 rfl
  have z0 := hx.frozen 0
  have d0 : w.cell? ⟨x, 0, none⟩ = some (.int .i64 z) := hx.cell 0 rfl
  go_enter_d Tryd.func26, Tryd.ntmps26
  go_wp2_with fail
  go_end0
  exact ⟨rfl, rfl⟩
theorem up_doorWrite (y x : Nat) (e z : Int) (u : FrameMode) (w : World) (hy : Blk w y 65 #[.int .i64 e]) (hx : Blk w x 31 #[.int .i64 z]) :
    CallsD Tryd.prog 31 #[.pointer (some ⟨y, 0, none⟩), .pointer (some ⟨x, 0, none⟩)] u w fun en u' w' => u' = u ∧ (en = .returned (.tuple #[]) ∧ w' = w.setCell ⟨x, 0, none⟩ (.int .i64 e)) := by
  have c0 : w.cell? ⟨y, 0, none⟩ = some (.int .i64 e) := hy.cell 0 rfl
  have z0 := hx.frozen 0
  have d0 : w.cell? ⟨x, 0, none⟩ = some (.int .i64 z) := hx.cell 0 rfl
  go_enter_d Tryd.func31, Tryd.ntmps31
  go_wp2_with fail
  go_end0
  exact ⟨rfl, rfl⟩
theorem up_doorOffset (y x : Nat) (e z : Int) (u : FrameMode) (w : World) (hy : Blk w y 65 #[.int .i64 e]) (hx : Blk w x 31 #[.int .i64 z]) :
    CallsD Tryd.prog 34 #[.pointer (some ⟨y, 0, none⟩), .pointer (some ⟨x, 0, none⟩)] u w fun en u' w' => u' = u ∧ (en = .returned (.tuple #[]) ∧ w' = w.setCell ⟨x, 0, none⟩ (.int .i64 e)) := by
  have c0 : w.cell? ⟨y, 0, none⟩ = some (.int .i64 e) := hy.cell 0 rfl
  have z0 := hx.frozen 0
  have d0 : w.cell? ⟨x, 0, none⟩ = some (.int .i64 z) := hx.cell 0 rfl
  go_enter_d Tryd.func34, Tryd.ntmps34
  go_wp2_with fail
  go_end0
  exact ⟨rfl, rfl⟩
theorem up_doorFinish (y x : Nat) (e z : Int) (u : FrameMode) (w : World) (hy : Blk w y 65 #[.int .i64 e]) (hx : Blk w x 31 #[.int .i64 z]) :
    CallsD Tryd.prog 35 #[.pointer (some ⟨y, 0, none⟩), .pointer (some ⟨x, 0, none⟩)] u w fun en u' w' => u' = u ∧ (en = .returned (.tuple #[]) ∧ w' = w.setCell ⟨x, 0, none⟩ (.int .i64 e)) := by
  have c0 : w.cell? ⟨y, 0, none⟩ = some (.int .i64 e) := hy.cell 0 rfl
  have z0 := hx.frozen 0
  have d0 : w.cell? ⟨x, 0, none⟩ = some (.int .i64 z) := hx.cell 0 rfl
  go_enter_d Tryd.func35, Tryd.ntmps35
  go_wp2_with fail
  go_end0
  exact ⟨rfl, rfl⟩
theorem up_doorCancel (y x : Nat) (e z : Int) (u : FrameMode) (w : World) (hy : Blk w y 65 #[.int .i64 e]) (hx : Blk w x 31 #[.int .i64 z]) :
    CallsD Tryd.prog 40 #[.pointer (some ⟨y, 0, none⟩), .pointer (some ⟨x, 0, none⟩)] u w fun en u' w' => u' = u ∧ (en = .returned (.tuple #[]) ∧ w' = w.setCell ⟨x, 0, none⟩ (.int .i64 e)) := by
  have c0 : w.cell? ⟨y, 0, none⟩ = some (.int .i64 e) := hy.cell 0 rfl
  have z0 := hx.frozen 0
  have d0 : w.cell? ⟨x, 0, none⟩ = some (.int .i64 z) := hx.cell 0 rfl
  go_enter_d Tryd.func40, Tryd.ntmps40
  go_wp2_with fail
  go_end0
  exact ⟨rfl, rfl⟩
theorem up_doorLoad (y x : Nat) (e z : Int) (u : FrameMode) (w : World) (hy : Blk w y 65 #[.int .i64 e]) (hx : Blk w x 31 #[.int .i64 z]) :
    CallsD Tryd.prog 43 #[.pointer (some ⟨y, 0, none⟩), .pointer (some ⟨x, 0, none⟩)] u w fun en u' w' => u' = u ∧ (en = .returned (.tuple #[]) ∧ w' = w.setCell ⟨x, 0, none⟩ (.int .i64 e)) := by
  have c0 : w.cell? ⟨y, 0, none⟩ = some (.int .i64 e) := hy.cell 0 rfl
  have z0 := hx.frozen 0
  have d0 : w.cell? ⟨x, 0, none⟩ = some (.int .i64 z) := hx.cell 0 rfl
  go_enter_d Tryd.func43, Tryd.ntmps43
  go_wp2_with fail
  go_end0
  exact ⟨rfl, rfl⟩
theorem up_load_int {ty : TypeId} {k : IntKind} (hu : Tryd.prog.underlying ty = some (.int k)) (w : World) (ad : Addr) (v : Value) (h : w.cell? ad = some v) : (loadVar ty ad).run Tryd.prog w = .ok v w := by
  have hagg : (isAgg ty).run Tryd.prog w = .ok false w := by
    unfold isAgg
    rw [Sem.run_bind, run_underlying hu w]
    simp
  simp [loadVar, Sem.run_bind, hagg, h]
theorem up_results {fn : Func} {p q : Tmp} {t : TypeId} (h : fn.results = #[.tmp p, .cell q t]) (tmps : Array Value) (w : World) (g : Nat) (v e : Value) (hp : tmps.getD p undef = v) (hq : tmps.getD q undef = .pointer (some ⟨g, 0, none⟩)) (hl : (loadVar t ⟨g, 0, none⟩).run Tryd.prog w = .ok e w) :
    (results fn tmps).run Tryd.prog w = .ok (.tuple #[v, e]) w := by
  have hp' : tmps[p]?.getD undef = v := by simpa using hp
  have hq' : tmps[q]?.getD undef = .pointer (some ⟨g, 0, none⟩) := by simpa using hq
  simp [results, h, hp', hq', asAddr, hl]
/-- a function that has deferred one call, at its door: its two results -/
theorem up_leave {fn : Func} {p q : Tmp} {R : Ending → World → Prop} {k : FuncId} {cap : Array Value} {a : Act} {w : World} (h : fn.results = #[.tmp p, .cell q 31]) (x : Nat) (e z : Int) (v : Value)
    (hd : a.defers = [{ target := .fn (.func k) cap, args := #[] }]) (hk : (invoke (.fn (.func k) cap) #[]).run Tryd.prog w = .ok (.enter k cap) w)
    (hx : Blk w x 31 #[.int .i64 z]) (hc : CallsD Tryd.prog k cap .returning w fun en u' w' => u' = .returning ∧ (en = .returned (.tuple #[]) ∧ w' = w.setCell ⟨x, 0, none⟩ (.int .i64 e)))
    (hp : a.tmps.getD p undef = v) (hq : a.tmps.getD q undef = .pointer (some ⟨x, 0, none⟩)) (hR : R (.returned (.tuple #[v, .int .i64 e])) (w.setCell ⟨x, 0, none⟩ (.int .i64 e))) :
    Leaves Tryd.prog fn a.tmps R a.defers .returning w := by
  rw [hd]
  refine leaves_cons (f := k) (args := cap) (by simp) hk (hc.mono ?_)
  rintro en u' w' ⟨rfl, rfl, rfl⟩
  refine ⟨_, up_results h _ _ x v (.int .i64 e) hp hq ?_, hR⟩
  have hb := hx.set_ 0 (.int .i64 e)
  exact up_load_int Tryd.underlying31 _ _ _ (hb.cell 0 (by simp))
end Go.Proofs.YtgacdimjbpkgoaaDoor
