/- Contracts: what a table of uploads asks of itself; refusals, and the calls that are deferred. -/
import Derived.Test.YtgacdimjbpkgoaaDoorProg
import Derived.Test.YtgacdimjbpkgoaaDoorBlk
import Derived.Test.YtgacdimjbpkgoaaDoorWrMem
import Derived.Test.YtgacdimjbpkgoaaDoorLgList
import Derived.Test.YtgacdimjbpkgoaaDoorGuard
import Derived.LaidEqlPtr
import Derived.Defers
import Derived.Laws.EntriesVeiled
import Derived.Test.YtgacdimjbpkgoaaDoorMem
import Derived.Shelf.Strconv.Clone
import Derived.Test.YtgacdimjbpkgoaaDoorAppS
namespace Go.Proofs.YtgacdimjbpkgoaaDoor
open Go.RowKit

theorem up_mkf (fn : Fn) (first cap : Array Value) (w : World) : (Instr.makeFunc fn first cap).run Tryd.prog w = .ok (.func fn first cap) w := rfl
def upCells (t : Nat) (width next : Int) (sv : Value) : Array Value := #[.pointer (some ⟨t, 0, none⟩), .int .i64 width, .int .i64 next, sv]
theorem up_valid {w : World} {t : Nat} {width next : Int} {sv : Value} (h : Blk w t 29 (upCells t width next sv)) :
    Calls Tryd.prog 28 #[.pointer (some ⟨t, 0, none⟩)] w fun e w' => e = .returned (.bool true) ∧ w = w' := by
  have hsz : (Tryd.prog.info? 29).map (·.size) = some 4 := by kernel_rfl
  obtain ⟨j, hj, _⟩ := Option.map_eq_some_iff.1 hsz
  have he := fun W => run_eql_ptr_same (P := Tryd.prog) W (tp := 26) (te := 29) ⟨t, 0, none⟩ (by kernel_rfl) hj
  have c0 : w.cell? ⟨t, 0, none⟩ = some (.pointer (some ⟨t, 0, none⟩)) := h.cell 0 rfl
  clear h hj hsz
  go_enter Tryd.func28, Tryd.ntmps28
  go_wp2_with fail
  go_ret
  exact ⟨rfl, rfl⟩
/-- a table that is nil, or that nobody made -/
def UpNo (w : World) (h : Value) : Prop := h = .pointer none ∨ ∃ g, h = .pointer (some ⟨g, 0, none⟩) ∧ w.cell? ⟨g, 0, none⟩ = some (.pointer none)
theorem UpNo.keep {w w' : World} {h : Value} (hn : UpNo w h) (hb : Below w.heap.size w w') : UpNo w' h := by
  rcases hn with rfl | ⟨g, rfl, hc⟩
  · exact .inl rfl
  · exact .inr ⟨g, rfl, (hb.cell (p := ⟨g, 0, none⟩) (lt_of_cell hc)).trans hc⟩
theorem up_eql_none {P : Program} (w : World) (t e : TypeId) (b : Option Addr) (h : P.underlying t = some (.pointer e)) :
    (binOp .eql t (.pointer none) (.pointer b)).run P w = .ok (.bool b.isNone) w := by
  have hq : ∀ d : Nat, (Op.equalIn (d + 1) t (.pointer none) (.pointer b)).run P w = .ok b.isNone w := fun d => by
    simp [Op.equalIn, run_underlying h]
  simp only [binOp]
  simp [Op.equal, Op.maxDepth, hq 9999]
theorem up_invalid (h : Value) (w : World) (hn : UpNo w h) : Calls Tryd.prog 28 #[h] w fun e w' => e = .returned (.bool false) ∧ w = w' := by
  rcases hn with rfl | ⟨g, rfl, hc⟩
  · go_enter Tryd.func28, Tryd.ntmps28
    go_wp2_with fail
    go_ret
    exact ⟨rfl, rfl⟩
  · have he := fun W => up_eql_none (P := Tryd.prog) W 26 29 (some ⟨g, 0, none⟩) Tryd.underlying26
    go_enter Tryd.func28, Tryd.ntmps28
    go_wp2_with fail
    go_ret
    exact ⟨rfl, rfl⟩
theorem up_unless (y : Nat) (b : Bool) (e x : Int) (w : World) (h : Blk w y 65 #[.int .i64 x]) :
    Calls Tryd.prog 27 #[.pointer (some ⟨y, 0, none⟩), .bool b, .int .i64 e] w fun en w' => en = .returned (.bool b) ∧ Chg [y] w w' ∧ w'.heap.size = w.heap.size ∧ Blk w' y 65 #[.int .i64 (if b = true then x else e)] := by
  have c0 : w.cell? ⟨y, 0, none⟩ = some (.int .i64 x) := h.cell 0 rfl
  have z0 := h.frozen 0
  have HB := hid h
  clear h
  cases b with
  | true =>
    go_enter Tryd.func27, Tryd.ntmps27
    go_wp2_with fail
    go_ret
    exact ⟨rfl, Chg.refl _ _, rfl, HB.out⟩
  | false =>
    go_enter Tryd.func27, Tryd.ntmps27
    go_wp2_with fail
    go_ret
    exact ⟨rfl, Chg.of_grown (grown_setCell w y 0 _) (fun g e => by cases e; simp), by simp, by have := HB.out.set_ 0 (.int .i64 e); simpa using this⟩
theorem up_doorStart (y x : Nat) (e z : Int) (u : FrameMode) (w : World) (hy : Blk w y 65 #[.int .i64 e]) (hx : Blk w x 31 #[.int .i64 z]) :
    CallsD Tryd.prog 26 #[.pointer (some ⟨y, 0, none⟩), .pointer (some ⟨x, 0, none⟩)] u w fun en u' w' => u' = u ∧ (en = .returned (.tuple #[]) ∧ w' = w.setCell ⟨x, 0, none⟩ (.int .i64 e)) := by
  have c0 : w.cell? ⟨y, 0, none⟩ = some (.int .i64 e) := hy.cell 0 rfl
  have z0 := hx.frozen 0
  have d0 : w.cell? ⟨x, 0, none⟩ = some (.int .i64 z) := hx.cell 0 rfl
  go_enter_d Tryd.func26, Tryd.ntmps26
  go_wp2_with fail
  go_end0
  exact ⟨rfl, rfl⟩
theorem up_doorWrite (y x : Nat) (e z : Int) (u : FrameMode) (w : World) (hy : Blk w y 65 #[.int .i64 e]) (hx : Blk w x 31 #[.int .i64 z]) :
    CallsD Tryd.prog 31 #[.pointer (some ⟨y, 0, none⟩), .pointer (some ⟨x, 0, none⟩)] u w fun en u' w' => u' = u ∧ (en = .returned (.tuple #[]) ∧ w' = w.setCell ⟨x, 0, none⟩ (.int .i64 e)) := by
  have c0 : w.cell? ⟨y, 0, none⟩ = some (.int .i64 e) := hy.cell 0 rfl
  have z0 := hx.frozen 0
  have d0 : w.cell? ⟨x, 0, none⟩ = some (.int .i64 z) := hx.cell 0 rfl
  go_enter_d Tryd.func31, Tryd.ntmps31
  go_wp2_with fail
  go_end0
  exact ⟨rfl, rfl⟩
theorem up_doorOffset (y x : Nat) (e z : Int) (u : FrameMode) (w : World) (hy : Blk w y 65 #[.int .i64 e]) (hx : Blk w x 31 #[.int .i64 z]) :
    CallsD Tryd.prog 34 #[.pointer (some ⟨y, 0, none⟩), .pointer (some ⟨x, 0, none⟩)] u w fun en u' w' => u' = u ∧ (en = .returned (.tuple #[]) ∧ w' = w.setCell ⟨x, 0, none⟩ (.int .i64 e)) := by
  have c0 : w.cell? ⟨y, 0, none⟩ = some (.int .i64 e) := hy.cell 0 rfl
  have z0 := hx.frozen 0
  have d0 : w.cell? ⟨x, 0, none⟩ = some (.int .i64 z) := hx.cell 0 rfl
  go_enter_d Tryd.func34, Tryd.ntmps34
  go_wp2_with fail
  go_end0
  exact ⟨rfl, rfl⟩
theorem up_doorFinish (y x : Nat) (e z : Int) (u : FrameMode) (w : World) (hy : Blk w y 65 #[.int .i64 e]) (hx : Blk w x 31 #[.int .i64 z]) :
    CallsD Tryd.prog 35 #[.pointer (some ⟨y, 0, none⟩), .pointer (some ⟨x, 0, none⟩)] u w fun en u' w' => u' = u ∧ (en = .returned (.tuple #[]) ∧ w' = w.setCell ⟨x, 0, none⟩ (.int .i64 e)) := by
  have c0 : w.cell? ⟨y, 0, none⟩ = some (.int .i64 e) := hy.cell 0 rfl
  have z0 := hx.frozen 0
  have d0 : w.cell? ⟨x, 0, none⟩ = some (.int .i64 z) := hx.cell 0 rfl
  go_enter_d Tryd.func35, Tryd.ntmps35
  go_wp2_with fail
  go_end0
  exact ⟨rfl, rfl⟩
theorem up_doorCancel (y x : Nat) (e z : Int) (u : FrameMode) (w : World) (hy : Blk w y 65 #[.int .i64 e]) (hx : Blk w x 31 #[.int .i64 z]) :
    CallsD Tryd.prog 40 #[.pointer (some ⟨y, 0, none⟩), .pointer (some ⟨x, 0, none⟩)] u w fun en u' w' => u' = u ∧ (en = .returned (.tuple #[]) ∧ w' = w.setCell ⟨x, 0, none⟩ (.int .i64 e)) := by
  have c0 : w.cell? ⟨y, 0, none⟩ = some (.int .i64 e) := hy.cell 0 rfl
  have z0 := hx.frozen 0
  have d0 : w.cell? ⟨x, 0, none⟩ = some (.int .i64 z) := hx.cell 0 rfl
  go_enter_d Tryd.func40, Tryd.ntmps40
  go_wp2_with fail
  go_end0
  exact ⟨rfl, rfl⟩
theorem up_doorLoad (y x : Nat) (e z : Int) (u : FrameMode) (w : World) (hy : Blk w y 65 #[.int .i64 e]) (hx : Blk w x 31 #[.int .i64 z]) :
    CallsD Tryd.prog 43 #[.pointer (some ⟨y, 0, none⟩), .pointer (some ⟨x, 0, none⟩)] u w fun en u' w' => u' = u ∧ (en = .returned (.tuple #[]) ∧ w' = w.setCell ⟨x, 0, none⟩ (.int .i64 e)) := by
  have c0 : w.cell? ⟨y, 0, none⟩ = some (.int .i64 e) := hy.cell 0 rfl
  have z0 := hx.frozen 0
  have d0 : w.cell? ⟨x, 0, none⟩ = some (.int .i64 z) := hx.cell 0 rfl
  go_enter_d Tryd.func43, Tryd.ntmps43
  go_wp2_with fail
  go_end0
  exact ⟨rfl, rfl⟩
theorem up_load_int {ty : TypeId} {k : IntKind} (hu : Tryd.prog.underlying ty = some (.int k)) (w : World) (ad : Addr) (v : Value) (h : w.cell? ad = some v) : (loadVar ty ad).run Tryd.prog w = .ok v w := by
  have hagg : (isAgg ty).run Tryd.prog w = .ok false w := by
    unfold isAgg
    rw [Sem.run_bind, run_underlying hu w]
    simp
  simp [loadVar, Sem.run_bind, hagg, h]
theorem up_results {fn : Func} {p q : Tmp} {t : TypeId} (h : fn.results = #[.tmp p, .cell q t]) (tmps : Array Value) (w : World) (g : Nat) (v e : Value) (hp : tmps.getD p undef = v) (hq : tmps.getD q undef = .pointer (some ⟨g, 0, none⟩)) (hl : (loadVar t ⟨g, 0, none⟩).run Tryd.prog w = .ok e w) :
    (results fn tmps).run Tryd.prog w = .ok (.tuple #[v, e]) w := by
  have hp' : tmps[p]?.getD undef = v := by simpa using hp
  have hq' : tmps[q]?.getD undef = .pointer (some ⟨g, 0, none⟩) := by simpa using hq
  simp [results, h, hp', hq', asAddr, hl]
/-- a function that has deferred one call, at its door: its two results -/
theorem up_leave {fn : Func} {p q : Tmp} {R : Ending → World → Prop} {k : FuncId} {cap : Array Value} {a : Act} {w : World} (h : fn.results = #[.tmp p, .cell q 31]) (x : Nat) (e z : Int) (v : Value)
    (hd : a.defers = [{ target := .fn (.func k) cap, args := #[] }]) (hk : (invoke (.fn (.func k) cap) #[]).run Tryd.prog w = .ok (.enter k cap) w)
    (hx : Blk w x 31 #[.int .i64 z]) (hc : CallsD Tryd.prog k cap .returning w fun en u' w' => u' = .returning ∧ (en = .returned (.tuple #[]) ∧ w' = w.setCell ⟨x, 0, none⟩ (.int .i64 e)))
    (hp : a.tmps.getD p undef = v) (hq : a.tmps.getD q undef = .pointer (some ⟨x, 0, none⟩)) (hR : R (.returned (.tuple #[v, .int .i64 e])) (w.setCell ⟨x, 0, none⟩ (.int .i64 e))) :
    Leaves Tryd.prog fn a.tmps R a.defers .returning w := by
  rw [hd]
  refine leaves_cons (f := k) (args := cap) (by simp) hk (hc.mono ?_)
  rintro en u' w' ⟨rfl, rfl, rfl⟩
  refine ⟨_, up_results h _ _ x v (.int .i64 e) hp hq ?_, hR⟩
  have hb := hx.set_ 0 (.int .i64 e)
  exact up_load_int Tryd.underlying31 _ _ _ (hb.cell 0 (by simp))
end Go.Proofs.YtgacdimjbpkgoaaDoor
/- Contract: strings.Clone, by the library's. -/
namespace Go.Proofs.YtgacdimjbpkgoaaDoor
open Go.RowKit Go.Shelf

def upRen : Ren where
  f := fun k => if k = 316 then 58 else 0
  t := fun k => if k = 3 then 3 else if k = 4 then 4 else if k = 5 then 5 else if k = 9 then 9 else if k = 37 then 22 else if k = 127 then 128 else 0
  g := fun _ => 0
theorem up_agg {t : TypeId} (h : (match Tryd.prog.underlying t with | some (.struct _) => false | some (.array _ _) => false | none => false | _ => true) = true) (w : World) : (isAgg t).run Tryd.prog w = .ok false w := by
  unfold isAgg
  cases hu : Tryd.prog.underlying t with
  | none => rw [hu] at h; exact absurd h (by decide)
  | some d =>
    rw [hu] at h
    rw [Sem.run_bind, run_underlying hu w]
    cases d <;> first | (simp; done) | cases h
theorem up_size {t : TypeId} {n : Nat} (h : (Tryd.prog.info? t).map (·.size) = some n) (w : World) : (Go.sizeOf t).run Tryd.prog w = .ok n w := by
  obtain ⟨i, hi, hs⟩ := Option.map_eq_some_iff.1 h
  simp [Go.sizeOf, typeInfo, hi, hs]
theorem up_zero {t : TypeId} {z : Value} (h : (Tryd.prog.info? t).map (·.zero) = some (some z)) (w : World) : (zeroValue t).run Tryd.prog w = .ok z w := by
  obtain ⟨i, hi, hs⟩ := Option.map_eq_some_iff.1 h
  simp [zeroValue, typeInfo, hi, hs]
theorem up_lays : LaysM.n316 Tryd.prog upRen where
  mixed := by kernel_rfl
  f316 := by kernel_rfl
  t0 := by kernel_rfl
  a0 := up_agg (by kernel_rfl)
  z0 := up_size (by kernel_rfl)
  v0 := up_zero (by kernel_rfl)
  t3 := by kernel_rfl
  a3 := up_agg (by kernel_rfl)
  z3 := up_size (by kernel_rfl)
  v3 := up_zero (by kernel_rfl)
  t4 := by kernel_rfl
  a4 := up_agg (by kernel_rfl)
  z4 := up_size (by kernel_rfl)
  v4 := up_zero (by kernel_rfl)
  t9 := by kernel_rfl
  a9 := up_agg (by kernel_rfl)
  z9 := up_size (by kernel_rfl)
  v9 := up_zero (by kernel_rfl)
  t37 := by kernel_rfl
  a37 := up_agg (by kernel_rfl)
  z37 := up_size (by kernel_rfl)
  v37 := up_zero (by kernel_rfl)
  t127 := by kernel_rfl
  a127 := up_agg (by kernel_rfl)
  z127 := up_size (by kernel_rfl)
  v127 := up_zero (by kernel_rfl)
  t5 := by kernel_rfl
  a5 := up_agg (by kernel_rfl)
  z5 := up_size (by kernel_rfl)
  v5 := up_zero (by kernel_rfl)
  i0 := by kernel_rfl
  i3 := by kernel_rfl
  i4 := by kernel_rfl
  i5 := by kernel_rfl
  i9 := by kernel_rfl
  i37 := by kernel_rfl
  i127 := by kernel_rfl
theorem up_clone (s : ByteArray) (w : World) (h : s.size ≤ 281474976710656) : Calls Tryd.prog 47 #[.string s] w fun e w' => e = .returned (.string s) ∧ Below w.heap.size w w' := by
  have HC := hid (show Calls Tryd.prog 58 #[.string s] w fun e w' => e = .returned (.string s) ∧ Below w.heap.size w w' from Any.stringslite_Clone up_lays s w h)
  clear h
  go_enter Tryd.func47, Tryd.ntmps47
  go_wp2_with fail
  refine HC.out.mono ?_
  rintro _ w1 ⟨rfl, hb⟩
  have HB := hid hb
  clear hb HC
  go_wp2_with fail
  go_ret
  exact ⟨rfl, HB.out⟩
end Go.Proofs.YtgacdimjbpkgoaaDoor
/- Contracts: a session of uploads: a piece more, a new one. -/
namespace Go.Proofs.YtgacdimjbpkgoaaDoor
open Go.RowKit

theorem up_eql_nil {P : Program} (w : World) (t e : TypeId) (a : Option Addr) (n c : Nat) (h : P.underlying t = some (.slice e)) :
    (binOp .eql t (.slice a n c) (.slice none 0 0)).run P w = .ok (.bool a.isNone) w := by
  have hq : ∀ d : Nat, (Op.equalIn (d + 1) t (.slice a n c) (.slice none 0 0)).run P w = .ok a.isNone w := fun d => by
    cases a <;> simp [Op.equalIn, run_underlying h]
  simp only [binOp]
  simp [Op.equal, Op.maxDepth, hq 9999]
theorem up_info_u8 : (Tryd.prog.info? 5).map (fun i => (i.zero, i.size, i.bytes)) = some (some (.int .u8 0), 1, 1) := by kernel_rfl
theorem up_info_row : (Tryd.prog.info? 22).map (fun i => (i.zero, i.size, i.bytes)) = some (some (.slice none 0 0), 1, 24) := by kernel_rfl
set_option maxRecDepth 20000 in
theorem up_bclone (B n c : Nat) (A : Option Addr) (bs : List UInt8) (w : World) (hs : SB w B A n bs) (hn : n ≤ 1099511627776) :
    Calls Tryd.prog 49 #[.slice A n c] w fun e w' => ∃ v, e = .returned v ∧ Own w' w.heap.size 5 v n bs ∧ Below w.heap.size w w' := by
  cases A with
  | none =>
    have hn0 : n = 0 := by
      rcases Nat.eq_zero_or_pos n with h | h
      · exact h
      · obtain ⟨_, _, e, _⟩ := hs.2 h; cases e
    subst hn0
    obtain rfl : bs = [] := List.eq_nil_of_length_eq_zero hs.1
    clear hs
    have hq := fun w => up_eql_nil (P := Tryd.prog) w 22 5 none 0 c Tryd.underlying22
    go_enter Tryd.func49, Tryd.ntmps49
    go_wp2_with fail
    go_ret
    exact ⟨_, rfl, Own.nil _ _ _, Below.refl _ _⟩
  | some a =>
    have HS := hid hs
    clear hs
    have hq := fun w => up_eql_nil (P := Tryd.prog) w 22 5 (some a) n c Tryd.underlying22
    go_enter Tryd.func49, Tryd.ntmps49
    go_wp2_with (at_builtin; refine Held.go ?_)
    have ho := Own.lit w 5 w.heap.size [] #[] 0 rfl rfl (Nat.le_refl _) (by omega)
    have hb := below_new w (.cells #[] 5)
    generalize w.alloc (.cells #[] 5) = w1 at ho hb ⊢
    refine wpList_append_bytes _ rfl _ _ _ rfl _ Tryd.underlying22 up_info_u8 w.heap.size _ 0 [] rfl ho B _ n c bs rfl (HS.out.keep hb) (by omega) hb.size ?_
    intro v' w' h1 h2 h3
    have HK := hid (show Own w' w.heap.size 5 v' n bs ∧ Below w.heap.size w w' from ⟨by simpa using h1, hb.trans (below_of_grown h2 hb.size (fun g e => (ho.block g e).1))⟩)
    clear h1 h2 h3 ho hb
    go_wp2_with fail
    go_ret
    exact ⟨v', rfl, HK.out⟩
/-- a session of the document's -/
structure US where
  n : Int
  repo : ByteArray
  ps : List (List UInt8)
def US.len (s : US) : Nat := s.ps.flatten.length
def US.push (s : US) (bs : List UInt8) : US := if bs = [] then s else { s with ps := s.ps ++ [bs] }
def seCells (s : US) (pv : Value) : Array Value := #[.int .i64 s.n, .string s.repo, pv, .int .i64 (s.len : Int)]
def upBlocks (q : Nat) (pv : Value) (us : List Value) : List Nat := q :: (pv.ownBlock.toList ++ us.flatMap fun u => u.ownBlock.toList)
/-- a session in memory -/
structure SessB (w : World) (base q : Nat) (s : US) (pv : Value) (us : List Value) : Prop where
  hd : Blk w q 74 (seCells s pv)
  recs : Recs w base pv s.ps us
  far : ∀ b, (pv.ownBlock = some b ∨ ∃ u ∈ us, u.ownBlock = some b) → b ≠ q
  hq : base ≤ q
  pos : ∀ x ∈ s.ps, x ≠ []
theorem up_recs_chg {w w' : World} {B : Nat} {L : List Nat} {v : Value} {l : List (List UInt8)} {us : List Value} (h : Recs w B v l us) (hc : Chg L w w') (hL : ∀ b, (v.ownBlock = some b ∨ ∃ u ∈ us, u.ownBlock = some b) → b ∉ L) : Recs w' B v l us where
  row := by
    have hlt0 := World.ownsRow.lt h.row
    rcases h.row with ⟨h1, ⟨hv, h0⟩ | ⟨g', cap, cur, hv, hb, hlt, r⟩⟩
    · exact ⟨h1, .inl ⟨hv, h0⟩⟩
    · have e := hc.block g' (hlt0 g' (by rw [hv]; rfl)).2 (hL g' (.inl (by rw [hv]; rfl)))
      exact ⟨h1, .inr ⟨g', cap, cur, hv, hb, e.trans hlt, r⟩⟩
  each := fun k x u hx hu => (h.each k x u hx hu).chg hc (fun g e => hL g (.inr ⟨u, List.mem_of_getElem? hu, e⟩))
  far := h.far
section
variable {w w' : World} {base q : Nat} {s : US} {pv : Value} {us : List Value} {L : List Nat}
theorem mem_upBlocks {b : Nat} : b ∈ upBlocks q pv us ↔ b = q ∨ pv.ownBlock = some b ∨ ∃ u ∈ us, u.ownBlock = some b := by
  unfold upBlocks
  simp only [List.mem_cons, List.mem_append, Option.mem_toList, List.mem_flatMap]
theorem SessB.chg (h : SessB w base q s pv us) (hc : Chg L w w') (hL : ∀ b ∈ upBlocks q pv us, b ∉ L) : SessB w' base q s pv us where
  hd := h.hd.chg hc (hL q (mem_upBlocks.2 (.inl rfl)))
  recs := up_recs_chg h.recs hc (fun b hb => hL b (mem_upBlocks.2 (.inr hb)))
  far := h.far
  hq := h.hq
  pos := h.pos
theorem SessB.keep (h : SessB w base q s pv us) (hb : Below w.heap.size w w') : SessB w' base q s pv us := h.chg (L := []) (Chg.of_below hb) (fun _ _ hm => by cases hm)
theorem SessB.lt (h : SessB w base q s pv us) : ∀ b ∈ upBlocks q pv us, base ≤ b ∧ b < w.heap.size := fun b hb => by
  rcases mem_upBlocks.1 hb with rfl | hb
  · exact ⟨h.hq, h.hd.lt⟩
  · exact h.recs.lt b hb
end
theorem flat_pos (l : List (List UInt8)) (h : ∀ x ∈ l, x ≠ []) : l.length ≤ l.flatten.length := by
  induction l with
  | nil => simp
  | cons x r ih =>
    have h1 := ih (fun y hy => h y (List.mem_cons_of_mem _ hy))
    have h2 : 0 < x.length := List.length_pos_iff.2 (h x (List.mem_cons_self ..))
    simp only [List.flatten_cons, List.length_append, List.length_cons]
    omega
/-- the clone of a piece -/
def AdP (w1 : World) (base n : Nat) (bs : List UInt8) (v : Value) (W : World) : Prop := Own W base 5 v n bs ∧ ∀ b, v.ownBlock = some b → w1.heap.size ≤ b
def AdN (v : Value) (B : Nat) : Prop := ∀ b, v.ownBlock = some b → b < B
theorem adp_st {w : World} {base q n : Nat} {s : US} {pv : Value} {us : List Value} {bs : List UInt8} (h : SessB w base q s pv us) : ∀ v W W', w.heap.size ≤ W.heap.size → Chg (q :: pv.ownBlock.toList) W W' → AdP w base n bs v W → AdP w base n bs v W' := fun v W W' _ hc hp =>
  ⟨hp.1.chg hc (fun g e hm => by
    have h1 := hp.2 g e
    rcases List.mem_cons.1 hm with rfl | hm
    · have := h.hd.lt; omega
    · have := (h.recs.lt g (.inl (by simpa using hm))).2; omega), hp.2⟩
def addVal (q n c : Nat) (A : Option Addr) (pv : Value) : Nat → Value → Value
  | 0, _ => .pointer (some ⟨q, 0, none⟩)
  | 1, _ => .pointer (some ⟨q, 0, none⟩)
  | 2, _ => .pointer (some ⟨q, 0, none⟩)
  | 3, _ => .pointer (some ⟨q, 2, none⟩)
  | 4, _ => pv
  | 5, _ => .slice A n c
  | 6, k => k
  | 7, k => k
  | 8, k => k
  | 9, _ => .pointer (some ⟨q, 0, none⟩)
  | 10, _ => .pointer (some ⟨q, 2, none⟩)
  | _, _ => undef
set_option maxRecDepth 20000 in
set_option maxHeartbeats 4000000 in
theorem up_add {w : World} {base q : Nat} {s : US} {pv : Value} {us : List Value} (A : Option Addr) (n c B : Nat) (bs : List UInt8) (h : SessB w base q s pv us) (hbs : base ≤ w.heap.size) (hs : SB w B A n bs) (hl : s.len + n ≤ 1000000) :
    Calls Tryd.prog 33 #[.pointer (some ⟨q, 0, none⟩), .slice A n c] w fun e w' => e = .returned (.tuple #[]) ∧ ∃ pv' us', SessB w' base q (s.push bs) pv' us' ∧ Chg (q :: pv.ownBlock.toList) w w' ∧ (∀ b ∈ upBlocks q pv' us', b ∈ upBlocks q pv us ∨ w.heap.size ≤ b) := by
  have hlen := hs.1
  by_cases h0 : n = 0
  · subst h0
    obtain rfl : bs = [] := List.eq_nil_of_length_eq_zero hlen
    have HH := hid h
    clear h hs hbs hl
    go_enter Tryd.func33, Tryd.ntmps33
    go_wp2_with fail
    go_end0
    exact ⟨rfl, pv, us, HH.out, Chg.refl _ _, fun b hb => .inl hb⟩
  have HH := hid h; have HBS := hid hbs
  have hpl := flat_pos s.ps h.pos
  have HCL := hid (fun W (hW : Below w.heap.size w W) => up_bclone B n c A bs W (hs.keep hW) (by omega))
  have HSZ := hid (fun (W : World) (hW : Below w.heap.size w W) => (Nat.le_trans hbs hW.size : base ≤ W.heap.size))
  obtain ⟨M, hM⟩ : ∃ M, s.ps.length = M := ⟨_, rfl⟩
  have HM := hid hM
  have HN := hid (show M ≤ 1000000 by unfold US.len at hl; omega)
  have HL := hid hl
  have HLB := hid hlen
  have hn0 : (0 : Int) < (n : Int) := by omega
  have hn1 : 0 < n := by omega
  clear h hs hbs hpl hM hl hlen
  go_enter Tryd.func33, Tryd.ntmps33
  go_wp2_with fail
  refine wp_region_invG 27 (.pointer none) (addVal q n c A pv) (ApS w base q 2 74 22 (seCells s pv) pv M us 6 7 8 11 (AdP w base n bs) AdN) (by kernel_rfl) (by kernel_rfl) (by exact Nat.le_refl 27) ?_ ?_ ?_
  · exact ApS.start w base q 2 _ _ _ _ _ _ 6 7 8 11 12 _ _ (by decide) _ HH.out.hd rfl (by rw [← HM.out]; exact HH.out.recs.row) HBS.out (fun e => HH.out.far q (.inl e) rfl) (adp_st HH.out)
  · intro i o f gh a W hi hf hdep hsame hcl hval hS
    rcases i with _ | _ | _ | _ | _ | _ | _ | _ | _ | _ | _ | _ | i
    all_goals simp only [List.getElem?_cons_succ, List.getElem?_cons_zero, List.getElem?_nil, Option.some.injEq, reduceCtorEq] at hi
    all_goals subst hi
    · have E0 : a.tmps[0]? = some (.pointer (some ⟨q, 0, none⟩)) := (same_of hsame 0 (by rfl)).trans rfl
      refine g_plain rfl ?_
      exact does_value (w' := W) (v := .pointer (some ⟨q, 0, none⟩)) (by go_simp) ⟨.pointer none, .inr rfl, hS.step (Below.refl _ _) 0 (.pointer none) (by decide) (by decide) (by decide) (by decide)⟩
    · have E0 : a.tmps[0]? = some (.pointer (some ⟨q, 0, none⟩)) := (same_of hsame 0 (by rfl)).trans rfl
      refine g_plain rfl ?_
      exact does_value (w' := W) (v := .pointer (some ⟨q, 0, none⟩)) (by go_simp) ⟨.pointer none, .inr rfl, hS.step (Below.refl _ _) 1 (.pointer none) (by decide) (by decide) (by decide) (by decide)⟩
    · have E8 := hval 1 _ 8 rfl rfl (dep_of hdep 1 (by rfl))
      unfold addVal at E8
      refine g_plain rfl ?_
      exact does_value (w' := W) (v := .pointer (some ⟨q, 0, none⟩)) (by go_simp) ⟨.pointer none, .inr rfl, hS.step (Below.refl _ _) 2 (.pointer none) (by decide) (by decide) (by decide) (by decide)⟩
    · have E9 := hval 2 _ 9 rfl rfl (dep_of hdep 2 (by rfl))
      unfold addVal at E9
      refine g_plain rfl ?_
      exact does_value (w' := W) (v := .pointer (some ⟨q, 2, none⟩)) (by go_simp) ⟨.pointer none, .inr rfl, hS.step (Below.refl _ _) 3 (.pointer none) (by decide) (by decide) (by decide) (by decide)⟩
    · have E10 := hval 3 _ 10 rfl rfl (dep_of hdep 3 (by rfl))
      unfold addVal at E10
      have n8 := not_yet hcl hf 8 (by rfl)
      have n11 := not_yet hcl n8 11 (by rfl)
      have c0 := hS.cell n11
      refine g_plain rfl ?_
      exact does_value (w' := W) (v := pv) (by go_simp) ⟨.pointer none, .inr rfl, hS.step (Below.refl _ _) 4 (.pointer none) (by decide) (by decide) (by decide) (by decide)⟩
    · have E1 : a.tmps[1]? = some (.slice A n c) := (same_of hsame 1 (by rfl)).trans rfl
      refine g_plain rfl ?_
      exact does_value (w' := W) (v := .slice A n c) (by go_simp) ⟨.pointer none, .inr rfl, hS.step (Below.refl _ _) 5 (.pointer none) (by decide) (by decide) (by decide) (by decide)⟩
    · have E12 := hval 5 _ 12 rfl rfl (dep_of hdep 5 (by rfl))
      unfold addVal at E12
      refine g_plain rfl ?_
      refine does_call 49 #[.slice A n c] (by go_simp) ((HCL.out W (hS.pre hf)).mono ?_)
      rintro _ W' ⟨v, rfl, ho, hb⟩
      exact ⟨v, rfl, v, .inr rfl, hS.call hf (by decide) (by decide) (by decide) hb v ⟨ho.lower (HSZ.out W (hS.pre hf)), fun b e => Nat.le_trans hS.chg.size ((World.ownsRow.lt ho b e).1)⟩⟩
    · have E13 := hval 6 _ 13 rfl rfl (dep_of hdep 6 (by rfl))
      unfold addVal at E13
      refine g_plain rfl ?_
      obtain ⟨Av, cv, ev, -, -, -⟩ := (hS.post (dep_of hdep 6 (by rfl))).1.sb
      rw [ev] at E13
      have hB := hS.build (dep_of hdep 6 (by rfl)) hf (by decide) (by decide) (by decide)
      rw [ev] at hB
      exact does_value (w' := W.alloc (.cells #[.slice Av n cv] 22)) (v := .slice (some ⟨W.heap.size, 0, none⟩) 1 1) (by go_simp) ⟨.slice (some ⟨W.heap.size, 0, none⟩) 1 1, .inr rfl, hB⟩
    · have E11 := hval 4 _ 11 rfl rfl (dep_of hdep 4 (by rfl))
      have E14 := hval 7 _ 14 rfl rfl (dep_of hdep 7 (by rfl))
      unfold addVal at E11 E14
      refine g_plain rfl ?_
      have hpost := hS.post ((hS.lit (dep_of hdep 7 (by rfl))).1)
      obtain ⟨Av, cv, ev, -, -, -⟩ := hpost.1.sb
      obtain ⟨qq, v', W', e6, hr, hS'⟩ := hS.app (P := Tryd.prog) (dep_of hdep 7 (by rfl)) hf (by decide) (by decide) (by decide) 72 72 Tryd.underlying72 up_info_row rfl HN.out (by decide) (by rw [ev]; rfl) (fun b e => (World.ownsRow.lt hpost.1 b e).2)
      rw [e6] at E14
      exact does_append _ _ _ rfl (by rw [eval_getD, E11]; rfl) (by rw [eval_getD, E14]; rfl) hr ⟨v', .inr rfl, hS'⟩
    · have E7 := hval 0 _ 7 rfl rfl (dep_of hdep 0 (by rfl))
      unfold addVal at E7
      refine g_plain rfl ?_
      exact does_value (w' := W) (v := .pointer (some ⟨q, 0, none⟩)) (by go_simp) ⟨.pointer none, .inr rfl, hS.step (Below.refl _ _) 9 (.pointer none) (by decide) (by decide) (by decide) (by decide)⟩
    · have E16 := hval 9 _ 16 rfl rfl (dep_of hdep 9 (by rfl))
      unfold addVal at E16
      refine g_plain rfl ?_
      exact does_value (w' := W) (v := .pointer (some ⟨q, 2, none⟩)) (by go_simp) ⟨.pointer none, .inr rfl, hS.step (Below.refl _ _) 10 (.pointer none) (by decide) (by decide) (by decide) (by decide)⟩
    · have E17 := hval 10 _ 17 rfl rfl (dep_of hdep 10 (by rfl))
      have E15 := hval 8 _ 15 rfl rfl (dep_of hdep 8 (by rfl))
      unfold addVal at E17 E15
      refine g_plain rfl ?_
      obtain ⟨g2, c2, e7⟩ := hS.form (dep_of hdep 8 (by rfl))
      rw [e7] at E15
      have c0 := hS.cell hf; have z0 := hS.frozen hf
      exact does_skip (w' := W.setCell ⟨q, 2, none⟩ (.slice (some ⟨g2, 0, none⟩) (M + 1) c2)) (by go_simp) ⟨.pointer none, .inl rfl, hS.put (dep_of hdep 8 (by rfl)) hf (by decide) (by decide) (by decide) (.pointer none) e7⟩
  · intro gh W hS
    obtain ⟨hap, hup⟩ := hS.up rfl
    obtain ⟨g2, c2, e8⟩ := hS.form rfl
    obtain ⟨-, hrow, hmv⟩ := hS.ap rfl
    have hpost := hS.post rfl
    have hch := hS.chg
    rw [e8] at hup hrow hmv
    have hd : Blk W q 74 #[.int .i64 s.n, .string s.repo, .slice (some ⟨g2, 0, none⟩) (M + 1) c2, .int .i64 (s.len : Int)] := by simpa [seCells] using hup
    have hq := HH.out.hd.lt
    have hnq : g2 ≠ q := fun e => by
      subst e
      rcases hmv with hm | ⟨b, hm, hb, -⟩
      · exact HH.out.far g2 (.inl hm.symm) rfl
      · simp [Value.ownBlock] at hm; omega
    have hfs : ∀ b, (gh 6).ownBlock = some b → w.heap.size ≤ b := hpost.2
    have hlen := HLB.out
    have hne : bs ≠ [] := fun e => by rw [e] at hlen; simp at hlen; omega
    have HEnd := hid (show ∀ W', Chg [q] W W' → Blk W' q 74 #[.int .i64 s.n, .string s.repo, .slice (some ⟨g2, 0, none⟩) (M + 1) c2, .int .i64 ((s.len + n : Nat) : Int)] → ∃ pv' us', SessB W' base q (s.push bs) pv' us' ∧ Chg (q :: pv.ownBlock.toList) w W' ∧ (∀ b ∈ upBlocks q pv' us', b ∈ upBlocks q pv us ∨ w.heap.size ≤ b) from by
      intro W' hc hb'
      have hR : Recs W base (.slice (some ⟨g2, 0, none⟩) (M + 1) c2) (s.ps ++ [bs]) (us ++ [gh 6]) := by
        have hold : ∀ (k : Nat) x u, s.ps[k]? = some x → us[k]? = some u → Own W base 5 u x.length x := fun k x u hx hu => (HH.out.recs.each k x u hx hu).chg hch (fun b e hm => by
          have hb1 := (HH.out.recs.lt b (.inr ⟨u, List.mem_of_getElem? hu, e⟩))
          rcases List.mem_cons.1 hm with rfl | hm
          · exact HH.out.far b (.inr ⟨u, List.mem_of_getElem? hu, e⟩) rfl
          · exact HH.out.recs.far u (List.mem_of_getElem? hu) b e (by simpa using hm))
        have hul := HH.out.recs.len
        refine ⟨by rw [List.length_append, HM.out]; exact hrow, fun k x u hx hu => ?_, fun u hu b e e2 => ?_⟩
        · by_cases hk : k < s.ps.length
          · rw [List.getElem?_append_left hk] at hx
            rw [List.getElem?_append_left (by omega)] at hu
            exact hold k x u hx hu
          · rw [List.getElem?_append_right (by omega)] at hx hu
            have e1 : k - s.ps.length = 0 := by
              have := (List.getElem?_eq_some_iff.1 hx).1
              simp at this; omega
            rw [e1] at hx
            rw [show k - us.length = 0 by omega] at hu
            cases hx; cases hu
            rw [hlen]
            exact hpost.1
        · simp only [Value.ownBlock, Option.some.injEq] at e2
          subst e2
          rcases List.mem_append.1 hu with hu | hu
          · rcases hmv with hm | ⟨b', hm, hb'⟩
            · exact HH.out.recs.far u hu _ e hm.symm
            · have := (HH.out.recs.lt _ (.inr ⟨u, hu, e⟩)).2
              have hx2 : g2 = b' := by simpa [Value.ownBlock] using hm
              have hx3 : g2 < w.heap.size := this
              omega
          · obtain rfl := List.mem_singleton.1 hu
            have h1 := hfs _ e
            rcases hmv with hm | ⟨b', hm, hb', hnp⟩
            · have hx0 : g2 < w.heap.size := (HH.out.recs.lt _ (.inl hm.symm)).2
              have hx1 : w.heap.size ≤ g2 := h1
              omega
            · have hx1 : g2 < b' := hnp _ e
              have hx2 : g2 = b' := by simpa [Value.ownBlock] using hm
              omega
      have hpush : s.push bs = { s with ps := s.ps ++ [bs] } := if_neg hne
      have hblk : ∀ b ∈ upBlocks q (.slice (some ⟨g2, 0, none⟩) (M + 1) c2) (us ++ [gh 6]), b ∈ upBlocks q pv us ∨ w.heap.size ≤ b := fun b hb => by
        rcases mem_upBlocks.1 hb with rfl | hb | ⟨u, hu, hb⟩
        · exact .inl (mem_upBlocks.2 (.inl rfl))
        · rcases hmv with hm | ⟨b', hm, hb', -⟩
          · rw [hb] at hm
            exact .inl (mem_upBlocks.2 (.inr (.inl hm.symm)))
          · rw [hb] at hm
            cases hm
            exact .inr hb'
        · rcases List.mem_append.1 hu with hu | hu
          · exact .inl (mem_upBlocks.2 (.inr (.inr ⟨u, hu, hb⟩)))
          · obtain rfl := List.mem_singleton.1 hu
            exact .inr (hfs _ hb)
      have hfar : ∀ b, ((Value.slice (some ⟨g2, 0, none⟩) (M + 1) c2).ownBlock = some b ∨ ∃ u ∈ us ++ [gh 6], u.ownBlock = some b) → b ≠ q := fun b hb e => by
        subst e
        rcases hb with hb | ⟨u, hu, hb⟩
        · exact hnq (by simpa [Value.ownBlock] using hb)
        · rcases List.mem_append.1 hu with hu | hu
          · exact HH.out.far b (.inr ⟨u, hu, hb⟩) rfl
          · obtain rfl := List.mem_singleton.1 hu
            have := hfs _ hb
            omega
      refine ⟨_, _, ⟨?_, by rw [hpush]; exact up_recs_chg hR hc (fun b hb hm => hfar b hb (List.mem_singleton.1 hm)), hfar, HH.out.hq, ?_⟩, hch.trans hc (fun b hb => .inl (by rw [List.mem_singleton.1 hb]; exact List.mem_cons_self ..)), hblk⟩
      · rw [hpush]
        have : ({ s with ps := s.ps ++ [bs] } : US).len = s.len + n := by simp [US.len, hlen]
        unfold seCells
        rw [this]
        exact hb'
      · rw [hpush]
        intro x hx
        rcases List.mem_append.1 hx with hx | hx
        · exact HH.out.pos x hx
        · rw [List.mem_singleton.1 hx]; exact hne)
    have c3 : W.cell? ⟨q, 3, none⟩ = some (.int .i64 (s.len : Int)) := hd.cell 3 rfl
    have z3 := hd.frozen 3
    have hsum : IntKind.i64.wrap ((s.len : Int) + (n : Int)) = ((s.len + n : Nat) : Int) := by
      have := HL.out
      rw [IntWalk.i64_in _ (by omega)]; omega
    have HSet := hid (HEnd.out (W.setCell ⟨q, 3, none⟩ (.int .i64 ((s.len + n : Nat) : Int))) (Chg.of_grown (grown_setCell W q 3 _) (fun g e => by cases e; simp)) (by have := hd.set_ 3 (.int .i64 ((s.len + n : Nat) : Int)); simpa using this))
    simp only [putAll, addVal, Nat.reduceAdd, Nat.zero_add, Act.put, List.setIfInBounds_toArray, List.set_cons_zero, List.set_cons_succ]
    clear hS hap hup e8 hrow hmv hpost hch hq hnq hfs hlen hne HEnd hd
    go_wp2_with fail
    go_end0
    exact ⟨rfl, HSet.out⟩
end Go.Proofs.YtgacdimjbpkgoaaDoor
