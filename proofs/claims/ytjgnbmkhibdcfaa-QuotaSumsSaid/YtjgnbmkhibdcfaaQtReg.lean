/- Drawn regions that lay one new block; structs that are built. -/
import Derived.Test.YtjgnbmkhibdcfaaQtMem
namespace Go.Proofs.Ytjgnbmkhibdcfaa
open Go.RowKit

theorem does_store {P : Program} {o : Oper} {a : Act} {w : World} {T : Value → World → Prop} (t : TypeId) (x y : Operand) (ho : o.op = .store t x y) (g : Nat) (cs : Array Value) (hx : a.eval x = .pointer (some ⟨g, 0, none⟩)) (hy : a.eval y = .agg cs)
    (t' : TypeId) (old : Array Value) (hb : Blk w g t' old) (hi : (P.info? t).map (·.size) = some cs.size) (hold : old.size = cs.size) (h1 : cs.toList.all (·.oneCell') = true) (h : T undef (w.setRow g cs)) : OpDoes P o a w T :=
  fun _ _ hK => wp_store_row t x y ho g cs hx hy t' old hb hi hold (by rw [← Array.all_toList]; exact h1) (hK _ _ h)
theorem does_load {P : Program} {o : Oper} {a : Act} {w : World} {T : Value → World → Prop} (t : TypeId) (x : Operand) (ho : o.op = .load t x) (g : Nat) (hx : a.eval x = .pointer (some ⟨g, 0, none⟩)) (t' : TypeId) {cs : Array Value} (hb : Blk w g t' cs) (d : TypeDesc)
    (hu : P.underlying t = some d) (hd : (match d with | .struct _ | .array _ _ => true | _ => false) = true) (hi : (P.info? t).map (·.size) = some cs.size) (h : T (.agg cs) w) : OpDoes P o a w T :=
  fun _ _ hK => wp_load_row t x ho g hx t' cs (0, 0) d hb hu hd hi (hK _ _ h)
theorem does_build {P : Program} {o : Oper} {a : Act} {w : World} {T : Value → World → Prop} (t : TypeId) (parts : Array (Nat × Operand)) (ho : o.op = .build t parts) {ps : Array (Nat × Value)} {v : Value} (hp : parts.map (fun x => (x.1, a.eval x.2)) = ps) (hr : (Instr.build t ps).run P w = .ok v w) (h : T v w) : OpDoes P o a w T := fun K Q hK => by
  unfold Oper.wp execOp
  simp only [ho]
  have : (parts.map fun (i, x) => (i, a.eval x)) = ps := hp
  rw [this]
  simp only [Sem.run_bind, hr, Result.andThen_ok]
  exact hK _ _ h
/-- a region that reads, and lays one block q of type t: operation ia lays it (z), operation it fills it (cs) -/
structure AlS (w1 : World) (t : TypeId) (z cs : Array Value) (q ia it : Nat) (f : Nat → Bool) (W : World) : Prop where
  bel : Below w1.heap.size w1 W
  hq : w1.heap.size = q
  no : f ia = false → W.heap.size = q
  nit : f ia = false → f it = false
  mid : f ia = true → f it = false → Blk W q t z
  fin : f it = true → Blk W q t cs
section
variable {w1 W W' : World} {t : TypeId} {z cs : Array Value} {q ia it : Nat} {f : Nat → Bool}
theorem upd_other {i j : Nat} (h : i ≠ j) : upd f j i = f i := by simp [upd, h]
theorem upd_same (i : Nat) : upd f i i = true := by simp [upd]
theorem AlS.start (n : Nat) (ha : ia < n) (hs : it < n) (hq : w1.heap.size = q) : AlS w1 t z cs q ia it (fun j => decide (n ≤ j)) w1.drew where
  bel := (Below.refl _ _).drew
  hq := hq
  no := fun _ => hq
  nit := fun _ => by simp; omega
  mid := fun h => by simp at h; omega
  fin := fun h => by simp at h; omega
theorem AlS.step (h : AlS w1 t z cs q ia it f W) (i : Nat) (h1 : ia ≠ i) (h2 : it ≠ i) (hb : Below W.heap.size W W') (hs : W'.heap.size = W.heap.size) : AlS w1 t z cs q ia it (upd f i) W' := by
  refine ⟨h.bel.trans (hb.mono h.bel.size), h.hq, ?_, ?_, ?_, ?_⟩
  · rw [upd_other h1]; exact fun e => by rw [hs]; exact h.no e
  · rw [upd_other h1, upd_other h2]; exact h.nit
  · rw [upd_other h1, upd_other h2]; exact fun a b => (h.mid a b).keep hb
  · rw [upd_other h2]; exact fun a => (h.fin a).keep hb
theorem AlS.same (h : AlS w1 t z cs q ia it f W) (i : Nat) (h1 : ia ≠ i) (h2 : it ≠ i) : AlS w1 t z cs q ia it (upd f i) W := h.step i h1 h2 (Below.refl _ _) rfl
theorem AlS.lay (h : AlS w1 t z cs q ia it f W) (hf : f ia = false) (hne : ia ≠ it) : AlS w1 t z cs q ia it (upd f ia) (W.alloc (.cells z t)) where
  bel := h.bel.trans ((below_new W (.cells z t)).mono h.bel.size)
  hq := h.hq
  no := fun e => by rw [upd_same] at e; cases e
  nit := fun e => by rw [upd_same] at e; cases e
  mid := fun _ _ => by have := Blk.new W t z; rw [h.no hf] at this; exact this
  fin := fun e => by rw [upd_other (Ne.symm hne), h.nit hf] at e; cases e
theorem AlS.fill (h : AlS w1 t z cs q ia it f W) (hf : f ia = true) (hg : f it = false) (hne : ia ≠ it) : AlS w1 t z cs q ia it (upd f it) (W.setRow q cs) where
  bel := h.bel.trans (below_of_grown (grown_setRow W q cs) h.bel.size (fun g e => by cases e; rw [h.hq]; exact Nat.le_refl _))
  hq := h.hq
  no := fun e => by rw [upd_other hne, hf] at e; cases e
  nit := fun e => by rw [upd_other hne, hf] at e; cases e
  mid := fun _ e => by rw [upd_same] at e; cases e
  fin := fun _ => (h.mid hf hg).setRow cs
end
/-- a region that reads, and writes once, by operation it: T holds behind it -/
structure WrS (wd : World) (it : Nat) (T : World → Prop) (f : Nat → Bool) (W : World) : Prop where
  pre : f it = false → W = wd
  post : f it = true → T W
/-- a region that reads, lays one block by operation ia, and writes once, by operation it -/
structure WrA (wd : World) (o : Obj) (ia it : Nat) (T : World → Prop) (f : Nat → Bool) (W : World) : Prop where
  nit : f ia = false → f it = false
  no : f ia = false → W = wd
  mid : f ia = true → f it = false → W = wd.alloc o
  post : f it = true → T W
section
variable {wd W W' : World} {o : Obj} {ia it : Nat} {T : World → Prop} {f : Nat → Bool}
theorem WrS.start (n : Nat) (h : it < n) : WrS wd it T (fun j => decide (n ≤ j)) wd := ⟨fun _ => rfl, fun e => by simp at e; omega⟩
theorem WrS.same (h : WrS wd it T f W) (i : Nat) (hi : it ≠ i) : WrS wd it T (upd f i) W := ⟨by rw [upd_other hi]; exact h.pre, by rw [upd_other hi]; exact h.post⟩
theorem WrS.done (h : T W') : WrS wd it T (upd f it) W' := ⟨fun e => (by rw [upd_same] at e; cases e), fun _ => h⟩
theorem WrA.start (n : Nat) (ha : ia < n) (h : it < n) : WrA wd o ia it T (fun j => decide (n ≤ j)) wd := ⟨fun _ => (by simp; omega), fun _ => rfl, fun e => (by simp at e; omega), fun e => (by simp at e; omega)⟩
theorem WrA.same (h : WrA wd o ia it T f W) (i : Nat) (ha : ia ≠ i) (hi : it ≠ i) : WrA wd o ia it T (upd f i) W := ⟨by rw [upd_other ha, upd_other hi]; exact h.nit, by rw [upd_other ha]; exact h.no, by rw [upd_other ha, upd_other hi]; exact h.mid, by rw [upd_other hi]; exact h.post⟩
theorem WrA.lay (h : WrA wd o ia it T f W) (hf : f ia = false) (hne : ia ≠ it) : WrA wd o ia it T (upd f ia) (wd.alloc o) := ⟨fun e => (by rw [upd_same] at e; cases e), fun e => (by rw [upd_same] at e; cases e), fun _ _ => rfl, fun e => (by rw [upd_other (Ne.symm hne), h.nit hf] at e; cases e)⟩
theorem WrA.done (h : T W') (hf : f ia = true) (hne : ia ≠ it) : WrA wd o ia it T (upd f it) W' := ⟨fun e => (by rw [upd_other hne, hf] at e; cases e), fun e => (by rw [upd_other hne, hf] at e; cases e), fun _ e => (by rw [upd_same] at e; cases e), fun _ => h⟩
theorem WrA.bel (h : WrA wd o ia it T f W) (hf : f it = false) : Below wd.heap.size wd W := by
  cases ha : f ia with
  | false => rw [h.no ha]; exact Below.refl _ _
  | true => rw [h.mid ha hf]; exact below_new _ _
end
theorem list_cons {l : List UInt8} {n : Nat} (h : l.length = n + 1) : ∃ x t, l = x :: t ∧ t.length = n := by
  cases l with
  | nil => simp at h
  | cons x t => exact ⟨x, t, rfl, by simpa using h⟩
set_option maxRecDepth 20000 in
theorem built_link (r : ByteArray) (l : List UInt8) (h : l.length = 32) : Try.prog.built 71 [(0, .string r), (1, .agg (bcells l))] = some ⟨.string r :: l.map bv⟩ := by
  obtain ⟨x0, l0, rfl, h0⟩ := list_cons h
  obtain ⟨x1, l1, rfl, h1⟩ := list_cons h0
  obtain ⟨x2, l2, rfl, h2⟩ := list_cons h1
  obtain ⟨x3, l3, rfl, h3⟩ := list_cons h2
  obtain ⟨x4, l4, rfl, h4⟩ := list_cons h3
  obtain ⟨x5, l5, rfl, h5⟩ := list_cons h4
  obtain ⟨x6, l6, rfl, h6⟩ := list_cons h5
  obtain ⟨x7, l7, rfl, h7⟩ := list_cons h6
  obtain ⟨x8, l8, rfl, h8⟩ := list_cons h7
  obtain ⟨x9, l9, rfl, h9⟩ := list_cons h8
  obtain ⟨x10, l10, rfl, h10⟩ := list_cons h9
  obtain ⟨x11, l11, rfl, h11⟩ := list_cons h10
  obtain ⟨x12, l12, rfl, h12⟩ := list_cons h11
  obtain ⟨x13, l13, rfl, h13⟩ := list_cons h12
  obtain ⟨x14, l14, rfl, h14⟩ := list_cons h13
  obtain ⟨x15, l15, rfl, h15⟩ := list_cons h14
  obtain ⟨x16, l16, rfl, h16⟩ := list_cons h15
  obtain ⟨x17, l17, rfl, h17⟩ := list_cons h16
  obtain ⟨x18, l18, rfl, h18⟩ := list_cons h17
  obtain ⟨x19, l19, rfl, h19⟩ := list_cons h18
  obtain ⟨x20, l20, rfl, h20⟩ := list_cons h19
  obtain ⟨x21, l21, rfl, h21⟩ := list_cons h20
  obtain ⟨x22, l22, rfl, h22⟩ := list_cons h21
  obtain ⟨x23, l23, rfl, h23⟩ := list_cons h22
  obtain ⟨x24, l24, rfl, h24⟩ := list_cons h23
  obtain ⟨x25, l25, rfl, h25⟩ := list_cons h24
  obtain ⟨x26, l26, rfl, h26⟩ := list_cons h25
  obtain ⟨x27, l27, rfl, h27⟩ := list_cons h26
  obtain ⟨x28, l28, rfl, h28⟩ := list_cons h27
  obtain ⟨x29, l29, rfl, h29⟩ := list_cons h28
  obtain ⟨x30, l30, rfl, h30⟩ := list_cons h29
  obtain ⟨x31, l31, rfl, h31⟩ := list_cons h30
  obtain rfl := List.eq_nil_of_length_eq_zero h31
  kernel_rfl
theorem run_build_link (k : LKey) (h : k.2.length = 32) (w : World) : (Instr.build 71 #[(0, .string (strB k.1)), (1, .agg (bcells k.2))]).run Try.prog w = .ok (kval k) w := run_build w _ _ _ (built_link _ _ h)
/-- a request -/
def rqcells (k : LKey) (sz : Int) (fv : Value) : Array Value := ⟨.string (strB k.1) :: (k.2.map bv ++ [.int .i64 sz, fv])⟩
set_option maxRecDepth 20000 in
theorem built_rq (r : ByteArray) (l : List UInt8) (h : l.length = 32) (sz : Int) (f : Fn) (first cap : Array Value) : Try.prog.built 74 [(0, .agg ⟨.string r :: l.map bv⟩), (1, .int .i64 sz), (2, .func f first cap)] = some ⟨.string r :: (l.map bv ++ [.int .i64 sz, .func f first cap])⟩ := by
  obtain ⟨x0, l0, rfl, h0⟩ := list_cons h
  obtain ⟨x1, l1, rfl, h1⟩ := list_cons h0
  obtain ⟨x2, l2, rfl, h2⟩ := list_cons h1
  obtain ⟨x3, l3, rfl, h3⟩ := list_cons h2
  obtain ⟨x4, l4, rfl, h4⟩ := list_cons h3
  obtain ⟨x5, l5, rfl, h5⟩ := list_cons h4
  obtain ⟨x6, l6, rfl, h6⟩ := list_cons h5
  obtain ⟨x7, l7, rfl, h7⟩ := list_cons h6
  obtain ⟨x8, l8, rfl, h8⟩ := list_cons h7
  obtain ⟨x9, l9, rfl, h9⟩ := list_cons h8
  obtain ⟨x10, l10, rfl, h10⟩ := list_cons h9
  obtain ⟨x11, l11, rfl, h11⟩ := list_cons h10
  obtain ⟨x12, l12, rfl, h12⟩ := list_cons h11
  obtain ⟨x13, l13, rfl, h13⟩ := list_cons h12
  obtain ⟨x14, l14, rfl, h14⟩ := list_cons h13
  obtain ⟨x15, l15, rfl, h15⟩ := list_cons h14
  obtain ⟨x16, l16, rfl, h16⟩ := list_cons h15
  obtain ⟨x17, l17, rfl, h17⟩ := list_cons h16
  obtain ⟨x18, l18, rfl, h18⟩ := list_cons h17
  obtain ⟨x19, l19, rfl, h19⟩ := list_cons h18
  obtain ⟨x20, l20, rfl, h20⟩ := list_cons h19
  obtain ⟨x21, l21, rfl, h21⟩ := list_cons h20
  obtain ⟨x22, l22, rfl, h22⟩ := list_cons h21
  obtain ⟨x23, l23, rfl, h23⟩ := list_cons h22
  obtain ⟨x24, l24, rfl, h24⟩ := list_cons h23
  obtain ⟨x25, l25, rfl, h25⟩ := list_cons h24
  obtain ⟨x26, l26, rfl, h26⟩ := list_cons h25
  obtain ⟨x27, l27, rfl, h27⟩ := list_cons h26
  obtain ⟨x28, l28, rfl, h28⟩ := list_cons h27
  obtain ⟨x29, l29, rfl, h29⟩ := list_cons h28
  obtain ⟨x30, l30, rfl, h30⟩ := list_cons h29
  obtain ⟨x31, l31, rfl, h31⟩ := list_cons h30
  obtain rfl := List.eq_nil_of_length_eq_zero h31
  kernel_rfl
theorem run_build_rq (k : LKey) (h : k.2.length = 32) (sz : Int) (f : Fn) (first cap : Array Value) (w : World) : (Instr.build 74 #[(0, kval k), (1, .int .i64 sz), (2, .func f first cap)]).run Try.prog w = .ok (.agg (rqcells k sz (.func f first cap))) w := run_build w _ _ _ (built_rq _ _ h _ _ _ _)
end Go.Proofs.Ytjgnbmkhibdcfaa
