/- Contracts: a sector is written. -/
import Derived.Test.YtjenafbkalokoaaDvNew
import Derived.Test.YtjenafbkalokoaaPhaseT
import Derived.Great.BuildSlice
namespace Go.Proofs.Ytjenafbkalokoaa
open Go.RowKit

def aggD (d : TypeDesc) : Bool := match d with | .struct _ => true | .array _ _ => true | _ => false
theorem run_load_cells {P : Program} {w : World} (t : TypeId) (ad : Addr) (cs : List Value) (hc : ∀ j v, cs[j]? = some v → w.cell? (ad.add j) = some v)
    {d : TypeDesc} (hu : P.underlying t = some d) (hd : aggD d = true) (hi : (P.info? t).map (·.size) = some cs.length) : (loadVar t ad).run P w = .ok (.agg cs.toArray) w := by
  have hl := run_loadCells_list (P := P) w ad cs hc
  cases hq : P.info? t with
  | none => simp [hq] at hi
  | some i =>
    have hs : i.size = cs.length := by simpa [hq] using hi
    have hagg : (isAgg t).run P w = .ok true w := by
      unfold isAgg
      rw [Sem.run_bind, run_underlying hu w]
      cases d <;> simp_all [aggD]
    simp [loadVar, Sem.run_bind, hagg, sizeOf, typeInfo, hq, hs, hl]
theorem underlying_write : ∃ d, Try.prog.underlying 78 = some d ∧ aggD d = true := by
  have h : (Try.prog.underlying 78).map aggD = some true := by kernel_rfl
  obtain ⟨d, h1, h2⟩ := Option.map_eq_some_iff.1 h
  exact ⟨d, h1, h2⟩
theorem underlying_sector : ∃ d, Try.prog.underlying 72 = some d ∧ aggD d = true := by
  have h : (Try.prog.underlying 72).map aggD = some true := by kernel_rfl
  obtain ⟨d, h1, h2⟩ := Option.map_eq_some_iff.1 h
  exact ⟨d, h1, h2⟩
theorem size_write : (Try.prog.info? 78).map (·.size) = some 65 := by kernel_rfl
theorem size_sector : (Try.prog.info? 72).map (·.size) = some 64 := by kernel_rfl
/-- a write's cells, in a block of its own -/
theorem load_write {w : World} {b : Nat} {t : TypeId} {x : Nat × List UInt8} (h : Blk w b t (lcell x).toArray) (h64 : x.2.length = 64) : (loadVar 78 ⟨b, 0, none⟩).run Try.prog w = .ok (.agg (lcell x).toArray) w := by
  obtain ⟨d, h1, h2⟩ := underlying_write
  exact run_load_cells _ _ _ (fun j v hj => by rw [Addr.add_lit, Nat.zero_add]; exact h.cell j (by simpa using hj)) h1 h2 (by rw [lcell_length h64]; exact size_write)
theorem load_sector {w : World} {b : Nat} {t : TypeId} {x : Nat × List UInt8} (h : Blk w b t (lcell x).toArray) (h64 : x.2.length = 64) : (loadVar 72 ⟨b, 1, none⟩).run Try.prog w = .ok (.agg (bcs x.2).toArray) w := by
  obtain ⟨d, h1, h2⟩ := underlying_sector
  exact run_load_cells _ _ _ (fun j v hj => by rw [Addr.add_lit]; exact h.cell _ (by simp [lcell, Nat.add_comm 1 j, hj])) h1 h2 (by rw [bcs_length, h64]; exact size_sector)
/-- a sector is stored -/
theorem store_sector {w : World} {b : Nat} {t : TypeId} {l bs : List UInt8} {n i : Nat} (h : Blk w b t (bcs l).toArray) (hl : l.length = 64 * n) (hi : i < n) (h64 : bs.length = 64) :
    (storeVar 72 ⟨b, i * 64, none⟩ (.agg (bcs bs).toArray)).run Try.prog w = .ok () (w.setRow b (bcs (secPut l i bs)).toArray) := by
  rw [sec_part l i] at h
  rw [put_part]
  exact part_store h _ (by rw [bcs_length, List.length_take]; omega) (by rw [bcs_length, h64]; exact size_sector) (by rw [bcs_length, bcs_length, secAt_length hl hi, h64]) (bcs_oneCell bs)
theorem list_fn {l : List Value} {n : Nat} (h : l.length = n) : l = (List.range n).map fun k => l.getD k undef := by
  refine List.ext_getElem (by simp [h]) fun k h1 h2 => ?_
  simp [List.getD, h1]
/-- a write out of a number and a sector -/
theorem build_write (i : Int) (l : List Value) (h : l.length = 64) (W : World) : (Instr.build 78 #[(0, .int .i64 i), (1, .agg l.toArray)]).run Try.prog W = .ok (.agg (.int .i64 i :: l).toArray) W := by
  rw [list_fn h]
  generalize (fun k => l.getD k undef) = f
  kernel_rfl
/-- a slice of one write -/
theorem slice_write (x : Nat × List UInt8) (h : x.2.length = 64) (W : World) : (Instr.buildSlice 44 1 #[(0, .agg (lcell x).toArray)]).run Try.prog W = .ok (.slice (some ⟨W.heap.size, 0, none⟩) 1 1) (W.alloc (.cells (lcell x).toArray 78)) := by
  have hz : (Try.prog.info? 78).map (fun i => (i.zero, i.size, i.bytes)) = some (some (.agg ((Value.int .i64 0) :: List.replicate 64 (.int .u8 0)).toArray), 65, 72) := by kernel_rfl
  obtain ⟨i, hi, hz, hs, hb⟩ := info_parts hz
  have hl := lcell_length h
  refine run_buildSlice (P := Try.prog) W _ _ 1 _ _ i _ (by kernel_rfl) hi hz (by rw [hs]; omega) (by rw [hs]; omega) ?_
  rw [hs]
  have := Great.fill_whole (s := 65) (by omega) [.agg (lcell x).toArray] ((Array.range (1 * 65)).map ((Value.agg ((Value.int .i64 0) :: List.replicate 64 (.int .u8 0)).toArray).cells[· % (Value.agg ((Value.int .i64 0) :: List.replicate 64 (.int .u8 0)).toArray).cells.size]!)) (by simp [Value.cells, hl]) (by simp)
  simpa [Value.cells] using this
/-- a store that is one run -/
theorem wpList_store_run {P : Program} {ops : Array Oper} {rest : List Oper} {o : Oper} {a : Act} {w w' : World} {Q : Exit → Act → World → Prop} (hg : o.guard = none) (t : TypeId) (x y : Operand) (ho : o.op = .store t x y) (ad : Addr) (v : Value) (hx : a.eval x = .pointer (some ad)) (hy : a.eval y = v)
    (hr : (storeVar t ad v).run P w = .ok () w') (h : wpList P ops Q rest (a.put o.dst undef) w') : wpList P ops Q (o :: rest) a w :=
  wpList_plain hg fun K hK => by
    unfold Oper.wp execOp
    simp only [ho, hx, hy, Instr.storeAt, Instr.sureAddr, Sem.run_bind, Sem.run_pure, Result.andThen_ok, hr]
    exact hK _ _ h
theorem wpList_load_run {P : Program} {ops : Array Oper} {rest : List Oper} {o : Oper} {a : Act} {w : World} {Q : Exit → Act → World → Prop} (hg : o.guard = none) (t : TypeId) (x : Operand) (ho : o.op = .load t x) (ad : Addr) (v : Value) (hx : a.eval x = .pointer (some ad))
    (hr : (loadVar t ad).run P w = .ok v w) (h : wpList P ops Q rest (a.put o.dst v) w) : wpList P ops Q (o :: rest) a w :=
  wpList_plain hg fun K hK => by
    unfold Oper.wp execOp
    simp only [ho, hx, Instr.loadAt, Instr.sureAddr, Sem.run_bind, Sem.run_pure, Result.andThen_ok, hr]
    exact hK _ _ h
/-- what a written device is -/
def putS (s : DS) (i : Nat) (bs : List UInt8) : DS := { s with now := secPut s.now i bs, loose := s.loose ++ [(i, bs)] }
section
variable {w w' : World} {base g a m c : Nat} {A : Option Addr} {q : Option Nat} {s : DS}
theorem DevIn.setNow (h : DevIn w base g a m A c q s) (l : List UInt8) : DevIn (w.setRow a (bcs l).toArray) base g a m A c q { s with now := l } := by
  have hc : Chg [a] w (w.setRow a (bcs l).toArray) := chg_setRow (L := [a]) (by simp) _
  exact { hd := h.hd.chg hc (by simpa using h.ga), now := h.now.setRow _, img := h.img.chg hc (by simpa using h.am.symm), row := ownsRow_chg h.row hc (fun b hb => by simpa using (h.rs b (by rwa [own_row] at hb)).2.1),
          fz := h.fz.chg hc (fun f hf => by simpa using (h.qs f hf).2.1), ga := h.ga, gm := h.gm, am := h.am, rs := h.rs, qs := fun f hf => by simpa using h.qs f hf, hg := h.hg, ha := h.ha, hm := h.hm }
theorem DevIn.setImg (h : DevIn w base g a m A c q s) (l : List UInt8) : DevIn (w.setRow m (bcs l).toArray) base g a m A c q { s with img := l } := by
  have hc : Chg [m] w (w.setRow m (bcs l).toArray) := chg_setRow (L := [m]) (by simp) _
  exact { hd := h.hd.chg hc (by simpa using h.gm), now := h.now.chg hc (by simpa using h.am), img := h.img.setRow _, row := ownsRow_chg h.row hc (fun b hb => by simpa using (h.rs b (by rwa [own_row] at hb)).2.2.1),
          fz := h.fz.chg hc (fun f hf => by simpa using (h.qs f hf).2.2.1), ga := h.ga, gm := h.gm, am := h.am, rs := h.rs, qs := fun f hf => by simpa using h.qs f hf, hg := h.hg, ha := h.ha, hm := h.hm }
/-- one loose write more -/
theorem DevIn.pushed {g' cap : Nat} {x : Nat × List UInt8} (h : DevIn w base g a m A c q s) (hk : w.grownBy w' (rowOf A)) (ho : w'.ownsRow base 78 65 (.slice (some ⟨g', 0, none⟩) (s.loose.length + 1) cap) (s.loose.length + 1) (lcells s.loose ++ lcell x)) (hg' : rowOf A = some g' ∨ w.heap.size ≤ g') :
    DevIn (w'.setCell ⟨g, 3, none⟩ (.slice (some ⟨g', 0, none⟩) (s.loose.length + 1) cap)) base g a m (some ⟨g', 0, none⟩) cap q { s with loose := s.loose ++ [x] } := by
  have hlt := h.lt
  have l1 := (hlt g (.inl rfl)).2
  have l2 := (hlt a (.inr (.inl rfl))).2
  have l3 := (hlt m (.inr (.inr (.inl rfl)))).2
  have hne : g' ≠ g ∧ g' ≠ a ∧ g' ≠ m ∧ q ≠ some g' := by
    rcases hg' with hr | hr
    · exact h.rs g' hr
    · refine ⟨by omega, by omega, by omega, fun e => ?_⟩
      have := (hlt g' (.inr (.inr (.inr (.inr e))))).2
      omega
  have hc : Chg [g] w' (w'.setCell ⟨g, 3, none⟩ (.slice (some ⟨g', 0, none⟩) (s.loose.length + 1) cap)) := chg_set (L := [g]) (by simp) 3 _
  have hkc : Chg (rowOf A).toList w w' := Chg.of_grown hk (fun b hb => by rw [hb]; simp)
  have hn : ∀ b, rowOf A ≠ some b → b ∉ (rowOf A).toList := fun b hb hm => hb (by simpa using hm)
  refine { hd := ?_, now := (h.now.chg hkc (hn a (fun e => (h.rs a e).2.1 rfl))).chg hc (by simpa using h.ga.symm), img := (h.img.chg hkc (hn m (fun e => (h.rs m e).2.2.1 rfl))).chg hc (by simpa using h.gm.symm), row := ?_,
           fz := (h.fz.chg hkc (fun f hf => hn f (fun e => (h.rs f e).2.2.2 hf))).chg hc (fun f hf => by simpa using (h.qs f hf).1), ga := h.ga, gm := h.gm, am := h.am, rs := fun b hb => by cases hb; exact hne,
           qs := fun f hf => ⟨(h.qs f hf).1, (h.qs f hf).2.1, (h.qs f hf).2.2.1, (h.qs f hf).2.2.2.1, Nat.lt_of_lt_of_le (h.qs f hf).2.2.2.2 (by simpa using hk.size)⟩, hg := h.hg, ha := h.ha, hm := h.hm }
  · have := (h.hd.grown hk (fun e => (h.rs g e).1 rfl)).set_ 3 (.slice (some ⟨g', 0, none⟩) (s.loose.length + 1) cap)
    simpa using this
  · have := ownsRow_chg ho hc (fun b hb => by
      have e : b = g' := by simpa [Value.ownBlock, eq_comm] using hb
      subst e; simpa using hne.1)
    rw [lcells_snoc]
    simpa using this
end
end Go.Proofs.Ytjenafbkalokoaa
