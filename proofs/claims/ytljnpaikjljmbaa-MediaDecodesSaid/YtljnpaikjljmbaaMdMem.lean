/- Manifests and descriptions in memory; loads and stores of their parts. -/
import Derived.Test.YtljnpaikjljmbaaWrOwnW
import Derived.Test.YtljnpaikjljmbaaWrPart
import Derived.Laws.EntriesVeiled
import Derived.Shelf.Abstract
import Derived.Test.YtljnpaikjljmbaaAppS
namespace Go.Proofs.Ytljnpaikjljmbaa
open Go.RowKit

/-- a description -/
structure DD where
  m : Int
  id : List UInt8
  s : Int
  p : List UInt8
def lt63 (z : Int) : Prop := z < 9223372036854775808
def dcs (d : DD) : List Value := .int .i64 d.m :: (d.id.map bv ++ [.int .i64 d.s, .string (strB d.p)])
def DOK (d : DD) : Prop := d.id.length = 32 ∧ lt63 d.m ∧ lt63 d.s ∧ d.p.length ≤ 549755813888
theorem dcs_length {d : DD} (h : d.id.length = 32) : (dcs d).length = 35 := by simp [dcs, h]
theorem dcs_part (d : DD) : (dcs d).toArray = part [.int .i64 d.m] (d.id.map bv) [.int .i64 d.s, .string (strB d.p)] := by simp [dcs, part]
theorem dcs_0 (d : DD) : (dcs d)[0]? = some (.int .i64 d.m) := rfl
theorem dcs_33 {d : DD} (h : d.id.length = 32) : (dcs d)[33]? = some (.int .i64 d.s) := by simp [dcs, h]
theorem dcs_34 {d : DD} (h : d.id.length = 32) : (dcs d)[34]? = some (.string (strB d.p)) := by simp [dcs, h]
theorem dcs_one (d : DD) : ∀ v ∈ dcs d, v.oneCell' = true := by
  intro v hv
  simp only [dcs, List.mem_cons, List.mem_append, List.mem_map, List.not_mem_nil, or_false] at hv
  rcases hv with rfl | ⟨x, _, rfl⟩ | rfl | rfl <;> rfl
theorem size_desc {d : DD} (h : d.id.length = 32) : (Try.prog.info? 25).map (·.size) = some (dcs d).length := by
  rw [dcs_length h]; kernel_rfl
theorem size_descA {d : DD} (h : d.id.length = 32) : (Try.prog.info? 25).map (·.size) = some (dcs d).toArray.size := by
  rw [List.size_toArray]; exact size_desc h
theorem size_idl {l : List UInt8} (h : l.length = 32) : (Try.prog.info? 23).map (·.size) = some (l.map bv).length := by
  rw [List.length_map, h]; kernel_rfl
/-- n descriptions from A on, below block B -/
def SDs (w : World) (B : Nat) (A : Option Addr) (n : Nat) (ds : List DD) : Prop :=
  ds.length = n ∧ (∀ d ∈ ds, d.id.length = 32) ∧ (0 < n → ∃ b off, A = some ⟨b, off, none⟩ ∧ b < B ∧ ∀ j d, ds[j]? = some d → ∀ i v, (dcs d)[i]? = some v → w.cell? ⟨b, off + j * 35 + i, none⟩ = some v)
section
variable {w w' : World} {B n : Nat} {A : Option Addr} {ds : List DD}
theorem SDs.nil (w : World) (B : Nat) (A : Option Addr) : SDs w B A 0 [] := ⟨rfl, fun d hd => by simp at hd, fun h => absurd h (by omega)⟩
theorem SDs.chg {L : List Nat} (h : SDs w B A n ds) (hc : Chg L w w') (hL : ∀ b ∈ L, B ≤ b) : SDs w' B A n ds :=
  ⟨h.1, h.2.1, fun hn => by
    obtain ⟨b, off, e, hb, hx⟩ := h.2.2 hn
    exact ⟨b, off, e, hb, fun j d hj i v hi => cell_chg (hx j d hj i v hi) hc (fun hm => by have := hL _ hm; simp at this; omega)⟩⟩
theorem SDs.keep (h : SDs w B A n ds) (hb : Below w.heap.size w w') : SDs w' B A n ds := h.chg (L := []) (Chg.of_below hb) (by simp)
theorem SDs.drew (h : SDs w B A n ds) : SDs w.drew B A n ds := h
theorem SDs.more {B' : Nat} (h : SDs w B A n ds) (hB : B ≤ B') : SDs w B' A n ds :=
  ⟨h.1, h.2.1, fun hn => by
    obtain ⟨b, off, e, hb, hx⟩ := h.2.2 hn
    exact ⟨b, off, e, by omega, hx⟩⟩
theorem SDs.at_ (h : SDs w B A n ds) {k : Nat} (hk : k < n) : ∃ b off d, A = some ⟨b, off, none⟩ ∧ b < B ∧ ds[k]? = some d ∧ d ∈ ds ∧ d.id.length = 32 ∧ ∀ i v, (dcs d)[i]? = some v → w.cell? ⟨b, off + k * 35 + i, none⟩ = some v := by
  obtain ⟨b, off, e, hb, hx⟩ := h.2.2 (by omega)
  have hl : k < ds.length := by have := h.1; omega
  exact ⟨b, off, ds[k], e, hb, List.getElem?_eq_getElem hl, List.getElem_mem hl, h.2.1 _ (List.getElem_mem hl), hx k _ (List.getElem?_eq_getElem hl)⟩
end
/-- a manifest -/
structure MM where
  k : Int
  t : List UInt8
  c : DD
  l : List DD
  u : List DD
def mcs (m : MM) (v1 v2 : Value) : List Value := .int .i64 m.k :: .string (strB m.t) :: (dcs m.c ++ [v1, v2])
theorem mcs_length {m : MM} (h : m.c.id.length = 32) (v1 v2 : Value) : (mcs m v1 v2).length = 39 := by simp [mcs, dcs, h]
theorem mcs_part (m : MM) (v1 v2 : Value) : (mcs m v1 v2).toArray = part [.int .i64 m.k, .string (strB m.t)] (dcs m.c) [v1, v2] := by simp [mcs, part]
theorem mcs_0 (m : MM) (v1 v2 : Value) : (mcs m v1 v2)[0]? = some (.int .i64 m.k) := rfl
theorem mcs_1 (m : MM) (v1 v2 : Value) : (mcs m v1 v2)[1]? = some (.string (strB m.t)) := rfl
theorem mcs_36 {m : MM} (h : m.c.id.length = 32) (v1 v2 : Value) : (mcs m v1 v2)[36]? = some (.string (strB m.c.p)) := by simp [mcs, dcs, h]
theorem mcs_37 {m : MM} (h : m.c.id.length = 32) (v1 v2 : Value) : (mcs m v1 v2)[37]? = some v1 := by simp [mcs, dcs, h]
theorem mcs_38 {m : MM} (h : m.c.id.length = 32) (v1 v2 : Value) : (mcs m v1 v2)[38]? = some v2 := by simp [mcs, dcs, h]
theorem size_man {m : MM} (h : m.c.id.length = 32) (v1 v2 : Value) : (Try.prog.info? 28).map (·.size) = some (mcs m v1 v2).toArray.size := by
  rw [List.size_toArray, mcs_length h]; kernel_rfl
/-- a manifest's value and what it leads to, below block B -/
def MIn (w : World) (B : Nat) (m : MM) (v1 v2 : Value) : Prop :=
  m.c.id.length = 32 ∧ ∃ A1 c1 A2 c2, v1 = .slice A1 m.l.length c1 ∧ v2 = .slice A2 m.u.length c2 ∧ SDs w B A1 m.l.length m.l ∧ SDs w B A2 m.u.length m.u ∧ m.l.length ≤ c1 ∧ m.u.length ≤ c2
section
variable {w w' : World} {B : Nat} {m : MM} {v1 v2 : Value}
theorem MIn.chg {L : List Nat} (h : MIn w B m v1 v2) (hc : Chg L w w') (hL : ∀ b ∈ L, B ≤ b) : MIn w' B m v1 v2 := by
  obtain ⟨h0, A1, c1, A2, c2, e1, e2, h1, h2, h3⟩ := h
  exact ⟨h0, A1, c1, A2, c2, e1, e2, h1.chg hc hL, h2.chg hc hL, h3⟩
theorem MIn.keep (h : MIn w B m v1 v2) (hb : Below w.heap.size w w') : MIn w' B m v1 v2 := h.chg (L := []) (Chg.of_below hb) (by simp)
theorem MIn.more {B' : Nat} (h : MIn w B m v1 v2) (hB : B ≤ B') : MIn w B' m v1 v2 := by
  obtain ⟨h0, A1, c1, A2, c2, e1, e2, h1, h2, h3⟩ := h
  exact ⟨h0, A1, c1, A2, c2, e1, e2, h1.more hB, h2.more hB, h3⟩
theorem MIn.drew (h : MIn w B m v1 v2) : MIn w.drew B m v1 v2 := h
end
section
variable {P : Program} {ops : Array Oper} {rest : List Oper} {o : Oper} {a : Act} {w : World} {Q : Exit → Act → World → Prop}
theorem run_load_cells {t : TypeId} {ad : Addr} {cs : List Value} (hc : ∀ (j : Nat) v, cs[j]? = some v → w.cell? (ad.add j) = some v)
    {d : TypeDesc} (hu : P.underlying t = some d) (hd : (match d with | .struct _ => true | .array _ _ => true | _ => false) = true) (hi : (P.info? t).map (·.size) = some cs.length) : (loadVar t ad).run P w = .ok (.agg cs.toArray) w := by
  have hl := run_loadCells_list (P := P) w ad cs hc
  cases hq : P.info? t with
  | none => simp [hq] at hi
  | some i =>
    have hs : i.size = cs.length := by simpa [hq] using hi
    have hagg : (isAgg t).run P w = .ok true w := by
      unfold isAgg
      rw [Sem.run_bind, run_underlying hu w]
      cases d <;> simp_all
    simp [loadVar, Sem.run_bind, hagg, sizeOf, typeInfo, hq, hs, hl]
/-- a load of cells that are known -/
theorem wpList_load_cells (hg : o.guard = none) (t : TypeId) (x : Operand) (ho : o.op = .load t x) (ad : Addr) (hx : a.eval x = .pointer (some ad)) (cs : List Value) (hc : ∀ (j : Nat) v, cs[j]? = some v → w.cell? (ad.add j) = some v)
    {d : TypeDesc} (hu : P.underlying t = some d) (hd : (match d with | .struct _ => true | .array _ _ => true | _ => false) = true) (hi : (P.info? t).map (·.size) = some cs.length)
    (h : wpList P ops Q rest (a.put o.dst (.agg cs.toArray)) w) : wpList P ops Q (o :: rest) a w :=
  wpList_plain hg fun K hK => by
    unfold Oper.wp execOp
    simp only [ho, hx, Instr.loadAt, Instr.sureAddr, Sem.run_bind, Sem.run_pure, Result.andThen_ok, run_load_cells hc hu hd hi]
    exact hK _ _ h
theorem wpList_load_run {P : Program} {ops : Array Oper} {rest : List Oper} {o : Oper} {a : Act} {w : World} {Q : Exit → Act → World → Prop} (hg : o.guard = none) (t : TypeId) (x : Operand) (ho : o.op = .load t x) (ad : Addr) (v : Value) (hx : a.eval x = .pointer (some ad))
    (hr : (loadVar t ad).run P w = .ok v w) (h : wpList P ops Q rest (a.put o.dst v) w) : wpList P ops Q (o :: rest) a w :=
  wpList_plain hg fun K hK => by
    unfold Oper.wp execOp
    simp only [ho, hx, Instr.loadAt, Instr.sureAddr, Sem.run_bind, Sem.run_pure, Result.andThen_ok, hr]
    exact hK _ _ h
theorem does_load_part {T : Value → World → Prop} (t : TypeId) (x : Operand) (ho : o.op = .load t x) (g off : Nat) (hx : a.eval x = .pointer (some ⟨g, off, none⟩)) {t' : TypeId} {pre mid post : List Value} (hb : Blk w g t' (part pre mid post)) (hoff : pre.length = off)
    {d : TypeDesc} (hu : P.underlying t = some d) (hd : (match d with | .struct _ => true | .array _ _ => true | _ => false) = true) (hi : (P.info? t).map (·.size) = some mid.length)
    (h : T (.agg mid.toArray) w) : OpDoes P o a w T := fun K Q hK => by
  unfold Oper.wp execOp
  simp only [ho, hx, Instr.loadAt, Instr.sureAddr, Sem.run_bind, Sem.run_pure, Result.andThen_ok, part_load hb t hoff hu hd hi]
  exact hK _ _ h
theorem does_load {T : Value → World → Prop} (t : TypeId) (x : Operand) (ho : o.op = .load t x) (g : Nat) (hx : a.eval x = .pointer (some ⟨g, 0, none⟩)) (t' : TypeId) {cs : Array Value} (hb : Blk w g t' cs) (d : TypeDesc)
    (hu : P.underlying t = some d) (hd : (match d with | .struct _ | .array _ _ => true | _ => false) = true) (hi : (P.info? t).map (·.size) = some cs.size) (h : T (.agg cs) w) : OpDoes P o a w T :=
  fun _ _ hK => wp_load_row t x ho g hx t' cs (0, 0) d hb hu hd hi (hK _ _ h)
end
def zeroD : DD := ⟨0, zeroB 32, 0, []⟩
def zeroM : MM := ⟨0, [], zeroD, [], []⟩
def zdc : Array Value := (dcs zeroD).toArray
def zmc : Array Value := (mcs zeroM (.slice none 0 0) (.slice none 0 0)).toArray
theorem infoD : (Try.prog.info? 25).map (fun i => (i.zero, i.size)) = some (some (.agg zdc), 35) := by kernel_rfl
theorem infoM : (Try.prog.info? 28).map (fun i => (i.zero, i.size)) = some (some (.agg zmc), 39) := by kernel_rfl
theorem zdc_size : zdc.size = 35 := rfl
theorem zmc_size : zmc.size = 39 := rfl
theorem zeroD_id : zeroD.id.length = 32 := rfl
theorem one_list {l : List Value} (h : ∀ v ∈ l, v.oneCell' = true) : (l.toArray).toList.all (·.oneCell') = true := by rw [List.all_eq_true]; exact h
theorem dcs_oneA (d : DD) : (dcs d).toArray.toList.all (·.oneCell') = true := one_list (dcs_one d)
theorem two_new (w : World) (c0 c1 : Array Value) (t0 t1 : TypeId) : Blk ((w.alloc (.cells c0 t0)).alloc (.cells c1 t1)) w.heap.size t0 c0 ∧ Blk ((w.alloc (.cells c0 t0)).alloc (.cells c1 t1)) (w.heap.size + 1) t1 c1 ∧ Below w.heap.size w ((w.alloc (.cells c0 t0)).alloc (.cells c1 t1)) := by
  have k0 := Blk.new w t0 c0
  have b0 := below_new w (.cells c0 t0)
  have s := size_new w (.cells c0 t0)
  generalize w.alloc (.cells c0 t0) = W at *
  have k1 := Blk.new W t1 c1
  have b1 := below_new W (.cells c1 t1)
  rw [s] at k1
  exact ⟨k0.keep b1, k1, b0.trans (b1.mono b0.size)⟩
theorem run_load_desc {w : World} {b off : Nat} {d : DD} (h32 : d.id.length = 32) (hl : ∀ (i : Nat) v, (dcs d)[i]? = some v → w.cell? ⟨b, off + i, none⟩ = some v) : (loadVar 25 ⟨b, off, none⟩).run Try.prog w = .ok (.agg (dcs d).toArray) w :=
  run_load_cells (fun j v hv => by rw [Addr.add_lit]; exact hl j v hv) Try.underlying25 rfl (size_desc h32)
end Go.Proofs.Ytljnpaikjljmbaa
