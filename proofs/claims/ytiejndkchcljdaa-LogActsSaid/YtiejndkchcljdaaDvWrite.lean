/- Contracts: a sector is written. -/
import Derived.Test.YtiejndkchcljdaaDvNew
import Derived.Test.YtiejndkchcljdaaPhaseT
import Derived.Great.BuildSlice
namespace Go.Proofs.Ytiejndkchcljdaa
open Go.RowKit

def aggD (d : TypeDesc) : Bool := match d with | .struct _ => true | .array _ _ => true | _ => false
theorem run_load_cells {P : Program} {w : World} (t : TypeId) (ad : Addr) (cs : List Value) (hc : ∀ j v, cs[j]? = some v → w.cell? (ad.add j) = some v)
    {d : TypeDesc} (hu : P.underlying t = some d) (hd : aggD d = true) (hi : (P.info? t).map (·.size) = some cs.length) : (loadVar t ad).run P w = .ok (.agg cs.toArray) w := by
  have hl := run_loadCells_list (P := P) w ad cs hc
  cases hq : P.info? t with
  | none => simp [hq] at hi
  | some i =>
    have hs : i.size = cs.length := by simpa [hq] using hi
    have hagg : (isAgg t).run P w = .ok true w := by
      unfold isAgg
      rw [Sem.run_bind, run_underlying hu w]
      cases d <;> simp_all [aggD]
    simp [loadVar, Sem.run_bind, hagg, sizeOf, typeInfo, hq, hs, hl]
theorem underlying_write : ∃ d, Try.prog.underlying 106 = some d ∧ aggD d = true := by
  have h : (Try.prog.underlying 106).map aggD = some true := by kernel_rfl
  obtain ⟨d, h1, h2⟩ := Option.map_eq_some_iff.1 h
  exact ⟨d, h1, h2⟩
theorem underlying_sector : ∃ d, Try.prog.underlying 104 = some d ∧ aggD d = true := by
  have h : (Try.prog.underlying 104).map aggD = some true := by kernel_rfl
  obtain ⟨d, h1, h2⟩ := Option.map_eq_some_iff.1 h
  exact ⟨d, h1, h2⟩
theorem size_write : (Try.prog.info? 106).map (·.size) = some 65 := by kernel_rfl
theorem size_sector : (Try.prog.info? 104).map (·.size) = some 64 := by kernel_rfl
/-- a write's cells, in a block of its own -/
theorem load_write {w : World} {b : Nat} {t : TypeId} {x : Nat × List UInt8} (h : Blk w b t (lcell x).toArray) (h64 : x.2.length = 64) : (loadVar 106 ⟨b, 0, none⟩).run Try.prog w = .ok (.agg (lcell x).toArray) w := by
  obtain ⟨d, h1, h2⟩ := underlying_write
  exact run_load_cells _ _ _ (fun j v hj => by rw [Addr.add_lit, Nat.zero_add]; exact h.cell j (by simpa using hj)) h1 h2 (by rw [lcell_length h64]; exact size_write)
theorem load_sector {w : World} {b : Nat} {t : TypeId} {x : Nat × List UInt8} (h : Blk w b t (lcell x).toArray) (h64 : x.2.length = 64) : (loadVar 104 ⟨b, 1, none⟩).run Try.prog w = .ok (.agg (bcs x.2).toArray) w := by
  obtain ⟨d, h1, h2⟩ := underlying_sector
  exact run_load_cells _ _ _ (fun j v hj => by rw [Addr.add_lit]; exact h.cell _ (by simp [lcell, Nat.add_comm 1 j, hj])) h1 h2 (by rw [bcs_length, h64]; exact size_sector)
/-- a sector is stored -/
theorem store_sector {w : World} {b : Nat} {t : TypeId} {l bs : List UInt8} {n i : Nat} (h : Blk w b t (bcs l).toArray) (hl : l.length = 64 * n) (hi : i < n) (h64 : bs.length = 64) :
    (storeVar 104 ⟨b, i * 64, none⟩ (.agg (bcs bs).toArray)).run Try.prog w = .ok () (w.setRow b (bcs (secPut l i bs)).toArray) := by
  rw [sec_part l i] at h
  rw [put_part]
  exact part_store h _ (by rw [bcs_length, List.length_take]; omega) (by rw [bcs_length, h64]; exact size_sector) (by rw [bcs_length, bcs_length, secAt_length hl hi, h64]) (bcs_oneCell bs)
theorem list_fn {l : List Value} {n : Nat} (h : l.length = n) : l = (List.range n).map fun k => l.getD k undef := by
  refine List.ext_getElem (by simp [h]) fun k h1 h2 => ?_
  simp [List.getD, h1]
/-- a write out of a number and a sector -/
theorem build_write (i : Int) (l : List Value) (h : l.length = 64) (W : World) : (Instr.build 106 #[(0, .int .i64 i), (1, .agg l.toArray)]).run Try.prog W = .ok (.agg (.int .i64 i :: l).toArray) W := by
  rw [list_fn h]
  generalize (fun k => l.getD k undef) = f
  kernel_rfl
/-- a slice of one write -/
theorem slice_write (x : Nat × List UInt8) (h : x.2.length = 64) (W : World) : (Instr.buildSlice 61 1 #[(0, .agg (lcell x).toArray)]).run Try.prog W = .ok (.slice (some ⟨W.heap.size, 0, none⟩) 1 1) (W.alloc (.cells (lcell x).toArray 106)) := by
  have hz : (Try.prog.info? 106).map (fun i => (i.zero, i.size, i.bytes)) = some (some (.agg ((Value.int .i64 0) :: List.replicate 64 (.int .u8 0)).toArray), 65, 72) := by kernel_rfl
  obtain ⟨i, hi, hz, hs, hb⟩ := info_parts hz
  have hl := lcell_length h
  refine run_buildSlice (P := Try.prog) W _ _ 1 _ _ i _ (by kernel_rfl) hi hz (by rw [hs]; omega) (by rw [hs]; omega) ?_
  rw [hs]
  have := Great.fill_whole (s := 65) (by omega) [.agg (lcell x).toArray] ((Array.range (1 * 65)).map ((Value.agg ((Value.int .i64 0) :: List.replicate 64 (.int .u8 0)).toArray).cells[· % (Value.agg ((Value.int .i64 0) :: List.replicate 64 (.int .u8 0)).toArray).cells.size]!)) (by simp [Value.cells, hl]) (by simp)
  simpa [Value.cells] using this
/-- a store that is one run -/
theorem wpList_store_run {P : Program} {ops : Array Oper} {rest : List Oper} {o : Oper} {a : Act} {w w' : World} {Q : Exit → Act → World → Prop} (hg : o.guard = none) (t : TypeId) (x y : Operand) (ho : o.op = .store t x y) (ad : Addr) (v : Value) (hx : a.eval x = .pointer (some ad)) (hy : a.eval y = v)
    (hr : (storeVar t ad v).run P w = .ok () w') (h : wpList P ops Q rest (a.put o.dst undef) w') : wpList P ops Q (o :: rest) a w :=
  wpList_plain hg fun K hK => by
    unfold Oper.wp execOp
    simp only [ho, hx, hy, Instr.storeAt, Instr.sureAddr, Sem.run_bind, Sem.run_pure, Result.andThen_ok, hr]
    exact hK _ _ h
theorem wpList_load_run {P : Program} {ops : Array Oper} {rest : List Oper} {o : Oper} {a : Act} {w : World} {Q : Exit → Act → World → Prop} (hg : o.guard = none) (t : TypeId) (x : Operand) (ho : o.op = .load t x) (ad : Addr) (v : Value) (hx : a.eval x = .pointer (some ad))
    (hr : (loadVar t ad).run P w = .ok v w) (h : wpList P ops Q rest (a.put o.dst v) w) : wpList P ops Q (o :: rest) a w :=
  wpList_plain hg fun K hK => by
    unfold Oper.wp execOp
    simp only [ho, hx, Instr.loadAt, Instr.sureAddr, Sem.run_bind, Sem.run_pure, Result.andThen_ok, hr]
    exact hK _ _ h
/-- what a written device is -/
def putS (s : DS) (i : Nat) (bs : List UInt8) : DS := { s with now := secPut s.now i bs, loose := s.loose ++ [(i, bs)] }
section
variable {w w' : World} {base g a m c : Nat} {A : Option Addr} {q : Option Nat} {s : DS}
theorem DevIn.setNow (h : DevIn w base g a m A c q s) (l : List UInt8) : DevIn (w.setRow a (bcs l).toArray) base g a m A c q { s with now := l } := by
  have hc : Chg [a] w (w.setRow a (bcs l).toArray) := chg_setRow (L := [a]) (by simp) _
  exact { hd := h.hd.chg hc (by simpa using h.ga), now := h.now.setRow _, img := h.img.chg hc (by simpa using h.am.symm), row := ownsRow_chg h.row hc (fun b hb => by simpa using (h.rs b (by rwa [own_row] at hb)).2.1),
          fz := h.fz.chg hc (fun f hf => by simpa using (h.qs f hf).2.1), ga := h.ga, gm := h.gm, am := h.am, rs := h.rs, qs := fun f hf => by simpa using h.qs f hf, hg := h.hg, ha := h.ha, hm := h.hm }
theorem DevIn.setImg (h : DevIn w base g a m A c q s) (l : List UInt8) : DevIn (w.setRow m (bcs l).toArray) base g a m A c q { s with img := l } := by
  have hc : Chg [m] w (w.setRow m (bcs l).toArray) := chg_setRow (L := [m]) (by simp) _
  exact { hd := h.hd.chg hc (by simpa using h.gm), now := h.now.chg hc (by simpa using h.am), img := h.img.setRow _, row := ownsRow_chg h.row hc (fun b hb => by simpa using (h.rs b (by rwa [own_row] at hb)).2.2.1),
          fz := h.fz.chg hc (fun f hf => by simpa using (h.qs f hf).2.2.1), ga := h.ga, gm := h.gm, am := h.am, rs := h.rs, qs := fun f hf => by simpa using h.qs f hf, hg := h.hg, ha := h.ha, hm := h.hm }
/-- one loose write more -/
theorem DevIn.pushed {g' cap : Nat} {x : Nat × List UInt8} (h : DevIn w base g a m A c q s) (hk : w.grownBy w' (rowOf A)) (ho : w'.ownsRow base 106 65 (.slice (some ⟨g', 0, none⟩) (s.loose.length + 1) cap) (s.loose.length + 1) (lcells s.loose ++ lcell x)) (hg' : rowOf A = some g' ∨ w.heap.size ≤ g') :
    DevIn (w'.setCell ⟨g, 3, none⟩ (.slice (some ⟨g', 0, none⟩) (s.loose.length + 1) cap)) base g a m (some ⟨g', 0, none⟩) cap q { s with loose := s.loose ++ [x] } := by
  have hlt := h.lt
  have l1 := (hlt g (.inl rfl)).2
  have l2 := (hlt a (.inr (.inl rfl))).2
  have l3 := (hlt m (.inr (.inr (.inl rfl)))).2
  have hne : g' ≠ g ∧ g' ≠ a ∧ g' ≠ m ∧ q ≠ some g' := by
    rcases hg' with hr | hr
    · exact h.rs g' hr
    · refine ⟨by omega, by omega, by omega, fun e => ?_⟩
      have := (hlt g' (.inr (.inr (.inr (.inr e))))).2
      omega
  have hc : Chg [g] w' (w'.setCell ⟨g, 3, none⟩ (.slice (some ⟨g', 0, none⟩) (s.loose.length + 1) cap)) := chg_set (L := [g]) (by simp) 3 _
  have hkc : Chg (rowOf A).toList w w' := Chg.of_grown hk (fun b hb => by rw [hb]; simp)
  have hn : ∀ b, rowOf A ≠ some b → b ∉ (rowOf A).toList := fun b hb hm => hb (by simpa using hm)
  refine { hd := ?_, now := (h.now.chg hkc (hn a (fun e => (h.rs a e).2.1 rfl))).chg hc (by simpa using h.ga.symm), img := (h.img.chg hkc (hn m (fun e => (h.rs m e).2.2.1 rfl))).chg hc (by simpa using h.gm.symm), row := ?_,
           fz := (h.fz.chg hkc (fun f hf => hn f (fun e => (h.rs f e).2.2.2 hf))).chg hc (fun f hf => by simpa using (h.qs f hf).1), ga := h.ga, gm := h.gm, am := h.am, rs := fun b hb => by cases hb; exact hne,
           qs := fun f hf => ⟨(h.qs f hf).1, (h.qs f hf).2.1, (h.qs f hf).2.2.1, (h.qs f hf).2.2.2.1, Nat.lt_of_lt_of_le (h.qs f hf).2.2.2.2 (by simpa using hk.size)⟩, hg := h.hg, ha := h.ha, hm := h.hm }
  · have := (h.hd.grown hk (fun e => (h.rs g e).1 rfl)).set_ 3 (.slice (some ⟨g', 0, none⟩) (s.loose.length + 1) cap)
    simpa using this
  · have := ownsRow_chg ho hc (fun b hb => by
      have e : b = g' := by simpa [Value.ownBlock, eq_comm] using hb
      subst e; simpa using hne.1)
    rw [lcells_snoc]
    simpa using this
end
end Go.Proofs.Ytiejndkchcljdaa
/- Contract: a disk's write. -/
namespace Go.Proofs.Ytiejndkchcljdaa
open Go.RowKit

/-- makes memory, or appends -/
def grows (o : Oper) : Bool := match o.op with
  | .buildSlice _ _ _ => true
  | _ => goCall o
attribute [local go_sem] steady
attribute [local irreducible] wpPhase
section
variable (base g a m c : Nat) (A : Option Addr) (q : Option Nat) (s : DS) (w : World)
set_option maxHeartbeats 2000000 in
theorem dwrite_calls (i : Nat) (bs : List UInt8) (h : DevIn w base g a m A c q s) (hok : s.OK) (hi : i < s.n) (h64 : bs.length = 64) (hlo : s.loose.length ≤ 1000000) (hbase : base ≤ w.heap.size) :
    Calls Try.prog 63 #[.pointer (some ⟨g, 1, none⟩), .agg (lcell (i, bs)).toArray] w (InPost w base g a m A q (putS s i bs) (.tuple #[])) := by
  have b1 := below_new w (.cells (lcell (i, bs)).toArray 106)
  have k1 := Blk.new w 106 (lcell (i, bs)).toArray
  have HLT := hid h.lt
  have h1 := h.keep b1
  have hnb := hok.nb
  have HOK := hid hok
  have HI := hid hi; have H64 := hid h64; have HLO := hid hlo; have HB := hid hbase
  clear h hok hlo hbase h64
  go_enter Try.func63, Try.ntmps63
  go_wp2_with (refine wpList_box_blk rfl 106 _ rfl (lcell (i, bs)).toArray rfl ?_)
  generalize w.alloc (.cells (lcell (i, bs)).toArray 106) = w1 at b1 k1 h1 ⊢
  have ld1 := fun W (hW : Blk W w.heap.size 106 (lcell (i, bs)).toArray) => load_sector hW H64.out
  have B1 := hid b1; have K1 := hid k1; have H1 := hid h1; have LD1 := hid ld1
  clear b1 k1 h1 ld1 hi
  go_wp2_with fail
  refine wp_region_phaseT (fun _ => false) 8 (fun _ w' => w' = w1.drew) (fun w' => DevIn w' base g a m A c q s ∧ Blk w' w.heap.size 106 (lcell (i, bs)).toArray) (fun _ w' h => h ▸ ⟨H1.out.drew, K1.out.drew⟩) (by kernel_rfl) (by kernel_rfl) (by kernel_rfl) rfl ?_
  intro S _ at_ hS
  have c1 := fun x => (hS x).1.hd.cell 1 rfl
  have c0 := fun x => (hS x).2.cell 0 (v := .int .i64 (i : Int)) (by simp [lcell])
  have HS := hid hS
  clear hS
  simp only [List.take_succ_cons, List.take_zero]
  (refine phase_plain rfl (fun K hK => ?_); go_simp; refine hK _ ?_; clear hK K)
  (refine phase_plain rfl (fun K hK => ?_); go_simp; refine hK _ ?_; clear hK K)
  (refine phase_plain rfl (fun K hK => ?_); go_simp; refine hK _ ?_; clear hK K)
  (refine phase_plain rfl (fun K hK => ?_); go_simp; refine hK _ ?_; clear hK K)
  (refine phase_plain rfl (fun K hK => ?_); go_simp; refine hK _ ?_; clear hK K)
  (refine phase_plain rfl (fun K hK => ?_); go_simp; refine hK _ ?_; clear hK K)
  (refine phase_plain rfl (fun K hK => ?_); go_simp; refine hK _ ?_; clear hK K)
  refine phase_load_run rfl rfl 104 _ rfl ⟨w.heap.size, 1, none⟩ rfl (.agg (bcs bs).toArray) (by rintro w' ⟨x, rfl⟩; exact LD1.out _ (HS.out x).2) ?_
  refine phase_nil ?_
  rintro _ rfl
  have hi := HI.out
  have hst := store_sector (H1.out.drew).now HOK.out.n1 HI.out H64.out
  have Hst := hid hst
  clear c0 c1 HS hst
  simp only [List.drop_succ_cons, List.drop_zero]
  go_wp2_with (refine wpList_store_run rfl 104 _ _ rfl ⟨a, i * 64, none⟩ (.agg (bcs bs).toArray) rfl rfl Hst.out ?_)
  have h2 := H1.out.drew.setNow (secPut s.now i bs)
  have hc2 := chg_setRow (w := w1.drew) (d := a) (L := fpL g a m A q) (by simp [fpL]) (bcs (secPut s.now i bs)).toArray
  have k2 := K1.out.drew.chg (chg_setRow (w := w1.drew) (d := a) (L := [a]) (by simp) (bcs (secPut s.now i bs)).toArray) (by have := (HLT.out a (.inr (.inl rfl))).2; simp; omega)
  have C2 := hid ((Chg.of_below (L := fpL g a m A q) B1.out).trans hc2.from_drew (fun b hb => .inl hb))
  generalize w1.drew.setRow a (bcs (secPut s.now i bs)).toArray = w2 at h2 hc2 k2 C2 ⊢
  have H2 := hid h2; have K2 := hid k2
  clear h2 hc2 k2 Hst hi H1 K1 B1 LD1
  go_wp2_with fail
  -- the append, reckoned ahead
  have hwa := H2.out.drew
  have hbs := below_new w2.drew (.cells (lcell (i, bs)).toArray 106)
  have hkb := Blk.new w2.drew 106 (lcell (i, bs)).toArray
  have hsz := size_new w2.drew (.cells (lcell (i, bs)).toArray 106)
  have hsw := slice_write (i, bs) H64.out w2.drew
  have HZ := hid (info_parts (P := Try.prog) (e := 106) (z := .agg ((Value.int .i64 0) :: List.replicate 64 (.int .u8 0)).toArray) (size := 65) (bytes := 72) (by kernel_rfl))
  obtain ⟨ti, hti, htz, hts, htb⟩ := HZ.out
  have hrow := ownsRow_chg hwa.row (Chg.of_below (L := []) hbs) (by simp)
  have hbase2 : base ≤ (w2.drew.alloc (.cells (lcell (i, bs)).toArray 106)).heap.size := Nat.le_trans HB.out (Nat.le_trans C2.out.size hbs.size)
  obtain ⟨g', cap, wc, hr, ho, hgr, hg', hlt'⟩ := run_append_lies (P := Try.prog) (w2.drew.alloc (.cells (lcell (i, bs)).toArray 106)) 61 61 base 106 ti _ 65 72 (by kernel_rfl) hti htz hts htb (by simp [Value.cells]) (by omega)
    (.slice A s.loose.length c) s.loose.length (lcells s.loose) hrow ⟨w2.drew.heap.size, 0, none⟩ 1 1 (lcell (i, bs)) (by rw [lcell_length H64.out]) (fun j u hj => by rw [Addr.add_lit, Nat.zero_add]; exact hkb.cell j (by simpa using hj)) (fun u hu => by
      simp only [lcell, List.mem_cons] at hu
      rcases hu with rfl | hu
      · rfl
      · exact bcs_oneCell _ u hu) (by omega) (by have := HLO.out; simp [maxLen]; omega) (by have := HLO.out; omega) hbase2 _ rfl
  rw [own_row] at hgr hg'
  have hall : w2.grownBy wc (rowOf A) := ⟨hgr.os.trans hbs.os, hgr.tape.trans hbs.tape, hgr.output.trans hbs.output, Nat.le_trans hbs.size hgr.size, fun k hk hn => (hgr.block k (Nat.lt_of_lt_of_le hk hbs.size) hn).trans (hbs.block k hk)⟩
  have hpush := H2.out.pushed hall ho (hg'.imp id (fun e => by rw [e, hsz]; exact Nat.le_succ _))
  have cc3 : wc.cell? ⟨g, 3, none⟩ = some (.slice A s.loose.length c) := (H2.out.hd.grown hall (fun e => (H2.out.rs g e).1 rfl)).cell 3 rfl
  have kc : Blk wc w.heap.size 106 (lcell (i, bs)).toArray := K2.out.grown hall (fun e => by have := (HLT.out _ (.inr (.inr (.inr (.inl e))))).2; omega)
  have HK := hid (show InPost w base g a m A q (putS s i bs) (.tuple #[]) (.returned (.tuple #[])) (wc.setCell ⟨g, 3, none⟩ (.slice (some ⟨g', 0, none⟩) (s.loose.length + 1) cap)) from
    ⟨rfl, _, _, _, hpush, C2.out.trans ((Chg.of_grown (L := fpL g a m A q) hall (fun b hb => by rw [mem_fpL]; exact .inr (.inr (.inr (.inl hb))))).trans (chg_set (by simp [fpL]) 3 _) (fun b hb => .inl hb)) (fun b hb => .inl hb), hg'.elim (fun e => .inl (by rw [e]; rfl)) (fun e => .inr (fun f hf => by cases hf; have := C2.out.size; rw [e, hsz]; exact Nat.le_succ_of_le this)), .inl rfl⟩)
  have ff3 := (H2.out.hd.grown hall (fun e => (H2.out.rs g e).1 rfl)).frozen 3
  have HW := hid (show ∀ k w', w' = (if k = 0 then w2.drew else if k = 1 then w2.drew.alloc (.cells (lcell (i, bs)).toArray 106) else wc) → w'.cell? ⟨g, 3, none⟩ = some (.slice A s.loose.length c) ∧ Blk w' w.heap.size 106 (lcell (i, bs)).toArray from by
    rintro k _ rfl
    split
    · exact ⟨hwa.hd.cell 3 rfl, K2.out.drew⟩
    · split
      · exact ⟨(hwa.hd.keep hbs).cell 3 rfl, K2.out.drew.keep hbs⟩
      · exact ⟨cc3, kc⟩)
  have HR := hid hr; have HSW := hid hsw; have C3 := hid cc3; have F3 := hid ff3
  have LD2 := hid (fun W (hW : Blk W w.heap.size 106 (lcell (i, bs)).toArray) => load_write hW H64.out)
  clear hwa hbs hkb hsz hsw hti htz hts htb HZ hrow hbase2 hr ho hgr hg' hlt' hall hpush cc3 kc ff3 H2 K2
  refine wp_region_phaseT grows 8 (fun k w' => w' = (if k = 0 then w2.drew else if k = 1 then w2.drew.alloc (.cells (lcell (i, bs)).toArray 106) else wc)) (fun w' => w'.cell? ⟨g, 3, none⟩ = some (.slice A s.loose.length c) ∧ Blk w' w.heap.size 106 (lcell (i, bs)).toArray) HW.out (by kernel_rfl) (by kernel_rfl) (by kernel_rfl) rfl ?_
  intro S _ at_ hS
  have c3 := fun x => (hS x).1
  have HS := hid hS
  clear hS
  simp only [List.take_succ_cons, List.take_zero]
  (refine phase_plain rfl (fun K hK => ?_); go_simp; refine hK _ ?_; clear hK K)
  (refine phase_plain rfl (fun K hK => ?_); go_simp; refine hK _ ?_; clear hK K)
  (refine phase_plain rfl (fun K hK => ?_); go_simp; refine hK _ ?_; clear hK K)
  (refine phase_plain rfl (fun K hK => ?_); go_simp; refine hK _ ?_; clear hK K)
  (refine phase_plain rfl (fun K hK => ?_); go_simp; refine hK _ ?_; clear hK K)
  refine phase_load_run rfl rfl 106 _ rfl ⟨w.heap.size, 0, none⟩ rfl (.agg (lcell (i, bs)).toArray) (by rintro w' ⟨x, rfl⟩; exact LD2.out _ (HS.out x).2) ?_
  refine phase_slice rfl rfl 61 1 0 _ rfl (.agg (lcell (i, bs)).toArray) (.slice (some ⟨w2.drew.heap.size, 0, none⟩) 1 1) rfl (by rintro _ rfl; exact ⟨_, HSW.out, rfl⟩) ?_
  refine phase_append rfl rfl _ _ 61 61 rfl (.slice A s.loose.length c) (.slice (some ⟨w2.drew.heap.size, 0, none⟩) 1 1) (.slice (some ⟨g', 0, none⟩) (s.loose.length + 1) cap) rfl rfl (by rintro _ rfl; exact ⟨_, HR.out, rfl⟩) ?_
  refine phase_nil ?_
  rintro w3 h3
  obtain rfl : w3 = wc := h3
  have c3 := C3.out
  have f3 := F3.out
  clear HS
  simp only [List.drop_succ_cons, List.drop_zero]
  go_wp2_with fail
  go_end0
  exact HK.out
end
end Go.Proofs.Ytiejndkchcljdaa
