/- Contract: a description that is read. -/
import Derived.Test.YtljnpaikjljmbaaMdSrc
namespace Go.Proofs.Ytljnpaikjljmbaa
open Go.RowKit

theorem wpList_build1 {P : Program} {ops : Array Oper} {rest : List Oper} {o : Oper} {a : Act} {w : World} {Q : Exit → Act → World → Prop} (hgd : o.guard = none) (t : TypeId) (k : Nat) (x : Operand) (ho : o.op = .build t #[(k, x)]) (u v : Value) (hx : a.eval x = u)
    (hr : ∀ W, (Instr.build t #[(k, u)]).run P W = .ok v W) (h : wpList P ops Q rest (a.put o.dst v) w) : wpList P ops Q (o :: rest) a w := by
  refine wpList_plain hgd fun K hK => ?_
  unfold Oper.wp execOp
  simp only [ho, List.map_toArray, List.map_cons, List.map_nil, hx, Sem.run_bind, Sem.run_pure, Result.andThen_ok, hr]
  exact hK _ _ h
theorem idS_length (bs : List UInt8) (s : RS) : (idS bs s).1.length = 32 := by
  cases s with
  | ok a => exact fill32_length _
  | bad e p => rfl
theorem dcs_set33 {d : DD} (h : d.id.length = 32) (z : Int) : (dcs d).toArray.setIfInBounds 33 (.int .i64 z) = (dcs { d with s := z }).toArray := by
  have e : dcs d = (.int .i64 d.m :: d.id.map bv) ++ [.int .i64 d.s, .string (strB d.p)] := rfl
  rw [List.setIfInBounds_toArray, e, List.set_append_right _ _ (by simp [h])]
  simp [dcs, h]
theorem dcs_set34 {d : DD} (h : d.id.length = 32) (x : List UInt8) : (dcs d).toArray.setIfInBounds 34 (.string (strB x)) = (dcs { d with p := x }).toArray := by
  have e : dcs d = (.int .i64 d.m :: d.id.map bv) ++ [.int .i64 d.s, .string (strB d.p)] := rfl
  rw [List.setIfInBounds_toArray, e, List.set_append_right _ _ (by simp [h])]
  simp [dcs, h]
theorem run_build_desc (n : Int) (W : World) : (Instr.build 25 #[(0, .int .i64 n)]).run Try.prog W = .ok (.agg (dcs ⟨n, zeroB 32, 0, []⟩).toArray) W := by kernel_rfl
/-- a source, a result's block R and a variable's block D, both new -/
structure Mid2 (w0 W : World) (base q g f : Nat) (r : Option Nat) (bs : List UInt8) (s : RS) (rf : Nat × Nat) (R D : Nat) (tR tD : TypeId) (cR cD : Array Value) : Prop where
  src : SrcB W base q g f r bs s rf
  chg : Chg [q, g, f] w0 W
  lt : ∀ b ∈ q :: fpw g f r, b < w0.heap.size
  hR : w0.heap.size ≤ R
  bR : Blk W R tR cR
  hD : w0.heap.size ≤ D
  bD : Blk W D tD cD
  ne : R ≠ D
section
variable {w0 W W' : World} {base q g f : Nat} {r : Option Nat} {bs : List UInt8} {s s' : RS} {rf rf' : Nat × Nat} {R D : Nat} {tR tD : TypeId} {cR cD cD' : Array Value}
theorem src_new {b : Nat} (lt : ∀ b ∈ q :: fpw g f r, b < w0.heap.size) (hb : w0.heap.size ≤ b) : b ∉ [q, g, f] := fun hm => by
  have h1 := lt q (List.mem_cons_self ..)
  have h2 := lt g (List.mem_cons_of_mem _ (by rw [mem_fpw]; exact .inr (.inl rfl)))
  have h3 := lt f (List.mem_cons_of_mem _ (by rw [mem_fpw]; exact .inl rfl))
  simp at hm; omega
theorem Mid2.call (h : Mid2 w0 W base q g f r bs s rf R D tR tD cR cD) (hp : SrcP W base q g f r bs s' rf' W') : Mid2 w0 W' base q g f r bs s' rf' R D tR tD cR cD :=
  ⟨hp.1, h.chg.trans hp.2 (fun _ hb => .inl hb), h.lt, h.hR, h.bR.chg hp.2 (src_new h.lt h.hR), h.hD, h.bD.chg hp.2 (src_new h.lt h.hD), h.ne⟩
theorem Mid2.upd (h : Mid2 w0 W base q g f r bs s rf R D tR tD cR cD) (hc : Chg [D] W W') (hb : Blk W' D tD cD') : Mid2 w0 W' base q g f r bs s rf R D tR tD cR cD' :=
  ⟨h.src.chg hc (fun b hb hm => by have := h.lt b hb; have := h.hD; simp at hm; omega), h.chg.trans hc (fun b hb => .inr (by have := h.hD; simp at hb; omega)), h.lt, h.hR, h.bR.chg hc (by simpa using h.ne), h.hD, hb, h.ne⟩
theorem Mid2.keep (h : Mid2 w0 W base q g f r bs s rf R D tR tD cR cD) (hb : Below W.heap.size W W') : Mid2 w0 W' base q g f r bs s rf R D tR tD cR cD :=
  ⟨h.src.keep hb, h.chg.trans (Chg.of_below (L := []) hb) (fun _ hb => by cases hb), h.lt, h.hR, h.bR.keep hb, h.hD, h.bD.keep hb, h.ne⟩
/-- the result is written -/
theorem Mid2.fin (h : Mid2 w0 W base q g f r bs s rf R D tR tD cR cD) (hc : Chg [R] W W') : SrcP w0 base q g f r bs s rf W' :=
  ⟨h.src.chg hc (fun b hb hm => by have := h.lt b hb; have := h.hR; simp at hm; omega), h.chg.trans hc (fun b hb => .inr (by have := h.hR; simp at hb; omega))⟩
theorem chg_row (W : World) (D : Nat) (cs : Array Value) : Chg [D] W (W.setRow D cs) := Chg.of_grown (grown_setRow W D cs) (fun g e => by cases e; simp)
end
def dscR (bs : List UInt8) (s : RS) : DD × RS :=
  (⟨((numS bs maxI 0 s).1 : Int), (idS bs (numS bs maxI 0 s).2).1, ((numS bs maxI 0 (idS bs (numS bs maxI 0 s).2).2).1 : Int), (sizedS bs 4096 (numS bs maxI 0 (idS bs (numS bs maxI 0 s).2).2).2).1⟩, (sizedS bs 4096 (numS bs maxI 0 (idS bs (numS bs maxI 0 s).2).2).2).2)
set_option maxRecDepth 20000 in
set_option maxHeartbeats 2000000 in
theorem src_desc (base q g f : Nat) (r : Option Nat) (bs : List UInt8) (s : RS) (rf : Nat × Nat) (w : World) (h : SrcB w base q g f r bs s rf) :
    Calls Try.prog 69 #[.pointer (some ⟨q, 0, none⟩)] w fun e w' => e = .returned (.agg (dcs (dscR bs s).1).toArray) ∧ SrcP w base q g f r bs (dscR bs s).2 rf w' := by
  have hR : dscR bs s = (⟨((numS bs maxI 0 s).1 : Int), (idS bs (numS bs maxI 0 s).2).1, ((numS bs maxI 0 (idS bs (numS bs maxI 0 s).2).2).1 : Int), (sizedS bs 4096 (numS bs maxI 0 (idS bs (numS bs maxI 0 s).2).2).2).1⟩, (sizedS bs 4096 (numS bs maxI 0 (idS bs (numS bs maxI 0 s).2).2).2).2) := rfl
  generalize dscR bs s = DR at hR ⊢
  have h32 := idS_length bs (numS bs maxI 0 s).2
  have HN1 := hid (fun W (h : SrcB W base q g f r bs s rf) => rNum_calls base g f r bs s W h.rd)
  have HN2 := hid (fun W (h : SrcB W base q g f r bs (numS bs maxI 0 s).2 rf) => rID_calls base g f r bs _ W h.rd)
  have HN3 := hid (fun W (h : SrcB W base q g f r bs (idS bs (numS bs maxI 0 s).2).2 rf) => rNum_calls base g f r bs _ W h.rd)
  have HN4 := hid (fun W (h : SrcB W base q g f r bs (numS bs maxI 0 (idS bs (numS bs maxI 0 s).2).2).2 rf) => src_text base q g f r bs _ rf W h)
  generalize sizedS bs 4096 (numS bs maxI 0 (idS bs (numS bs maxI 0 s).2).2).2 = q4 at HN4 hR
  generalize numS bs maxI 0 (idS bs (numS bs maxI 0 s).2).2 = q3 at HN3 HN4 hR
  generalize idS bs (numS bs maxI 0 s).2 = q2 at HN2 HN3 hR h32
  generalize numS bs maxI 0 s = q1 at HN1 HN2 hR
  have HR := hid hR
  have H32 := hid h32
  have b1 := below_new w (.cells zdc 25)
  have k1 := Blk.new w 25 zdc
  have hz1 := size_new w (.cells zdc 25)
  have hz := (zero_of_info infoD).1
  have HLT := hid h.lt
  have H1 := hid (h.keep b1)
  have HSZ : Hid (zdc.size = (dcs ⟨(q1.1 : Int), zeroB 32, 0, []⟩).toArray.size) := by rw [Hid, zdc_size, List.size_toArray, dcs_length rfl]
  have HSA : Hid ((Try.prog.info? 25).map (·.size) = some (dcs ⟨(q1.1 : Int), zeroB 32, 0, []⟩).toArray.size) := size_descA rfl
  have HOA := hid (dcs_oneA ⟨(q1.1 : Int), zeroB 32, 0, []⟩)
  have HBT := hid (fun W => run_build_desc (q1.1 : Int) W)
  have HSZD := hid (show zdc.size = 35 from rfl)
  generalize zdc = zd at b1 k1 hz1 hz H1 HSZ HSZD
  clear h hR h32
  go_enter Try.func69, Try.ntmps69
  have c0 := H1.out.blk.cell 0 rfl
  go_wp2_with fail
  generalize hR0 : w.heap.size = R at k1 ⊢
  generalize w.alloc (.cells zd 25) = w1 at b1 k1 hz1 H1 c0 ⊢
  have HR0 := hid hR0
  have B1 := hid b1; have K1 := hid k1
  clear b1 k1 hR0
  refine (HN1.out w1 H1.out).mono ?_
  rintro _ w2 ⟨rfl, hp⟩
  have hp2 := H1.out.read hp
  have hsz2 := hp2.2.size
  have K2 := hid (K1.out.chg hp2.2 (src_new (w0 := w) HLT.out (by have := HR0.out; omega)))
  have C2 := hid ((Chg.of_below (L := [q, g, f]) B1.out).trans hp2.2 (fun _ hb => .inl hb))
  have H2 := hid hp2.1
  have KZ := hid (Blk.new w2 25 zd)
  have HNS := hid (new_set w2 25 zd (dcs ⟨(q1.1 : Int), zeroB 32, 0, []⟩).toArray)
  clear hp hp2 HN1 c0
  go_wp2_with (first | (refine wpList_build1 rfl 25 0 _ rfl (.int .i64 (q1.1 : Int)) _ rfl HBT.out ?_) | ((refine wpList_store_blk rfl 25 _ _ rfl w2.heap.size _ rfl rfl 25 _ KZ.out HSA.out HSZ.out HOA.out ?_); refine Held.go ?_))
  obtain ⟨b3, k3⟩ := HNS.out
  generalize (w2.alloc (.cells zd 25)).setRow w2.heap.size (dcs ⟨(q1.1 : Int), zeroB 32, 0, []⟩).toArray = w3 at b3 k3 ⊢
  have hRD : R ≠ w2.heap.size := by have := HR0.out; have := B1.out.size; omega
  have hRw : w.heap.size ≤ R := by have := HR0.out; omega
  have hDw : w.heap.size ≤ w2.heap.size := by have := B1.out.size; omega
  generalize w2.heap.size = D at k3 hRD hDw ⊢
  have HM3 := hid (show Mid2 w w3 base q g f r bs q1.2 rf R D 25 25 zd (dcs ⟨(q1.1 : Int), zeroB 32, 0, []⟩).toArray from
    ⟨H2.out.keep b3, C2.out.trans (Chg.of_below (L := []) b3) (fun _ hb => by cases hb), HLT.out, hRw, K2.out.keep b3, hDw, k3, hRD⟩)
  clear b3 k3 HNS KZ K2 C2 H2 HSA HOA HBT HSZ K1 B1 H1 hz hRD hRw hDw
  unfold Held
  have c0 := HM3.out.src.blk.cell 0 rfl
  go_wp2_with fail
  refine (HN2.out w3 HM3.out.src).mono ?_
  rintro _ w4 ⟨rfl, hp⟩
  have HM4 := hid (HM3.out.call (HM3.out.src.read hp))
  have KP := hid (show Blk w4 D 25 (part [.int .i64 (q1.1 : Int)] ((zeroB 32).map bv) [.int .i64 0, .string (strB [])]) from by have := HM4.out.bD; rw [dcs_part] at this; exact this)
  have HSI := hid (size_idl H32.out)
  have HL := hid (show (q2.1.map bv).length = ((zeroB 32).map bv).length from by rw [List.length_map, H32.out]; rfl)
  clear hp HN2 c0 HM3
  go_wp2_with ((refine wpList_store_part rfl 23 _ _ rfl D 1 (q2.1.map bv) rfl rfl KP.out rfl HSI.out HL.out (oneCell_bytes _) ?_); refine Held.go ?_)
  have HM5 := hid (show Mid2 w (w4.setRow D (part [.int .i64 (q1.1 : Int)] (q2.1.map bv) [.int .i64 0, .string (strB [])])) base q g f r bs q2.2 rf R D 25 25 zd (dcs ⟨(q1.1 : Int), q2.1, 0, []⟩).toArray from
    HM4.out.upd (chg_row _ _ _) (by have := HM4.out.bD.setRow (part [.int .i64 (q1.1 : Int)] (q2.1.map bv) [.int .i64 0, .string (strB [])]); rw [dcs_part]; exact this))
  generalize w4.setRow D (part [.int .i64 (q1.1 : Int)] (q2.1.map bv) [.int .i64 0, .string (strB [])]) = w5 at HM5 ⊢
  clear KP HSI HL HM4
  unfold Held
  have c0 := HM5.out.src.blk.cell 0 rfl
  go_wp2_with fail
  refine (HN3.out w5 HM5.out.src).mono ?_
  rintro _ w6 ⟨rfl, hp⟩
  have HM6 := hid (HM5.out.call (HM5.out.src.read hp))
  have d33 := HM6.out.bD.cell 33 (by rw [List.getElem?_toArray]; exact dcs_33 H32.out)
  have f33 := HM6.out.bD.frozen 33
  have HM7 := hid (show Mid2 w (w6.setCell ⟨D, 33, none⟩ (.int .i64 (q3.1 : Int))) base q g f r bs q3.2 rf R D 25 25 zd (dcs ⟨(q1.1 : Int), q2.1, (q3.1 : Int), []⟩).toArray from
    HM6.out.upd (chg_set (L := [D]) (by simp) 33 _) (by have := HM6.out.bD.set_ 33 (.int .i64 (q3.1 : Int)); rw [dcs_set33 H32.out] at this; exact this))
  clear hp HN3 c0 HM5
  have HRZ := hid (show ∃ z3 : Int, (q3.1 : Int) = z3 from ⟨_, rfl⟩)
  generalize (q3.1 : Int) = z3 at HM7 HR ⊢
  clear HRZ
  have HSAF : Hid ((Try.prog.info? 25).map (·.size) = some (dcs ⟨(q1.1 : Int), q2.1, z3, q4.1⟩).toArray.size) := size_descA H32.out
  go_wp2_with fail
  generalize w6.setCell ⟨D, 33, none⟩ (.int .i64 z3) = w7 at HM7 ⊢
  clear d33 f33 HM6
  refine (HN4.out w7 HM7.out.src).mono ?_
  rintro _ w8 ⟨rfl, hp⟩
  have HM8 := hid (HM7.out.call hp)
  have d34 := HM8.out.bD.cell 34 (by rw [List.getElem?_toArray]; exact dcs_34 H32.out)
  have f34 := HM8.out.bD.frozen 34
  have HM9 := hid (show Mid2 w (w8.setCell ⟨D, 34, none⟩ (.string (strB q4.1))) base q g f r bs q4.2 rf R D 25 25 zd (dcs ⟨(q1.1 : Int), q2.1, z3, q4.1⟩).toArray from
    HM8.out.upd (chg_set (L := [D]) (by simp) 34 _) (by have := HM8.out.bD.set_ 34 (.string (strB q4.1)); rw [dcs_set34 H32.out] at this; exact this))
  have HRUN := hid (run_loadVar_row (P := Try.prog) (w8.setCell ⟨D, 34, none⟩ (.string (strB q4.1))) D _ 25 _ (0, 0) _ HM9.out.bD Try.underlying25 rfl HSAF.out)
  have HOF := hid (dcs_oneA ⟨(q1.1 : Int), q2.1, z3, q4.1⟩)
  have HSZF : Hid (zd.size = (dcs ⟨(q1.1 : Int), q2.1, z3, q4.1⟩).toArray.size) := by
    have := HSZD.out
    rw [Hid, this, List.size_toArray, dcs_length (d := ⟨(q1.1 : Int), q2.1, z3, q4.1⟩) H32.out]
  have HFIN := hid (show SrcP w base q g f r bs q4.2 rf ((w8.setCell ⟨D, 34, none⟩ (.string (strB q4.1))).setRow R (dcs ⟨(q1.1 : Int), q2.1, z3, q4.1⟩).toArray) from HM9.out.fin (chg_row _ _ _))
  have HDR := hid (show (dcs DR.1).toArray = (dcs ⟨(q1.1 : Int), q2.1, z3, q4.1⟩).toArray ∧ DR.2 = q4.2 from by rw [HR.out]; exact ⟨rfl, rfl⟩)
  generalize (dcs ⟨(q1.1 : Int), q2.1, z3, q4.1⟩).toArray = cF at HDR HRUN HOF HSZF HFIN HSAF HM9
  clear hp HN4 HM7 HM8
  generalize strB q4.1 = st at d34 HM9 HRUN HFIN ⊢
  go_wp2_with (first | (refine wpList_load_run rfl 25 _ rfl _ _ rfl HRUN.out ?_) | ((refine wpList_store_blk rfl 25 _ _ rfl R _ rfl rfl 25 _ HM9.out.bR HSAF.out HSZF.out HOF.out ?_); refine Held.go ?_))
  have KF := hid (HM9.out.bR.setRow cF)
  generalize (w8.setCell ⟨D, 34, none⟩ (.string st)).setRow R cF = w9 at KF HFIN ⊢
  unfold Held
  go_wp2_with fail
  refine bodyPost_ret (v := .agg cF) (results_cell_row rfl _ _ R 25 _ (0, 0) _ rfl KF.out Try.underlying25 rfl HSAF.out) rfl ⟨by rw [HDR.out.1], by rw [HDR.out.2]; exact HFIN.out⟩
/-- descriptions that are read, one behind the other -/
def dscN (bs : List UInt8) : Nat → RS → List DD × RS
  | 0, s => ([], s)
  | k + 1, s => ((dscN bs k s).1 ++ [(dscR bs (dscN bs k s).2).1], (dscR bs (dscN bs k s).2).2)
theorem dscN_length (bs : List UInt8) (k : Nat) (s : RS) : (dscN bs k s).1.length = k := by
  induction k with
  | zero => rfl
  | succ k ih => simp [dscN, ih]
theorem dscR_id (bs : List UInt8) (s : RS) : (dscR bs s).1.id.length = 32 := idS_length _ _
theorem dscN_id (bs : List UInt8) (k : Nat) (s : RS) : ∀ d ∈ (dscN bs k s).1, d.id.length = 32 := by
  induction k with
  | zero => intro d hd; simp [dscN] at hd
  | succ k ih =>
    intro d hd
    simp only [dscN, List.mem_append, List.mem_singleton] at hd
    rcases hd with hd | rfl
    · exact ih d hd
    · exact dscR_id _ _
/-- a row of descriptions of the call's own -/
def OwnD (w : World) (base : Nat) (v : Value) (ds : List DD) : Prop := w.ownsRow base 25 35 v ds.length (ds.flatMap dcs)
theorem OwnD.nil (w : World) (base : Nat) : OwnD w base (.slice none 0 0) [] := World.ownsRow_nil w base _ 35
theorem OwnD.chg {w w' : World} {L : List Nat} {base : Nat} {v : Value} {ds : List DD} (h : OwnD w base v ds) (hc : Chg L w w') (hL : ∀ b, v.ownBlock = some b → b ∉ L) : OwnD w' base v ds := by
  have hlt0 := World.ownsRow.lt h
  rcases h with ⟨h1, ⟨rfl, h0⟩ | ⟨g', cap, cur, rfl, hb, hlt, r⟩⟩
  · exact ⟨h1, .inl ⟨rfl, h0⟩⟩
  · exact ⟨h1, .inr ⟨g', cap, cur, rfl, hb, (hc.block g' (hlt0 g' rfl).2 (hL g' rfl)).trans hlt, r⟩⟩
theorem OwnD.keep {w w' : World} {base : Nat} {v : Value} {ds : List DD} (h : OwnD w base v ds) (hb : Below w.heap.size w w') : OwnD w' base v ds := h.chg (L := []) (Chg.of_below hb) (fun _ _ => by simp)
theorem OwnD.lower {w : World} {base base' : Nat} {v : Value} {ds : List DD} (h : OwnD w base v ds) (hb : base' ≤ base) : OwnD w base' v ds := by
  rcases h with ⟨h1, h2 | ⟨g', cap, cur, rfl, hb', hlt, r⟩⟩
  · exact ⟨h1, .inl h2⟩
  · exact ⟨h1, .inr ⟨g', cap, cur, rfl, by omega, hlt, r⟩⟩
theorem flat_at {ds : List DD} (h32 : ∀ d ∈ ds, d.id.length = 32) {j : Nat} {d : DD} (hj : ds[j]? = some d) {i : Nat} {v : Value} (hi : (dcs d)[i]? = some v) : (ds.flatMap dcs)[j * 35 + i]? = some v := by
  induction ds generalizing j with
  | nil => simp at hj
  | cons x l ih =>
    have hx := dcs_length (h32 x (List.mem_cons_self ..))
    rw [List.flatMap_cons]
    cases j with
    | zero =>
      simp at hj; subst hj
      have := (List.getElem?_eq_some_iff.1 hi).1
      rw [List.getElem?_append_left (by omega)]
      simpa using hi
    | succ j =>
      have hih := ih (fun d hd => h32 d (List.mem_cons_of_mem _ hd)) (by simpa using hj)
      rw [List.getElem?_append_right (by rw [hx, Nat.succ_mul]; omega), hx, show (j + 1) * 35 + i - 35 = j * 35 + i by rw [Nat.succ_mul]; omega]
      exact hih
theorem OwnD.sds {w : World} {base : Nat} {v : Value} {ds : List DD} (h : OwnD w base v ds) (h32 : ∀ d ∈ ds, d.id.length = 32) : ∃ A c, v = .slice A ds.length c ∧ ds.length ≤ c ∧ SDs w w.heap.size A ds.length ds := by
  have hlt := World.ownsRow.lt h
  rcases h.2 with ⟨rfl, h0⟩ | ⟨g', cap, cur, rfl, hb, hg, hc⟩
  · have : ds = [] := List.eq_nil_of_length_eq_zero h0
    subst this
    exact ⟨none, 0, rfl, Nat.le_refl _, SDs.nil _ _ _⟩
  · refine ⟨_, cap, rfl, hc.1, rfl, h32, fun _ => ⟨g', 0, rfl, (hlt g' rfl).2, fun j d hj i u hi => ?_⟩⟩
    have := World.ownsRow.cells h (g := g') rfl (j * 35 + i) u (flat_at h32 hj hi)
    rw [Addr.add_lit, Nat.zero_add] at this
    rw [Nat.zero_add]
    exact this
theorem infoDD : (Try.prog.info? 25).map (fun i => (i.zero, i.size, i.bytes)) = some (some (.agg zdc), 35, 64) := by kernel_rfl
theorem lcons {α : Type} {l : List α} {n : Nat} (h : l.length = n + 1) : ∃ x t, l = x :: t ∧ t.length = n := by
  cases l with
  | nil => simp at h
  | cons x t => exact ⟨x, t, rfl, by simpa using h⟩
set_option maxRecDepth 20000 in
theorem run_bs1 (l : List Value) (h : l.length = 35) (W : World) : (Instr.buildSlice 26 1 #[(0, .agg l.toArray)]).run Try.prog W = .ok (.slice (some ⟨W.heap.size, 0, none⟩) 1 1) (W.alloc (.cells l.toArray 25)) := by
  obtain ⟨x0, l0, rfl, h0⟩ := lcons h
  obtain ⟨x1, l1, rfl, h1⟩ := lcons h0
  obtain ⟨x2, l2, rfl, h2⟩ := lcons h1
  obtain ⟨x3, l3, rfl, h3⟩ := lcons h2
  obtain ⟨x4, l4, rfl, h4⟩ := lcons h3
  obtain ⟨x5, l5, rfl, h5⟩ := lcons h4
  obtain ⟨x6, l6, rfl, h6⟩ := lcons h5
  obtain ⟨x7, l7, rfl, h7⟩ := lcons h6
  obtain ⟨x8, l8, rfl, h8⟩ := lcons h7
  obtain ⟨x9, l9, rfl, h9⟩ := lcons h8
  obtain ⟨x10, l10, rfl, h10⟩ := lcons h9
  obtain ⟨x11, l11, rfl, h11⟩ := lcons h10
  obtain ⟨x12, l12, rfl, h12⟩ := lcons h11
  obtain ⟨x13, l13, rfl, h13⟩ := lcons h12
  obtain ⟨x14, l14, rfl, h14⟩ := lcons h13
  obtain ⟨x15, l15, rfl, h15⟩ := lcons h14
  obtain ⟨x16, l16, rfl, h16⟩ := lcons h15
  obtain ⟨x17, l17, rfl, h17⟩ := lcons h16
  obtain ⟨x18, l18, rfl, h18⟩ := lcons h17
  obtain ⟨x19, l19, rfl, h19⟩ := lcons h18
  obtain ⟨x20, l20, rfl, h20⟩ := lcons h19
  obtain ⟨x21, l21, rfl, h21⟩ := lcons h20
  obtain ⟨x22, l22, rfl, h22⟩ := lcons h21
  obtain ⟨x23, l23, rfl, h23⟩ := lcons h22
  obtain ⟨x24, l24, rfl, h24⟩ := lcons h23
  obtain ⟨x25, l25, rfl, h25⟩ := lcons h24
  obtain ⟨x26, l26, rfl, h26⟩ := lcons h25
  obtain ⟨x27, l27, rfl, h27⟩ := lcons h26
  obtain ⟨x28, l28, rfl, h28⟩ := lcons h27
  obtain ⟨x29, l29, rfl, h29⟩ := lcons h28
  obtain ⟨x30, l30, rfl, h30⟩ := lcons h29
  obtain ⟨x31, l31, rfl, h31⟩ := lcons h30
  obtain ⟨x32, l32, rfl, h32⟩ := lcons h31
  obtain ⟨x33, l33, rfl, h33⟩ := lcons h32
  obtain ⟨x34, l34, rfl, h34⟩ := lcons h33
  obtain rfl := List.eq_nil_of_length_eq_zero h34
  kernel_rfl
theorem wpList_bs1 {P : Program} {ops : Array Oper} {rest : List Oper} {o : Oper} {a : Act} {w w' : World} {Q : Exit → Act → World → Prop} (hgd : o.guard = none) (t : TypeId) (x : Operand) (ho : o.op = .buildSlice t 1 #[(0, x)]) (u v : Value) (hx : a.eval x = u)
    (hr : (Instr.buildSlice t 1 #[(0, u)]).run P w = .ok v w') (h : wpList P ops Q rest (a.put o.dst v) w') : wpList P ops Q (o :: rest) a w := by
  refine wpList_plain hgd fun K hK => ?_
  unfold Oper.wp execOp
  simp only [ho, List.map_toArray, List.map_cons, List.map_nil, hx, Sem.run_bind, Sem.run_pure, Result.andThen_ok, hr]
  exact hK _ _ h
set_option maxRecDepth 20000 in
set_option maxHeartbeats 1000000 in
theorem several_calls (base q g f : Nat) (r : Option Nat) (bs : List UInt8) (s : RS) (rf : Nat × Nat) (n : Nat) (hn : n ≤ 1000) (w : World) (h : SrcB w base q g f r bs s rf) :
    Calls Try.prog 88 #[.int .i64 (n : Int), .func (.func 69) #[.pointer (some ⟨q, 0, none⟩)] #[]] w fun e w' => ∃ v, e = .returned v ∧ OwnD w' w.heap.size v (dscN bs n s).1 ∧ SrcP w base q g f r bs (dscN bs n s).2 rf w' := by
  have HH := hid h
  clear h
  go_enter Try.func88, Try.ntmps88
  go_wp2_with fail
  go_loopw [5, 7] (fun v5 v7 wr => ∃ (k : Nat), v7 = .int .i64 (k : Int) ∧ k ≤ n ∧ Hid (OwnD wr w.heap.size v5 (dscN bs k s).1) ∧ Hid (SrcP w base q g f r bs (dscN bs k s).2 rf wr)) (fun _ v7 _ => n - (intOf v7).toNat)
  case atStart => exact ⟨0, rfl, Nat.zero_le _, hid (OwnD.nil _ _), hid (SrcP.refl HH.out)⟩
  case round =>
    obtain ⟨k, rfl, hk, HO, HP⟩ := hrel
    by_cases hlt : k < n
    · have hlt' : (k : Int) < (n : Int) := by omega
      have HC := hid (src_desc base q g f r bs (dscN bs k s).2 rf wr HP.out.1)
      have HL := hid (show w.heap.size ≤ wr.heap.size from HP.out.2.size)
      have HLEN := hid (dscN_length bs k s)
      have HIDS := hid (dscN_id bs k s)
      have HST := hid (show (dscN bs (k + 1) s).1.flatMap dcs = (dscN bs k s).1.flatMap dcs ++ dcs (dscR bs (dscN bs k s).2).1 ∧ (dscN bs (k + 1) s).1.length = (dscN bs k s).1.length + 1 ∧ (dscN bs (k + 1) s).2 = (dscR bs (dscN bs k s).2).2 from ⟨by simp [dscN], by simp [dscN], rfl⟩)
      have H32 := hid (dscR_id bs (dscN bs k s).2)
      generalize dscN bs k s = DN at HO HP HC HLEN HST H32 HIDS
      generalize dscR bs DN.2 = DR at HC HST H32
      have HONE := hid (dcs_one DR.1)
      go_wp2_with fail
      refine HC.out.mono ?_
      rintro _ w1 ⟨rfl, hp⟩
      have HP1 := hid (SrcP.trans HP.out.2 hp)
      have HLT := hid HH.out.lt
      have HO1 := hid (HO.out.chg hp.2 (fun b e => by
        have := (World.ownsRow.lt HO.out b e).1
        exact src_new (w0 := w) HLT.out this))
      have HL1 := hid (show w.heap.size ≤ w1.heap.size from HP1.out.2.size)
      clear hp HC HO HP HL
      have HBS := hid (run_bs1 (dcs DR.1) (dcs_length H32.out))
      have HNEW := hid (fun (W : World) => (fun j u hu => by rw [Addr.add_lit, Nat.zero_add]; exact (Blk.new W 25 (dcs DR.1).toArray).cell j (by rw [List.getElem?_toArray]; exact hu) : ∀ (j : Nat) u, (dcs DR.1)[j]? = some u → (W.alloc (.cells (dcs DR.1).toArray 25)).cell? ((⟨W.heap.size, 0, none⟩ : Addr).add j) = some u))
      have HLL := hid (show (dcs DR.1).length = 1 * 35 from by rw [dcs_length H32.out])
      generalize dcs DR.1 = dl at HBS HNEW HLL HONE HST ⊢
      go_wp2_with (first | (refine wpList_bs1 rfl 26 (.tmp 11) rfl (.agg dl.toArray) (.slice (some ⟨w1.heap.size, 0, none⟩) 1 1) rfl (HBS.out w1) ?_) | (at_builtin; refine Held.go ?_))
      have hbn := below_new w1 (.cells dl.toArray 25)
      have hone := HNEW.out w1
      generalize w1.alloc (.cells dl.toArray 25) = w2 at hbn hone ⊢
      have HO2 := hid (HO1.out.keep hbn)
      have HP2 := hid (SrcP.trans HP1.out.2 (SrcP.fresh hbn (SrcP.refl (HP1.out.1.keep hbn))))
      have HL2 := hid (Nat.le_trans HL1.out hbn.size)
      obtain ⟨i0, hi, hz0, hz1, hz2⟩ := info_parts infoDD
      refine wpList_append_own_at w2 rfl _ _ 26 rfl w.heap.size 25 i0 _ 35 64 Try.underlying26 hi hz0 hz1 hz2 rfl (by omega) u5 DN.1.length (DN.1.flatMap dcs) rfl HO2.out ⟨w1.heap.size, 0, none⟩ 1 1 dl rfl HLL.out hone HONE.out (by have := HLEN.out; simp [maxLen]; omega) (by have := HLEN.out; omega) HL2.out ?_
      intro v8 w8 h8 hg8 _ hm8
      have HO8 := hid (show OwnD w8 w.heap.size v8 (dscN bs (k + 1) s).1 from by
        obtain ⟨e1, e2, -⟩ := HST.out
        unfold OwnD
        rw [e1, e2]; exact h8)
      have HP8 := hid (show SrcP w base q g f r bs (dscN bs (k + 1) s).2 rf w8 from by
        obtain ⟨-, -, e3⟩ := HST.out
        rw [e3]
        have hb8 : Below w.heap.size w2 w8 := below_of_grown hg8 HL2.out (fun b e => (World.ownsRow.lt HO2.out b e).1)
        refine ⟨HP2.out.1.chg (Chg.of_grown (L := u5.ownBlock.toList) hg8 (fun g e => by rw [e]; simp)) (fun b hb hm => ?_), HP2.out.2.trans (Chg.of_grown (L := u5.ownBlock.toList) hg8 (fun g e => by rw [e]; simp)) (fun b hb => .inr ?_)⟩
        · rw [Option.mem_toList] at hm
          have h1 := (World.ownsRow.lt HO2.out b hm).1
          have h2 := HLT.out b hb
          omega
        · rw [Option.mem_toList] at hb
          exact (World.ownsRow.lt HO2.out b hb).1)
      clear h8 hg8 hm8 hone hbn hi hz0 hz1 hz2 HO1 HP1 HO2 HP2 HL1 HL2 HNEW HBS HLL HONE HST
      go_wp2_with fail
      go_roundw
      case rel => exact ⟨k + 1, by go_num, by omega, HO8, HP8⟩
      case measure => simp [intOf]; omega
    · obtain rfl : k = n := by omega
      go_wp2_with fail
      go_ret
      exact ⟨_, rfl, HO.out, HP.out⟩
end Go.Proofs.Ytljnpaikjljmbaa
