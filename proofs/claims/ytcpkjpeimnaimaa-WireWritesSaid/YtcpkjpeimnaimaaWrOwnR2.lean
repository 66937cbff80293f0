/- Contracts: a reader's ID, Vector, End; NewReader. -/
import Derived.Test.YtcpkjpeimnaimaaWrOwnR
import Derived.Laws.CopyRow
import Derived.Laws.IdiomCopy
namespace Go.Proofs.Ytcpkjpeimnaimaa
open Go.RowKit
attribute [local go_sem] steady
attribute [local irreducible] wpPhase

def fill32 (q : List UInt8) : List UInt8 := if q.length = 32 then q else zeroB 32
theorem copy32 (w : World) (ty : TypeId) (I : Nat) (v : Value) (q : List UInt8) (hq : q.length = 32 ∨ q.length = 0) (hb : Blk w I 33 (bcells (zeroB 32))) (hl : Lent w v q) :
    ∃ w', (Builtin.copy_ #[31, 31] ty #[.slice (some ⟨I, 0, none⟩) 32 32, v]).run Try.prog w = .ok (goInt q.length) w' ∧ Blk w' I 33 (bcells (fill32 q)) ∧ Chg [I] w w' := by
  obtain ⟨A, c, rfl, _, hs⟩ := hl
  have hsz : (Try.prog.info? 5).map (·.size) = some 1 := by kernel_rfl
  rcases hq with hq | hq
  · obtain ⟨b, off, rfl, _, hc⟩ := hs.2 (by omega)
    have hr := run_copy_row (P := Try.prog) w 31 31 ty 5 I 0 32 32 ⟨b, off, none⟩ q.length c (bcells (zeroB 32)) 33 (q.map bv) Try.underlying31 hsz hb (by rw [List.length_map, hq]; rfl) (fun j u hj => by
      rw [List.getElem?_map] at hj
      obtain ⟨x, hx, rfl⟩ := Option.map_eq_some_iff.1 hj
      rw [Addr.add_lit]; exact hc j x hx) (by rw [List.length_map, hq, bcells_size]; exact Nat.le_refl _) (oneCell_bytes q)
    rw [List.length_map] at hr
    refine ⟨_, hr, ?_, Chg.of_grown (grown_setRow w I _) (fun g e => by cases e; simp)⟩
    have e : ((bcells (zeroB 32)).toList.take 0 ++ q.map bv ++ (bcells (zeroB 32)).toList.drop (0 + q.length)).toArray = bcells (fill32 q) := by
      rw [fill32, if_pos hq, hq, List.take_zero, List.nil_append, List.drop_of_length_le (by simp [bcells, zeroB]), List.append_nil]; rfl
    rw [e]
    exact hb.setRow _
  · have hr := run_copy_none (P := Try.prog) w 31 31 ty 5 (some ⟨I, 0, none⟩) A 32 32 q.length c Try.underlying31 hsz (by rw [hq]; rfl)
    refine ⟨w, by rw [hr, hq]; rfl, ?_, Chg.refl _ _⟩
    rw [fill32, if_neg (by omega)]
    exact hb
theorem exec_copy {P : Program} {w w' : World} {o : Oper} {a : Act} {vd vs v : Value} (d s : Operand) (T : TypeId) (ho : o.op = .call { callee := .builtin .copy, args := #[d, s], argTypes := #[T, T] }) (hd : a.eval d = vd) (hs : a.eval s = vs)
    (hr : (Builtin.copy_ #[T, T] o.type #[vd, vs]).run P w = .ok v w') : (execOp a.eval o).run P w = .ok (.value v) w' := by
  unfold execOp
  simp only [ho, resolve, invoke, builtin, Sem.run_bind, Sem.run_pure, Result.andThen_ok, List.map_toArray, List.map_cons, List.map_nil, hd, hs, hr]
def idS (bs : List UInt8) : RS → List UInt8 × RS
  | .ok a => (fill32 (takeS bs 32 a (.ok a)).1, (takeS bs 32 a (.ok a)).2)
  | s => (zeroB 32, s)
theorem fill32_length (q : List UInt8) : (fill32 q).length = 32 := by
  unfold fill32; split
  · assumption
  · rfl
theorem info26b : (Try.prog.info? 33).map (·.size) = some (bcells (zeroB 32)).size := by kernel_rfl
set_option maxHeartbeats 2000000 in
set_option maxRecDepth 20000 in
theorem rID_ok (base g f : Nat) (r : Option Nat) (bs : List UInt8) (a : Nat) (w : World) (h : RdB w base g f r bs (.ok a)) :
    Calls Try.prog 42 #[.pointer (some ⟨g, 0, none⟩)] w fun e w' => e = .returned (.agg (bcells (idS bs (.ok a)).1)) ∧ RdPost w base g f r bs (idS bs (.ok a)).2 w' := by
  have hz := (zero_of_info info26).1
  have hal := h.good
  have hlt := h.lt
  have hfl := hid h.fp_lt
  have hqd : idS bs (.ok a) = (fill32 (takeS bs 32 a (.ok a)).1, (takeS bs 32 a (.ok a)).2) := rfl
  have HT := hid (fun w1 => take_calls base g f r bs (.ok a) 32 a (by omega) hal (.inl rfl) w1)
  have hq32 : (takeS bs 32 a (.ok a)).1.length = 32 ∨ (takeS bs 32 a (.ok a)).1.length = 0 := by
    by_cases hm : bs.length - a < 32
    · rw [show takeS bs 32 a (.ok a) = ([], .bad 6 a) from if_pos hm]; exact .inr rfl
    · rw [show takeS bs 32 a (.ok a) = ((bs.drop a).take 32, .ok (a + 32)) from if_neg hm]
      left
      show ((bs.drop a).take 32).length = 32
      rw [List.length_take, List.length_drop]; omega
  rw [hqd]
  generalize takeS bs 32 a (.ok a) = q at HT hq32 ⊢
  obtain ⟨A, c, a1, c2, c3, -, -, -, -, -, ha1, -⟩ := take_lent h
  rw [ha1 a rfl] at c3
  have hlA := lt_of_cell c2
  have b1 := (below_new w (.cells (bcells (zeroB 32)) 33)).alloc (by rw [size_new]; omega) (.cells (bcells (zeroB 32)) 33)
  have k1 := (Blk.new w 33 (bcells (zeroB 32))).alloc (.cells (bcells (zeroB 32)) 33)
  have k2 := Blk.new (w.alloc (.cells (bcells (zeroB 32)) 33)) 33 (bcells (zeroB 32))
  rw [size_new] at k2
  have HH := hid h
  clear h hqd
  go_enter Try.func42, Try.ntmps42
  go_wp2_with fail
  generalize (w.alloc (.cells (bcells (zeroB 32)) 33)).alloc (.cells (bcells (zeroB 32)) 33) = w2 at b1 k1 k2 ⊢
  have hI : w.heap.size ≠ w.heap.size + 1 := by omega
  generalize hIg : w.heap.size + 1 = I at k2 hI ⊢
  have B1 := hid b1; have K1 := hid k1; have K2 := hid k2; have HIg := hid hIg
  clear b1 k1 k2 hIg hz
  refine (reads_calls base g f r bs _ w2 (HH.out.keep B1.out)).mono ?_
  rintro _ _ ⟨rfl, rfl⟩
  rw [show decide ((RS.ok a).err = 0) = true from rfl]
  go_wp2_with fail
  have hnI : I ∉ [g, f] := not_in2 (B := w.heap.size) hlt.1 hlt.2 (by have := HIg.out; omega)
  have hnR : w.heap.size ∉ [g, f] := not_in2 (B := w.heap.size) hlt.1 hlt.2 (Nat.le_refl _)
  refine wp_region_phaseG (fun o => goCall o || o.dst == some 11) (fun k w' =>
    Blk w' w.heap.size 33 (bcells (zeroB 32)) ∧ Blk w' I 33 (if k < 3 then bcells (zeroB 32) else bcells (fill32 q.1)) ∧ Chg [g, f] w w' ∧ RdB w' base g f r bs (if k < 2 then .ok a else q.2) ∧
    (k < 2 → w'.cell? ⟨g, 3, none⟩ = some (.int .i64 (a : Int)) ∧ w'.cell? ⟨g, 2, none⟩ = some (.slice A bs.length c)) ∧ (k = 2 → Lent w' (takeV A c bs.length 32 a) q.1)) (fun _ => True) (fun _ _ _ => trivial) (by kernel_rfl) (by kernel_rfl) (by kernel_rfl) ⟨K1.out.drew, K2.out.drew, (Chg.of_below B1.out).drew, (HH.out.keep B1.out).drew, fun _ => ⟨(B1.out.cell (p := ⟨g, 3, none⟩) hlA).trans c3, (B1.out.cell (p := ⟨g, 2, none⟩) hlA).trans c2⟩, fun h => by omega⟩ ?_
  intro S _ at_ _
  (refine phase_plain rfl (fun K hK => ?_); go_simp; refine hK _ ?_; clear hK K)
  (refine phase_plain rfl (fun K hK => ?_); go_simp; refine hK _ ?_; clear hK K)
  (refine phase_plain rfl (fun K hK => ?_); go_simp; refine hK _ ?_; clear hK K)
  (refine phase_plain rfl (fun K hK => ?_); go_simp; refine hK _ ?_; clear hK K)
  (refine phase_plain rfl (fun K hK => ?_); go_simp; refine hK _ ?_; clear hK K)
  refine phase_reads rfl rfl (.int .i64 (a : Int)) (fun w' hw => ⟨by have := (hw.2.2.2.2.1 (by omega)).1; go_simp, hw.1, hw.2.1, hw.2.2.1, hw.2.2.2.1, fun _ => hw.2.2.2.2.1 (by omega), fun h => by omega⟩) ?_
  refine phase_call rfl rfl 69 #[.pointer (some ⟨g, 0, none⟩), .int .i64 32, .int .i64 (a : Int)] (fun w => by go_simp) (takeV A c bs.length 32 a) (fun w' hw => (HT.out w' hw.2.2.2.1).mono fun e w'' ⟨v, he, h1, h2, h3⟩ => ?_) ?_
  · have hv := h3 A c a (hw.2.2.2.2.1 (by omega)).2 rfl
    subst hv
    exact ⟨he, hw.1.chg h2.2 hnR, hw.2.1.chg h2.2 hnI, hw.2.2.1.trans h2.2 (fun _ hb => .inl hb), h2.1, fun h => by omega, fun _ => h1⟩
  refine phase_writes rfl rfl (goInt q.1.length) (fun w' hw => ?_) ?_
  · obtain ⟨w'', hr, h1, h2⟩ := copy32 w' 3 I _ q.1 hq32 hw.2.1 (hw.2.2.2.2.2 rfl)
    refine ⟨w'', ?_, hw.1.chg h2 (by simpa using hI), h1, hw.2.2.1.trans h2 (fun b hb => .inr (by have := HIg.out; simp at hb; omega)), hw.2.2.2.1.chg h2 (fun b hb hm => ?_), fun h => by omega, fun h => by omega⟩
    · exact exec_copy (.tmp 6) (.tmp 12) 31 rfl rfl rfl hr
    · have := (hfl.out b hb).2
      have := HIg.out
      simp at hm; omega
  refine phase_nil ?_
  rintro w4 ⟨h1, h2, h3, h4, -⟩
  have hl32 := fill32_length q.1
  have hz0 : (bcells (zeroB 32)).size = (bcells (fill32 q.1)).size := by rw [bcells_size, bcells_size, hl32]; rfl
  have EI := hid (size_id hl32)
  have H1 := hid (show Blk w4 w.heap.size 33 (bcells (zeroB 32)) from h1)
  have H2 := hid (show Blk w4 I 33 (bcells (fill32 q.1)) from h2)
  have HZ0 := hid hz0
  have H5 := hid (show RdPost w base g f r bs q.2 (w4.setRow w.heap.size (bcells (fill32 q.1))) from by
    have kc : Chg [w.heap.size] w4 (w4.setRow w.heap.size (bcells (fill32 q.1))) := Chg.of_grown (grown_setRow w4 _ _) (fun g e => by cases e; simp)
    refine ⟨RdB.chg h4 kc (fun b hb hm => ?_), h3.trans kc (fun b hb => .inr (by simp at hb; omega))⟩
    have := (hfl.out b hb).2
    simp at hm; omega)
  generalize hcs : fill32 q.1 = cs at EI H1 H2 HZ0 H5
  have HCS := hid hcs
  clear h1 h2 h3 h4 hl32 hz0 hq32 HT hcs
  go_wp2_with (first | (refine wpList_load_blk rfl 33 _ rfl I rfl 33 _ H2.out _ _ Try.underlying33 EI.out ?_) | (refine wpList_store_blk rfl 33 _ _ rfl w.heap.size _ rfl rfl 33 _ H1.out EI.out HZ0.out (bcells_oneCell _) ?_))
  refine bodyPost_ret (v := .agg (bcells cs)) (results_cell_row rfl _ _ w.heap.size 33 _ (0, 0) _ rfl (H1.out.setRow _) Try.underlying33 rfl EI.out) rfl ⟨by rw [HCS.out], H5.out⟩
set_option maxRecDepth 20000 in
theorem rID_bad (base g f : Nat) (r : Option Nat) (bs : List UInt8) (e p : Nat) (w : World) (h : RdB w base g f r bs (.bad e p)) :
    Calls Try.prog 42 #[.pointer (some ⟨g, 0, none⟩)] w fun e' w' => e' = .returned (.agg (bcells (zeroB 32))) ∧ RdPost w base g f r bs (.bad e p) w' := by
  have hz := (zero_of_info info26).1
  have he := h.good.1
  have hfl := hid h.fp_lt
  have b1 := (below_new w (.cells (bcells (zeroB 32)) 33)).alloc (by rw [size_new]; omega) (.cells (bcells (zeroB 32)) 33)
  have k1 := (Blk.new w 33 (bcells (zeroB 32))).alloc (.cells (bcells (zeroB 32)) 33)
  have k2 := Blk.new (w.alloc (.cells (bcells (zeroB 32)) 33)) 33 (bcells (zeroB 32))
  rw [size_new] at k2
  have HH := hid h
  clear h
  go_enter Try.func42, Try.ntmps42
  go_wp2_with fail
  generalize (w.alloc (.cells (bcells (zeroB 32)) 33)).alloc (.cells (bcells (zeroB 32)) 33) = w2 at b1 k1 k2 ⊢
  generalize hIg : w.heap.size + 1 = I at k2 ⊢
  have B1 := hid b1; have K1 := hid k1; have K2 := hid k2; have HIg := hid hIg
  clear b1 k1 k2 hIg hz
  refine (reads_calls base g f r bs _ w2 (HH.out.keep B1.out)).mono ?_
  rintro _ _ ⟨rfl, rfl⟩
  rw [show decide ((RS.bad e p).err = 0) = false from by simp [RS.err, he]]
  have H5 := hid (show RdPost w base g f r bs (.bad e p) (w2.setRow w.heap.size (bcells (zeroB 32))) from by
    have kc : Chg [w.heap.size] w2 (w2.setRow w.heap.size (bcells (zeroB 32))) := Chg.of_grown (grown_setRow w2 _ _) (fun g e => by cases e; simp)
    refine ⟨RdB.chg (HH.out.keep B1.out) kc (fun b hb hm => ?_), (Chg.of_below B1.out).trans kc (fun b hb => .inr (by simp at hb; omega))⟩
    have := (hfl.out b hb).2
    simp at hm; omega)
  have EI := hid info26b
  have HO1 := hid (bcells_oneCell (zeroB 32))
  clear he
  generalize hcs : bcells (zeroB 32) = z at EI K1 K2 H5 HO1
  have HCS := hid hcs
  clear hcs
  go_wp2_with (first | (refine wpList_load_blk rfl 33 _ rfl I rfl 33 _ K2.out _ _ Try.underlying33 EI.out ?_) | (refine wpList_store_blk rfl 33 _ _ rfl w.heap.size _ rfl rfl 33 _ K1.out EI.out rfl HO1.out ?_))
  refine bodyPost_ret (v := .agg z) (results_cell_row rfl _ _ w.heap.size 33 _ (0, 0) _ rfl (K1.out.setRow _) Try.underlying33 rfl EI.out) rfl ⟨by rw [HCS.out], H5.out⟩
theorem rID_calls (base g f : Nat) (r : Option Nat) (bs : List UInt8) (s : RS) (w : World) (h : RdB w base g f r bs s) :
    Calls Try.prog 42 #[.pointer (some ⟨g, 0, none⟩)] w fun e w' => e = .returned (.agg (bcells (idS bs s).1)) ∧ RdPost w base g f r bs (idS bs s).2 w' := by
  cases s with
  | ok a => exact rID_ok base g f r bs a w h
  | bad e p => exact rID_bad base g f r bs e p w h

/-- the numbers of a vector, read one by one -/
def vecLoop (bs : List UInt8) : Nat → List Int → RS → List Int × RS
  | 0, acc, s => (acc, s)
  | n + 1, acc, s => if (numS bs maxI 0 s).2.err = 0 then vecLoop bs n (acc ++ [((numS bs maxI 0 s).1 : Int)]) (numS bs maxI 0 s).2 else ([], (numS bs maxI 0 s).2)
def vecS (bs : List UInt8) (most : Int) (s : RS) : List Int × RS := vecLoop bs (numS bs most 4 s).1 [] (numS bs most 4 s).2
/-- A row of numbers of the call's own. -/
def OwnI (w : World) (base : Nat) (v : Value) (zs : List Int) : Prop := w.ownsRow base 3 1 v zs.length (zs.map (Value.int .i64))
theorem infoInt : (Try.prog.info? 3).map (fun i => (i.zero, i.size, i.bytes)) = some (some (.int .i64 0), 1, 8) := by kernel_rfl
theorem numS_step {bs : List UInt8} {most : Int} {above a : Nat} (hg : a ≤ bs.length) (h : (numS bs most above (.ok a)).2.err = 0) (hab : above ≠ 0 ∨ 9223372036854775807 ≤ most) : ∃ a', (numS bs most above (.ok a)).2 = .ok a' ∧ a < a' ∧ a' ≤ bs.length := by
  have hgd := numS_good bs most above (.ok a) hab hg
  obtain ⟨a', he, hal⟩ := good_err hgd h
  refine ⟨a', he, ?_, hal⟩
  have hns : numS bs most above (.ok a) = limS a most above (numS0 bs a) := rfl
  rw [hns] at he
  generalize hq : numS0 bs a = q at he
  obtain ⟨n, s'⟩ := q
  cases s' with
  | bad e p => cases he
  | ok a2 =>
    have h2 : a2 = a' := by
      by_cases hm : most < (n : Int)
      · rw [show limS a most above (n, .ok a2) = (0, .bad above a) from if_pos hm] at he; cases he
      · rw [show limS a most above (n, .ok a2) = (n, .ok a2) from if_neg hm] at he; cases he; rfl
    subst h2
    unfold numS0 at hq
    split at hq
    · rename_i h0
      have hd := enc_dec (bs.drop a) (n := (decN (bs.drop a)).1) (s := (decN (bs.drop a)).2.1) (by rw [← h0])
      simp only [Prod.mk.injEq, RS.ok.injEq] at hq
      omega
    · simp at hq
theorem OwnI.keep {w w' : World} {base : Nat} {v : Value} {zs : List Int} (h : OwnI w base v zs) (hb : Below w.heap.size w w') : OwnI w' base v zs := World.ownsRow.kept h (grown_of_below hb none) (by
  rcases hv : v.ownBlock with _ | g
  · exact .inl rfl
  · exact .inr (by simp))
theorem OwnI.chg {w w' : World} {L : List Nat} {base : Nat} {v : Value} {zs : List Int} (h : OwnI w base v zs) (hc : Chg L w w') (hL : ∀ b ∈ L, b < base) : OwnI w' base v zs := by
  have hlt0 := World.ownsRow.lt h
  rcases h with ⟨h1, ⟨rfl, h2⟩ | ⟨g', cap, cur, rfl, hb, hlt, r⟩⟩
  · exact ⟨h1, .inl ⟨rfl, h2⟩⟩
  · have e := hc.block g' (hlt0 g' rfl).2 (fun hm => by have := hL _ hm; omega)
    exact ⟨h1, .inr ⟨g', cap, cur, rfl, hb, e.trans hlt, r⟩⟩
/-- one number behind a row of the call's own -/
theorem wpList_pushI {w : World} {ops : Array Oper} {rest : List Oper} {o : Oper} {a : Act} {Q : Exit → Act → World → Prop} (hgd : o.guard = none) (s x : Operand)
    (ho : o.op = .call { callee := .builtin .append, args := #[s, x], argTypes := #[36, 36] })
    (base : Nat) (v : Value) (zs : List Int) (hv : a.eval s = v) (hown : OwnI w base v zs) (z : Int) (hx : a.eval x = .slice (some ⟨w.heap.size, 0, none⟩) 1 1)
    (hlen : zs.length + 1 ≤ 1099511627776) (hbase : base ≤ w.heap.size)
    (h : ∀ v' w', OwnI w' base v' (zs ++ [z]) → w.grownBy w' v.ownBlock → wpList Try.prog ops Q rest (a.put o.dst v') w') :
    wpList Try.prog ops Q (o :: rest) a (w.alloc (.cells #[.int .i64 z] 3)) := by
  obtain ⟨i, hi, hz, hsz, hby⟩ := info_parts infoInt
  have hb := below_new w (.cells #[.int .i64 z] 3)
  have hcn := cell_one_new w (.int .i64 z) 3
  generalize w.alloc (.cells #[.int .i64 z] 3) = w3 at hb hcn ⊢
  refine wpList_plain hgd fun K hK => ?_
  obtain ⟨v', w', hr, h2, h3, _, _⟩ := run_append_own_at (P := Try.prog) w3 base 36 o.type 3 i _ 1 8 Try.underlying36 hi hz hsz hby rfl (by omega) v zs.length _ (hown.keep hb) ⟨w.heap.size, 0, none⟩ 1 1 [.int .i64 z] rfl hcn (by simp [Value.oneCell']) (by simp [maxLen]; omega) (by omega) (Nat.le_trans hbase hb.size)
  unfold Oper.wp execOp
  simp only [ho, resolve, invoke, builtin, Sem.run_bind, Sem.run_pure, Result.andThen_ok, List.map_toArray, List.map_cons, List.map_nil, hv, hx, hr]
  refine hK _ _ (h v' w' ?_ ((grown_of_below hb v.ownBlock).trans h3))
  show w'.ownsRow base 3 1 v' (zs ++ [z]).length ((zs ++ [z]).map (Value.int .i64))
  rw [List.length_append, List.map_append]
  exact h2
set_option maxHeartbeats 2000000 in
theorem rVec_calls (base g f : Nat) (r : Option Nat) (bs : List UInt8) (s : RS) (most : Int) (w : World) (h : RdB w base g f r bs s) :
    Calls Try.prog 47 #[.pointer (some ⟨g, 0, none⟩), .int .i64 most] w fun e w' => ∃ v, e = .returned v ∧ OwnI w' w.heap.size v (vecS bs most s).1 ∧ RdPost w base g f r bs (vecS bs most s).2 w' := by
  have HN := hid (number_calls base g f r bs s most 4 (.inl (by omega)) w h)
  have hnl := numS_lt bs most 4 s
  have hgz := numS_zero bs most 4 s
  have hgg := numS_good bs most 4 s (.inl (by omega)) h.good
  have hlt := h.lt
  have HFL := hid h.fp_lt
  have hbl : bs.length ≤ 549755813888 := by
    obtain ⟨_, _, _, _, _, _, _, _, _, _, _, hbl, _⟩ := take_lent h
    exact hbl
  have hv : vecS bs most s = vecLoop bs (numS bs most 4 s).1 [] (numS bs most 4 s).2 := rfl
  generalize vecS bs most s = q at hv ⊢
  generalize numS bs most 4 s = q1 at HN hnl hv hgz hgg
  obtain ⟨n, s1⟩ := q1
  simp only at HN hnl hv hgz hgg
  have HV := hid hv
  have HG0 := hid (show 0 < n → ∃ a, s1 = .ok a ∧ 0 ≤ a ∧ a ≤ bs.length from fun h0 => by
    obtain ⟨a, e, ha⟩ := good_err hgg (hgz.resolve_right (by omega))
    exact ⟨a, e, Nat.zero_le _, ha⟩)
  clear h hv hgz hgg
  go_enter Try.func47, Try.ntmps47
  go_wp2_with fail
  refine HN.out.mono ?_
  rintro _ w1 ⟨rfl, h1, k1⟩
  have H1 := hid h1; have K1 := hid k1
  clear h1 k1
  go_wp2_with fail
  go_loopw [5, 9] (fun v i wr => ∃ (k : Nat) (zs : List Int) (s2 : RS), k ≤ n ∧ i = .int .i64 (k : Int) ∧ Hid (zs.length = k) ∧ Hid (OwnI wr w.heap.size v zs) ∧ Hid (RdPost w base g f r bs s2 wr) ∧ Hid (vecLoop bs (n - k) zs s2 = q) ∧ Hid (k < n → ∃ a, s2 = .ok a ∧ k ≤ a ∧ a ≤ bs.length)) (fun _ i _ => n - (intOf i).toNat)
  case atStart => exact ⟨0, [], s1, by omega, rfl, rfl, World.ownsRow_nil _ _ _ _, ⟨H1.out, K1.out⟩, HV.out.symm, HG0⟩
  case round =>
    clear H1 K1 HV HG0
    obtain ⟨k, zs, s2, hk, rfl, HZ, HO, HR, HV, HG⟩ := hrel
    by_cases hlk : k < n
    · have q0 : (k : Int) < (n : Int) := by omega
      obtain ⟨a, rfl, hka, hal⟩ := HG.out hlk
      have hvl := HV.out
      rw [show n - k = (n - (k + 1)) + 1 from by omega] at hvl
      simp only [vecLoop] at hvl
      have HN2 := hid (rNum_calls base g f r bs (.ok a) wr HR.out.1)
      have HST := hid (numS_step (bs := bs) (most := maxI) (above := 0) (a := a) hal · (.inr (by simp [maxI])))
      generalize numS bs maxI 0 (.ok a) = q2 at HN2 hvl HST
      have HV2 := hid hvl
      clear hvl HV HG
      go_wp2_with fail
      refine HN2.out.mono ?_
      rintro _ w2 ⟨rfl, h2, k2⟩
      have H2 := hid h2
      have K2 := hid (HR.out.2.trans k2 (fun _ hb => .inl hb))
      have HO2 := hid (HO.out.chg k2 (fun b hb => by simp at hb; omega))
      clear h2 k2 HO HR
      go_wp2_with (at_builtin; refine Held.go ?_)
      refine wpList_pushI rfl _ _ rfl w.heap.size u5 zs rfl HO2.out (q2.1 : Int) rfl (by rw [HZ.out]; omega) K2.out.size ?_
      intro v3 w3 h3 g3
      have hrow := hid (World.ownsRow.lt HO2.out)
      have kc : Chg [g, f] w w3 := K2.out.trans (Chg.of_grown (L := u5.ownBlock.toList) g3 (fun b e => by
        have : u5.ownBlock = some b := e
        rw [this]; simp)) (fun b hb => .inr (by
        have : u5.ownBlock = some b := by simpa using hb
        exact (hrow.out b this).1))
      have hr3 : RdB w3 base g f r bs q2.2 := H2.out.chg (Chg.of_grown (L := u5.ownBlock.toList) g3 (fun b e => by
        have : u5.ownBlock = some b := e
        rw [this]; simp)) (fun b hb hm => by
        have h1 : u5.ownBlock = some b := by simpa using hm
        have h2 := (hrow.out b h1).1
        have h3 := (HFL.out b hb).2
        omega)
      have H3 := hid h3
      have R3 := hid (show RdPost w base g f r bs q2.2 w3 from ⟨hr3, kc⟩)
      clear h3 g3 kc hr3 hrow HO2 H2 K2
      go_wp2_with fail
      refine (reads_calls base g f r bs q2.2 w3 R3.out.1).mono ?_
      rintro _ _ ⟨rfl, rfl⟩
      by_cases he : q2.2.err = 0
      · have hv := HV2.out
        rw [if_pos he] at hv
        have HV3 := hid hv
        have HG3 := hid (show k + 1 < n → ∃ a, q2.2 = .ok a ∧ k + 1 ≤ a ∧ a ≤ bs.length from fun _ => by
          obtain ⟨a', e1, e2, e3⟩ := HST.out he
          exact ⟨a', e1, by omega, e3⟩)
        have HZ3 := hid (show (zs ++ [(q2.1 : Int)]).length = k + 1 from by rw [List.length_append, HZ.out]; rfl)
        rw [show decide (q2.2.err = 0) = true from by simp [he]]
        clear hv he HST
        go_wp2_with fail
        go_roundw
        case rel => exact ⟨k + 1, zs ++ [(q2.1 : Int)], q2.2, by omega, by go_num, HZ3, H3, R3, HV3, HG3⟩
        case measure => simp [intOf]; omega
      · have hv := HV2.out
        rw [if_neg he] at hv
        have HV3 := hid hv
        rw [show decide (q2.2.err = 0) = false from by simp [he]]
        clear hv he HST
        go_wp2_with fail
        go_ret
        exact ⟨_, rfl, by rw [← HV3.out]; exact World.ownsRow_nil _ _ _ _, by rw [← HV3.out]; exact R3.out⟩
    · obtain rfl : k = n := by omega
      have q0 : ¬ (k : Int) < (k : Int) := by omega
      have hvl := HV.out
      rw [Nat.sub_self] at hvl
      have HV2 := hid (show (zs, s2) = q from hvl)
      clear hvl
      go_wp2_with fail
      go_ret
      exact ⟨_, rfl, by rw [← HV2.out]; exact HO.out, by rw [← HV2.out]; exact HR.out⟩
def endS (bs : List UInt8) : RS → Nat × Nat
  | .ok a => if a < bs.length then (4, a) else (0, 0)
  | .bad e p => (e, p)
theorem size_fault (cs : Array Value) (h : cs.size = 2) : (Try.prog.info? 61).map (·.size) = some cs.size := by rw [h]; kernel_rfl
theorem rEnd_calls (base g f : Nat) (r : Option Nat) (bs : List UInt8) (s : RS) (w : World) (h : RdB w base g f r bs s) :
    Calls Try.prog 53 #[.pointer (some ⟨g, 0, none⟩)] w fun e w' => e = .returned (.agg #[.int .i64 ((endS bs s).1 : Int), .int .i64 ((endS bs s).2 : Int)]) ∧ Below w.heap.size w w' := by
  have b1 := below_new w (.cells #[.int .i64 0, .int .i64 0] 61)
  have k1 := Blk.new w 61 #[.int .i64 0, .int .i64 0]
  have HH := hid h
  have hgd := h.good
  have hz1 := size_new w (.cells #[.int .i64 0, .int .i64 0] 61)
  generalize hE : endS bs s = E
  have HE := hid hE
  clear h hE
  go_enter Try.func53, Try.ntmps53
  go_wp2_with fail
  generalize w.alloc (.cells #[.int .i64 0, .int .i64 0] 61) = w1 at b1 k1 hz1 ⊢
  have B1 := hid b1; have K1 := hid k1
  clear b1 k1
  refine (rvalid_calls base g f r bs s w1 (HH.out.keep B1.out)).mono ?_
  rintro _ _ ⟨rfl, rfl⟩
  go_wp2_with fail
  refine (rest_calls base g f r bs s w1 (HH.out.keep B1.out)).mono ?_
  rintro _ w2 ⟨rfl, b2, h2⟩
  have K2 := hid (K1.out.keep b2)
  have B2 := hid (B1.out.trans (b2.mono B1.out.size))
  obtain ⟨A, c, a, hb, hf, -, -, -, -, -, -, -, -, -, ha, -⟩ := h2
  have c1 := hb.cell 1 rfl
  have c3 := hb.cell 3 rfl
  have d0 := hf.cell 0 rfl
  have d1 := hf.cell 1 rfl
  have g0 := K2.out.cell 0 rfl
  have g1 := K2.out.cell 1 rfl
  have f0 := K2.out.frozen 0
  have f1 := K2.out.frozen 1
  clear b2 hb hf
  have fin : ∀ x y : Int, Blk ((w2.setCell ⟨w.heap.size, 0, none⟩ (.int .i64 x)).setCell ⟨w.heap.size, 1, none⟩ (.int .i64 y)) w.heap.size 61 #[.int .i64 x, .int .i64 y] ∧ Below w.heap.size w ((w2.setCell ⟨w.heap.size, 0, none⟩ (.int .i64 x)).setCell ⟨w.heap.size, 1, none⟩ (.int .i64 y)) := fun x y =>
    ⟨(K2.out.set_ 0 _).set_ 1 _, B2.out.trans ((below_of_grown (grown_setCell w2 w.heap.size 0 _) B2.out.size (fun g e => by cases e; exact Nat.le_refl _)).trans (below_of_grown (grown_setCell _ w.heap.size 1 _) (by simpa using B2.out.size) (fun g e => by cases e; exact Nat.le_refl _)))⟩
  have FIN := hid fin
  clear fin
  by_cases hr : 0 < restS bs s
  · obtain ⟨a', rfl⟩ : ∃ a', s = .ok a' := by
      cases s with
      | ok a' => exact ⟨a', rfl⟩
      | bad e p => exact absurd hr (by simp [restS])
    have hq : E = (4, a') := by
      rw [← HE.out]
      exact if_pos (by have : restS bs (.ok a') = bs.length - a' := rfl; omega)
    rw [ha a' rfl] at c3
    have q0 : (0 : Int) < (restS bs (.ok a') : Int) := by omega
    have HQ := hid hq
    generalize restS bs (.ok a') = R at q0 ⊢
    clear hr hgd ha hq
    go_wp2_with fail
    refine bodyPost_ret (v := .agg #[.int .i64 4, .int .i64 (a' : Int)]) (results_cell_row rfl _ _ w.heap.size 61 _ (0, 0) _ rfl (FIN.out 4 (a' : Int)).1 Try.underlying61 rfl (size_fault _ rfl)) rfl ⟨by rw [HQ.out]; rfl, (FIN.out _ _).2⟩
  · have hq : E = (s.err, s.fat) := by
      rw [← HE.out]
      cases s with
      | ok a' => exact if_neg (by have : restS bs (.ok a') = bs.length - a' := rfl; omega)
      | bad e p => rfl
    have q0 : ¬ (0 : Int) < (restS bs s : Int) := by omega
    have HQ := hid hq
    generalize restS bs s = R at q0 ⊢
    clear hr hgd ha hq
    generalize s.err = x at HQ d0
    generalize s.fat = y at HQ d1
    go_wp2_with fail
    refine bodyPost_ret (v := .agg #[.int .i64 (x : Int), .int .i64 (y : Int)]) (results_cell_row rfl _ _ w.heap.size 61 _ (0, 0) _ rfl (FIN.out (x : Int) (y : Int)).1 Try.underlying61 rfl (size_fault _ rfl)) rfl ⟨by rw [HQ.out], (FIN.out _ _).2⟩
theorem newReader_calls (B n c : Nat) (A : Option Addr) (bs : List UInt8) (w : World) (hs : SB w B A n bs) (hn : n ≤ 549755813888) :
    Calls Try.prog 35 #[.slice A n c] w fun e w' => ∃ g f r, e = .returned (.pointer (some ⟨g, 0, none⟩)) ∧ RdB w' w.heap.size g f r bs (.ok 0) ∧ Below w.heap.size w w' := by
  have b1 := below_new w (.cells #[.int .i64 0, .int .i64 0] 87)
  have k1 := Blk.new w 87 #[.int .i64 0, .int .i64 0]
  have hz1 := size_new w (.cells #[.int .i64 0, .int .i64 0] 87)
  have HS := hid hs
  have hl := hs.1
  clear hs
  go_enter Try.func35, Try.ntmps35
  go_wp2_with fail
  generalize w.alloc (.cells #[.int .i64 0, .int .i64 0] 87) = w1 at b1 k1 hz1 ⊢
  have B1 := hid b1; have K1 := hid k1
  refine (clone_calls B n c A bs w1 (HS.out.keep b1) (by omega)).mono ?_
  rintro _ w2 ⟨v, rfl, h2, b2⟩
  obtain ⟨A2, c2, rfl, -, -, -⟩ := h2.sb
  have K2 := hid (K1.out.keep b2); have B2 := hid (B1.out.trans (b2.mono B1.out.size)); have O2 := hid h2
  have hz2 := b2.size
  clear k1 b1 b2 h2
  go_wp2_with fail
  have b3 := below_new w2 (.cells #[.pointer (some ⟨w2.heap.size, 0, none⟩), .pointer (some ⟨w.heap.size, 0, none⟩), .slice A2 n c2, .int .i64 0] 77)
  have k3 := Blk.new w2 77 #[.pointer (some ⟨w2.heap.size, 0, none⟩), .pointer (some ⟨w.heap.size, 0, none⟩), .slice A2 n c2, .int .i64 0]
  generalize w2.alloc (.cells #[.pointer (some ⟨w2.heap.size, 0, none⟩), .pointer (some ⟨w.heap.size, 0, none⟩), .slice A2 n c2, .int .i64 0] 77) = w3 at b3 k3 ⊢
  go_ret
  subst hl
  have hr : ∀ b, (Value.slice A2 bs.length c2).ownBlock = some b → w1.heap.size ≤ b ∧ b < w2.heap.size := O2.out.block
  exact ⟨w2.heap.size, w.heap.size, _, rfl, ⟨A2, c2, 0, k3, K2.out.keep b3, (O2.out.lower (by omega)).keep b3, rfl, fun e => by have := hr _ e; omega, fun e => by have := hr _ e; omega, by omega, by omega, Nat.le_refl _, hn, Nat.zero_le _, fun a e => by cases e; rfl, Nat.zero_le _⟩, B2.out.trans (b3.mono B2.out.size)⟩
theorem RdB.lower {w : World} {base base' g f : Nat} {r : Option Nat} {bs : List UInt8} {s : RS} (h : RdB w base g f r bs s) (hb : base' ≤ base) : RdB w base' g f r bs s := by
  obtain ⟨A, c, a, h1, h2, h3, h4, h5, h6, h7, h8, h9, h10⟩ := h
  exact ⟨A, c, a, h1, h2, h3.lower hb, h4, h5, h6, h7, Nat.le_trans hb h8, Nat.le_trans hb h9, h10⟩
end Go.Proofs.Ytcpkjpeimnaimaa
