/- Contracts of package quota: wrong, add, Link, Lay, Mount. Written by tools/mkqt.py out of XQtAdd.tpl. -/
import Derived.Test.YtjgnbmkhibdcfaaQtPut
namespace Go.Proofs.Ytjgnbmkhibdcfaa
open Go.RowKit

theorem does_load_part {P : Program} {o : Oper} {a : Act} {w : World} {T : Value → World → Prop} (t : TypeId) (x : Operand) (ho : o.op = .load t x) (g off : Nat) (hx : a.eval x = .pointer (some ⟨g, off, none⟩)) {t' : TypeId} {pre mid post : List Value} (hb : Blk w g t' (part pre mid post)) (hoff : pre.length = off)
    {d : TypeDesc} (hu : P.underlying t = some d) (hd : (match d with | .struct _ => true | .array _ _ => true | _ => false) = true) (hi : (P.info? t).map (·.size) = some mid.length)
    (h : T (.agg mid.toArray) w) : OpDoes P o a w T := fun K Q hK => by
  unfold Oper.wp execOp
  simp only [ho, hx, Instr.loadAt, Instr.sureAddr, Sem.run_bind, Sem.run_pure, Result.andThen_ok, part_load hb t hoff hu hd hi]
  exact hK _ _ h
theorem run_callv {P : Program} {kf : FuncId} {first : Array Value} (hE : ∀ args W, (callFunc kf args).run P W = .ok (.enter kf args) W) {a : Act} {o : Oper} {c x : Operand} {ts : Array TypeId} (ho : o.op = .call { callee := .value c, args := #[x], argTypes := ts }) {v : Value} (hc : a.eval c = .func (.func kf) first #[]) (hx : a.eval x = v) (W : World) :
    (execOp a.eval o).run P W = .ok (.enter kf (first ++ #[v])) W := by
  simp [execOp, ho, resolve, Deferred.ofValue, invoke, hc, hx, hE]
theorem rq_part (k : LKey) (sz : Int) (fv : Value) : rqcells k sz fv = part [] (.string (strB k.1) :: k.2.map bv) [.int .i64 sz, fv] := by simp [rqcells, part]
theorem rq_33 {k : LKey} (h : k.2.length = 32) (sz : Int) (fv : Value) : (rqcells k sz fv)[33]? = some (.int .i64 sz) := by simp [rqcells, h]
theorem rq_34 {k : LKey} (h : k.2.length = 32) (sz : Int) (fv : Value) : (rqcells k sz fv)[34]? = some fv := by simp [rqcells, h]
theorem rq_0 (k : LKey) (sz : Int) (fv : Value) : (rqcells k sz fv)[0]? = some (.string (strB k.1)) := rfl
theorem rq_size {k : LKey} (h : k.2.length = 32) (sz : Int) (fv : Value) : (Try.prog.info? 74).map (·.size) = some (rqcells k sz fv).size := by
  have e : (rqcells k sz fv).size = 35 := by simp [rqcells, h]
  have e2 : (Try.prog.info? 74).map (·.size) = some 35 := by kernel_rfl
  rw [e, e2]
theorem size33l {k : LKey} (h : k.2.length = 32) : (Try.prog.info? 71).map (·.size) = some (Value.string (strB k.1) :: k.2.map bv).length := by
  have e : (Value.string (strB k.1) :: k.2.map bv).length = 33 := by simp [h]
  have e2 : (Try.prog.info? 71).map (·.size) = some 33 := by kernel_rfl
  rw [e, e2]
theorem qwrong_none (h : Value) (cs : Array Value) (w : World) (hn : NoObj w h) : Calls Try.prog 54 #[h, .agg cs] w fun e w' => e = .returned (.int .i64 1) ∧ Below w.heap.size w w' := by
  have HB := hid (below_new w (.cells cs 74))
  have HV := hid (qvalid_none h _ (hn.keep HB.out))
  clear hn
  go_enter Try.func54, Try.ntmps54
  go_wp2_with (first | (refine HV.out.mono ?_; rintro _ _ ⟨rfl, rfl⟩))
  go_ret
  exact ⟨rfl, HB.out⟩
def wrongE (b : Bool) (sz : Int) : Int := if b = false then 7 else if sz < 0 ∨ 4096 < sz then 3 else 0
set_option maxHeartbeats 1000000 in
theorem qwrong_calls (s : Nat) (k : LKey) (hl : k.2.length = 32) (sz : Int) (fv : Value) (b : Bool) (hr : IsR k.1 b) (w : World) (c0 : w.cell? ⟨s, 0, none⟩ = some (.pointer (some ⟨s, 0, none⟩))) :
    Calls Try.prog 54 #[.pointer (some ⟨s, 0, none⟩), .agg (rqcells k sz fv)] w fun e w' => e = .returned (.int .i64 (wrongE b sz)) ∧ Below w.heap.size w w' := by
  have hbx := below_new w (.cells (rqcells k sz fv) 74)
  have hkx := Blk.new w 74 (rqcells k sz fv)
  have HV := hid (qvalid_calls s _ (cell_keep c0 hbx))
  have HR := hid hr
  have c00 := hkx.cell 0 (rq_0 k sz fv)
  have c33 := hkx.cell 33 (rq_33 hl sz fv)
  clear c0 hl hr
  go_enter Try.func54, Try.ntmps54
  go_wp2_with fail
  generalize w.alloc (.cells (rqcells k sz fv) 74) = w1 at hbx hkx c00 c33 HV ⊢
  generalize hp : w.heap.size = p at hbx hkx c00 c33 ⊢
  refine HV.out.mono ?_
  rintro _ _ ⟨rfl, rfl⟩
  have HB := hid hbx
  clear hbx hkx HV
  go_wp2_with fail
  refine (HR.out w1).mono ?_
  rintro _ w2 ⟨rfl, hb2⟩
  have c33' := cell_keep c33 hb2
  have HB2 := hid (HB.out.trans (hb2.mono (hp ▸ HB.out.size)))
  clear hb2 c00 c33 HB HR
  have hp2 := hid hp
  clear hp
  cases b with
  | false =>
    go_wp2_with fail
    go_ret
    exact ⟨rfl, hp2.out ▸ HB2.out⟩
  | true =>
    by_cases h1 : sz < 0
    · have HE := hid (show (3 : Int) = wrongE true sz from by unfold wrongE; rw [if_neg (by simp), if_pos (.inl h1)])
      go_wp2_with fail
      go_ret
      exact ⟨by rw [← HE.out]; rfl, hp2.out ▸ HB2.out⟩
    · by_cases h2 : 4096 < sz
      · have HE := hid (show (3 : Int) = wrongE true sz from by unfold wrongE; rw [if_neg (by simp), if_pos (.inr h2)])
        go_wp2_with fail
        go_ret
        exact ⟨by rw [← HE.out]; rfl, hp2.out ▸ HB2.out⟩
      · have HE := hid (show (0 : Int) = wrongE true sz from by unfold wrongE; rw [if_neg (by simp), if_neg (by omega)])
        go_wp2_with fail
        go_ret
        exact ⟨by rw [← HE.out]; rfl, hp2.out ▸ HB2.out⟩
section
variable {w w' : World} {F : List Nat} {s m u n : Nat} {q : QS} {g : List UInt8 → Option Nat}
set_option maxRecDepth 20000 in
theorem qadd_none (h : Value) (k : LKey) (hl : k.2.length = 32) (sz : Int) (fv : Value) (hn : NoObj w h) : Calls Try.prog 38 #[h, .agg (rqcells k sz fv)] w fun e w' => e = .returned (.tuple #[.bool false, .int .i64 1]) ∧ Below w.heap.size w w' := by
  have hbx := below_new w (.cells (rqcells k sz fv) 74)
  have HKX := hid (Blk.new w 74 (rqcells k sz fv))
  have HV := hid (qwrong_none h (rqcells k sz fv) _ (hn.keep hbx))
  have HSZ := hid (rq_size hl sz fv)
  clear hn hl
  go_enter Try.func38, Try.ntmps38
  go_wp2_with (refine wpList_load_row rfl 74 _ rfl _ rfl _ _ _ _ HKX.out Try.underlying74 rfl HSZ.out ?_)
  refine HV.out.mono ?_
  rintro _ w2 ⟨rfl, hb2⟩
  have HB2 := hid (hbx.trans (hb2.mono hbx.size))
  clear hbx hb2 HV HKX
  go_wp2_with fail
  go_ret2
  exact ⟨rfl, HB2.out⟩
set_option maxRecDepth 20000 in
theorem qadd_wrong (c0 : w.cell? ⟨s, 0, none⟩ = some (.pointer (some ⟨s, 0, none⟩))) (k : LKey) (hl : k.2.length = 32) (sz : Int) (fv : Value) (b : Bool) (hr : IsR k.1 b) (e0 : Int) (he : wrongE b sz = e0) (hne : ¬ e0 = 0) : Calls Try.prog 38 #[.pointer (some ⟨s, 0, none⟩), .agg (rqcells k sz fv)] w fun e w' => e = .returned (.tuple #[.bool false, .int .i64 e0]) ∧ Below w.heap.size w w' := by
  have hbx := below_new w (.cells (rqcells k sz fv) 74)
  have HKX := hid (Blk.new w 74 (rqcells k sz fv))
  have HV := hid (qwrong_calls s k hl sz fv b hr _ (cell_keep c0 hbx))
  rw [he] at HV
  have HSZ := hid (rq_size hl sz fv)
  clear c0 hl hr he
  go_enter Try.func38, Try.ntmps38
  go_wp2_with (refine wpList_load_row rfl 74 _ rfl _ rfl _ _ _ _ HKX.out Try.underlying74 rfl HSZ.out ?_)
  refine HV.out.mono ?_
  rintro _ w2 ⟨rfl, hb2⟩
  have HB2 := hid (hbx.trans (hb2.mono hbx.size))
  clear hbx hb2 HV HKX
  go_wp2_with fail
  go_ret2
  exact ⟨rfl, HB2.out⟩
theorem PutP.lift {k : LKey} {y : Int} {W W' : World} (h : PutP W F s m u n q k y W') (hb : Below w.heap.size w W) : PutP w F s m u n q k y W' := by
  obtain ⟨F', g', h1, h2, h3⟩ := h
  exact ⟨F', g', h1, (Chg.of_below (L := F) hb).trans h2 (fun b hb' => .inl hb'), fun x hx => (h3 x hx).elim .inl (fun h4 => .inr (Nat.le_trans hb.size h4))⟩
/-- what add does for a request that can be done -/
def AddP (w : World) (F : List Nat) (s m u n : Nat) (q : QS) (k : LKey) (sz : Int) (al : Bool) (e : Ending) (w' : World) : Prop :=
  match szQ q.l k with
  | some y => (if y = sz then e = .returned (.tuple #[.bool false, .int .i64 0]) else e = .returned (.tuple #[.bool false, .int .i64 17])) ∧ Below w.heap.size w w'
  | none => if al then e = .returned (.tuple #[.bool true, .int .i64 0]) ∧ PutP w F s m u n q k sz w' else e = .returned (.tuple #[.bool false, .int .i64 11]) ∧ Below w.heap.size w w'
def add4Val (s : Nat) (m : Nat) (p : Nat) (q0 : Nat) (r : List UInt8) (id : List UInt8) (y : Int) (b : Bool) : Nat → Unit → Value
  | 0, _ => .pointer (some ⟨s, 0, none⟩)
  | 1, _ => .pointer (some ⟨s, 0, none⟩)
  | 2, _ => .pointer (some ⟨s, 2, none⟩)
  | 3, _ => .map (some m)
  | 4, _ => .pointer (some ⟨p, 0, none⟩)
  | 5, _ => kval (r, id)
  | 6, _ => .tuple #[.agg #[.int .i64 y], .bool b]
  | 7, _ => .tuple #[.agg #[.int .i64 y], .bool b]
  | 8, _ => .agg #[.int .i64 y]
  | 9, _ => .bool b
  | 10, _ => .pointer (some ⟨q0, 0, none⟩)
  | 12, _ => .bool b
  | _, _ => undef
def add9Val (s : Nat) (p : Nat) (sm : Int) (sz : Int) (r : List UInt8) (kf : FuncId) (first : Array Value) (al : Bool) : Nat → Unit → Value
  | 0, _ => .pointer (some ⟨p, 34, none⟩)
  | 1, _ => .func (.func kf) first #[]
  | 2, _ => .pointer (some ⟨s, 0, none⟩)
  | 3, _ => .pointer (some ⟨p, 0, none⟩)
  | 4, _ => .pointer (some ⟨p, 0, none⟩)
  | 5, _ => .string (strB r)
  | 6, _ => .int .i64 sm
  | 7, _ => .pointer (some ⟨p, 33, none⟩)
  | 8, _ => .int .i64 sz
  | 9, _ => .int .i64 (sm + sz)
  | 10, _ => .bool al
  | 11, _ => .bool (!al)
  | _, _ => undef
set_option maxRecDepth 20000 in
set_option maxHeartbeats 4000000 in
theorem qadd_calls (h : QtB w F s m u n q g) (r id : List UInt8) (hk : kok (r, id)) (hr128 : r.length ≤ 128) (hr : IsR r true) (sz : Int) (hy : 0 ≤ sz ∧ sz ≤ 4096) (hn : n < 60000) (hfew : q.l.length < 65536) (kf : FuncId) (first : Array Value) (al : Bool)
    (hE : ∀ args W, (callFunc kf args).run Try.prog W = .ok (.enter kf args) W) (hal : ∀ W, Below w.heap.size w W → Calls Try.prog kf (first ++ #[.int .i64 (sumQ q.l r + sz)]) W fun e w' => e = .returned (.bool al) ∧ W = w') :
    Calls Try.prog 38 #[.pointer (some ⟨s, 0, none⟩), .agg (rqcells (r, id) sz (.func (.func kf) first #[]))] w (AddP w F s m u n q (r, id) sz al) := by
--DEV
  have hbx := below_new w (.cells (rqcells (r, id) sz (.func (.func kf) first #[])) 74)
  have hkx := Blk.new w 74 (rqcells (r, id) sz (.func (.func kf) first #[]))
  have HV := hid (qwrong_calls s (r, id) hk.2 sz (.func (.func kf) first #[]) true hr _ (cell_keep h.cells.1 hbx))
  have HE := hid (show wrongE true sz = 0 from by unfold wrongE; rw [if_neg (by simp), if_neg (by omega)])
  rw [HE.out] at HV
  have HSZ := hid (rq_size (k := (r, id)) hk.2 sz (.func (.func kf) first #[]))
  have HSL := hid (size33l (k := (r, id)) hk.2)
  have HH := hid h; have HMath := hid (⟨hk, hr128, hy, hn, hfew⟩ : kok (r, id) ∧ r.length ≤ 128 ∧ (0 ≤ sz ∧ sz ≤ 4096) ∧ n < 60000 ∧ q.l.length < 65536)
  have HAL := hid hal
  have HR33 := hid (rq_33 (k := (r, id)) hk.2 sz (.func (.func kf) first #[])); have HR34 := hid (rq_34 (k := (r, id)) hk.2 sz (.func (.func kf) first #[]))
  clear h hk hr128 hr hy hn hfew hal HE
  go_enter Try.func38, Try.ntmps38
  have HKZ := hid hkx
  go_wp2_with (refine wpList_load_row rfl 74 _ rfl _ rfl _ _ _ _ HKZ.out Try.underlying74 rfl HSZ.out ?_)
  clear HKZ
  generalize w.alloc (.cells (rqcells (r, id) sz (.func (.func kf) first #[])) 74) = w1 at hbx hkx HV ⊢
  obtain ⟨p, hp⟩ : ∃ p, w.heap.size = p := ⟨_, rfl⟩
  rw [hp] at hkx ⊢
  have HKX := hid hkx; have HBX := hid hbx; have HPE := hid hp
  clear hbx hkx hp
  refine HV.out.mono ?_
  rintro _ w2 ⟨rfl, hb2⟩
  have HK2 := hid (HKX.out.keep hb2); have HB2 := hid (HBX.out.trans (hb2.mono HBX.out.size))
  clear hb2 HKX HBX HV
  go_wp2_with fail
  obtain ⟨q0, hq0⟩ : ∃ q0, w2.heap.size = q0 := ⟨_, rfl⟩
  have HQ := hid hq0
  have HC1 := hid (fun W (hb : Below w2.heap.size w2 W) => (⟨(HH.out.keep (HB2.out.trans (hb.mono HB2.out.size))).cells.1, (HH.out.keep (HB2.out.trans (hb.mono HB2.out.size))).cells.2.2.1, look_link (HH.out.keep (HB2.out.trans (hb.mono HB2.out.size))).mp HMath.out.1⟩ : W.cell? ⟨s, 0, none⟩ = some (.pointer (some ⟨s, 0, none⟩)) ∧ W.cell? ⟨s, 2, none⟩ = some (.map (some m)) ∧ (Instr.lookup 49 (.map (some m)) (kval (r, id)) true).run Try.prog W = .ok (.tuple #[.agg #[.int .i64 ((szQ q.l (r, id)).getD 0)], .bool (szQ q.l (r, id)).isSome]) W))
  have HZ := hid (show ∃ y b, (szQ q.l (r, id)).getD 0 = y ∧ (szQ q.l (r, id)).isSome = b from ⟨_, _, rfl, rfl⟩)
  obtain ⟨y, b, e1, e2⟩ := HZ.out
  rw [e1, e2] at HC1
  have HY := hid e1; have HBB := hid e2
  clear hq0 e1 e2 HZ
  refine wp_region_invG 58 () (add4Val s m p q0 r id y b) (fun f _ W => AlS w2 81 #[.int .i64 0] #[.int .i64 y] q0 10 11 f W) (by kernel_rfl) (by kernel_rfl) (by exact Nat.le_refl 58) ?_ ?_ ?_
  · exact AlS.start 13 (by decide) (by decide) HQ.out
  · intro i o f gh a W hi hf hdep hsame hcl hval hS
    rcases i with _ | _ | _ | _ | _ | _ | _ | _ | _ | _ | _ | _ | _ | i
    all_goals simp only [List.getElem?_cons_succ, List.getElem?_cons_zero, List.getElem?_nil, Option.some.injEq, reduceCtorEq] at hi
    all_goals subst hi
    · have E0 : a.tmps[0]? = some (.pointer (some ⟨s, 0, none⟩)) := (same_of hsame 0 (by rfl)).trans rfl
      refine g_plain rfl ?_
      exact does_value (w' := W) (v := .pointer (some ⟨s, 0, none⟩)) (by go_simp) ⟨(), .inr rfl, (hS.same 0 (by decide) (by decide))⟩
    · have E16 := hval 0 _ 16 rfl rfl (dep_of hdep 0 (by rfl))
      unfold add4Val at E16
      refine g_plain rfl ?_
      exact does_value (w' := W) (v := .pointer (some ⟨s, 0, none⟩)) (by go_simp) ⟨(), .inr rfl, (hS.same 1 (by decide) (by decide))⟩
    · have E17 := hval 1 _ 17 rfl rfl (dep_of hdep 1 (by rfl))
      unfold add4Val at E17
      refine g_plain rfl ?_
      exact does_value (w' := W) (v := .pointer (some ⟨s, 2, none⟩)) (by go_simp) ⟨(), .inr rfl, (hS.same 2 (by decide) (by decide))⟩
    · have E18 := hval 2 _ 18 rfl rfl (dep_of hdep 2 (by rfl))
      unfold add4Val at E18
      obtain ⟨c0, c2, hlk⟩ := HC1.out W hS.bel
      refine g_plain rfl ?_
      exact does_value (w' := W) (v := .map (some m)) (by go_simp) ⟨(), .inr rfl, (hS.same 3 (by decide) (by decide))⟩
    · have E3 : a.tmps[3]? = some (.pointer (some ⟨p, 0, none⟩)) := (same_of hsame 3 (by rfl)).trans rfl
      refine g_plain rfl ?_
      exact does_value (w' := W) (v := .pointer (some ⟨p, 0, none⟩)) (by go_simp) ⟨(), .inr rfl, (hS.same 4 (by decide) (by decide))⟩
    · have E20 := hval 4 _ 20 rfl rfl (dep_of hdep 4 (by rfl))
      unfold add4Val at E20
      refine g_plain rfl ?_
      refine does_load_part 71 _ rfl p 0 (by rw [eval_getD, E20]; rfl) (pre := []) (mid := .string (strB r) :: id.map bv) (post := [.int .i64 sz, .func (.func kf) first #[]]) (by rw [← rq_part (r, id)]; exact HK2.out.keep hS.bel) rfl Try.underlying71 rfl HSL.out ⟨(), .inr rfl, (hS.same 5 (by decide) (by decide))⟩
    · have E19 := hval 3 _ 19 rfl rfl (dep_of hdep 3 (by rfl))
      have E21 := hval 5 _ 21 rfl rfl (dep_of hdep 5 (by rfl))
      unfold add4Val at E19 E21
      obtain ⟨c0, c2, hlk⟩ := HC1.out W hS.bel
      refine g_plain rfl ?_
      exact does_value (w' := W) (v := .tuple #[.agg #[.int .i64 y], .bool b]) (by go_simp) ⟨(), .inr rfl, (hS.same 6 (by decide) (by decide))⟩
    · have E22 := hval 6 _ 22 rfl rfl (dep_of hdep 6 (by rfl))
      unfold add4Val at E22
      refine g_plain rfl ?_
      exact does_value (w' := W) (v := .tuple #[.agg #[.int .i64 y], .bool b]) (by go_simp) ⟨(), .inr rfl, (hS.same 7 (by decide) (by decide))⟩
    · have E15 := hval 7 _ 15 rfl rfl (dep_of hdep 7 (by rfl))
      unfold add4Val at E15
      refine g_plain rfl ?_
      exact does_value (w' := W) (v := .agg #[.int .i64 y]) (by go_simp) ⟨(), .inr rfl, (hS.same 8 (by decide) (by decide))⟩
    · have E15 := hval 7 _ 15 rfl rfl (dep_of hdep 7 (by rfl))
      unfold add4Val at E15
      refine g_plain rfl ?_
      exact does_value (w' := W) (v := .bool b) (by go_simp) ⟨(), .inr rfl, (hS.same 9 (by decide) (by decide))⟩
    · have hnq := hS.no hf
      refine g_plain rfl ?_
      exact does_value (w' := W.alloc (.cells #[.int .i64 0] 81)) (v := .pointer (some ⟨q0, 0, none⟩)) (by rw [← hnq]; go_simp) ⟨(), .inr rfl, (hS.lay hf (by decide))⟩
    · have E7 := hval 10 _ 7 rfl rfl (dep_of hdep 10 (by rfl))
      have E23 := hval 8 _ 23 rfl rfl (dep_of hdep 8 (by rfl))
      unfold add4Val at E7 E23
      refine g_plain rfl ?_
      exact does_store 81 _ _ rfl q0 #[.int .i64 y] (by rw [eval_getD, E7]; rfl) (by rw [eval_getD, E23]; rfl) 81 _ (hS.mid (dep_of hdep 10 (by rfl)) hf) (by kernel_rfl) rfl (by rfl) ⟨(), .inl rfl, (hS.fill (dep_of hdep 10 (by rfl)) hf (by decide))⟩
    · have E24 := hval 9 _ 24 rfl rfl (dep_of hdep 9 (by rfl))
      unfold add4Val at E24
      refine g_plain rfl ?_
      exact does_value (w' := W) (v := .bool b) (by go_simp) ⟨(), .inr rfl, (hS.same 12 (by decide) (by decide))⟩
  · intro gh w3 hS
    have HK3 := hid (HK2.out.keep hS.bel)
    have hqk := hS.fin rfl
    have HB3 := hid (HB2.out.trans (hS.bel.mono HB2.out.size))
    have cy := hqk.cell 0 (v := .int .i64 y) rfl
    have cs := HK3.out.cell 33 HR33.out
    clear hqk hS HC1 HK2 HB2
    simp only [putAll, add4Val, Nat.reduceAdd, Nat.zero_add, Act.put, List.setIfInBounds_toArray, List.set_cons_zero, List.set_cons_succ]
    cases hsz : szQ q.l (r, id) with
    | some y' =>
      have HS := hid hsz
      have hy' : y' = y := by have := HY.out; rw [hsz] at this; exact this
      have hb' : b = true := by have := HBB.out; rw [hsz] at this; exact this.symm
      subst hb'
      subst hy'
      clear hsz
      by_cases hne : y' = sz
      · have HEnd := hid (show AddP w F s m u n q (r, id) sz al (.returned (.tuple #[.bool false, .int .i64 0])) w3 from by
          unfold AddP
          rw [HS.out]
          simp only [if_pos hne]
          exact ⟨trivial, HB3.out⟩)
        have hnf : (y' == sz) = true := by simp [hne]
        go_wp2_with fail
        go_ret2
        exact HEnd.out
      · have HEnd := hid (show AddP w F s m u n q (r, id) sz al (.returned (.tuple #[.bool false, .int .i64 17])) w3 from by
          unfold AddP
          rw [HS.out]
          simp only [if_neg hne]
          exact ⟨trivial, HB3.out⟩)
        go_wp2_with fail
        go_ret2
        exact HEnd.out
    | none =>
      have HS := hid hsz
      have hb' : b = false := by have := HBB.out; rw [hsz] at this; exact this.symm
      subst hb'
      clear hsz cy
      go_wp2_with fail
      have HC1 := hid (fun W (hb : Below w3.heap.size w3 W) => (⟨(HK3.out.keep hb).cell 0 (rq_0 _ _ _), (HK3.out.keep hb).cell 33 HR33.out, (HK3.out.keep hb).cell 34 HR34.out⟩ : W.cell? ⟨p, 0, none⟩ = some (.string (strB r)) ∧ W.cell? ⟨p, 33, none⟩ = some (.int .i64 sz) ∧ W.cell? ⟨p, 34, none⟩ = some (.func (.func kf) first #[])))
      have HU := hid (fun W (hb : Below w3.heap.size w3 W) => quse_calls (HH.out.keep (HB3.out.trans (hb.mono HB3.out.size))) r HMath.out.1.1)
      have HAL3 := hid (fun W (hb : Below w3.heap.size w3 W) => HAL.out W (HB3.out.trans (hb.mono HB3.out.size)))
      have HW := hid (show IntKind.i64.wrap (sumQ q.l r + sz) = sumQ q.l r + sz from IntWalk.i64_in _ (by have := HH.out.ok.sum r; have := HMath.out.2.2.1; omega))
      generalize sumQ q.l r = sm at HU HAL3 HW
      obtain ⟨args, ha⟩ : ∃ args : Array Value, args = first ++ #[.int .i64 (sm + sz)] := ⟨_, rfl⟩
      rw [← ha] at HAL3
      have HA := hid ha
      clear ha
      clear HAL cs
      refine wp_region_invG 58 () (add9Val s p sm sz r kf first al) (fun _ _ W => Below w3.heap.size w3 W) (by kernel_rfl) (by kernel_rfl) (by exact Nat.le_refl 58) ?_ ?_ ?_
      · exact (Below.refl _ _).drew
      · intro i o f gh a W hi hf hdep hsame hcl hval hS
        rcases i with _ | _ | _ | _ | _ | _ | _ | _ | _ | _ | _ | _ | i
        all_goals simp only [List.getElem?_cons_succ, List.getElem?_cons_zero, List.getElem?_nil, Option.some.injEq, reduceCtorEq] at hi
        all_goals subst hi
        · have E3 : a.tmps[3]? = some (.pointer (some ⟨p, 0, none⟩)) := (same_of hsame 3 (by rfl)).trans rfl
          refine g_plain rfl ?_
          exact does_value (w' := W) (v := .pointer (some ⟨p, 34, none⟩)) (by go_simp) ⟨(), .inr rfl, hS⟩
        · have E34 := hval 0 _ 34 rfl rfl (dep_of hdep 0 (by rfl))
          unfold add9Val at E34
          obtain ⟨cp, cp33, cp34⟩ := HC1.out W hS
          refine g_plain rfl ?_
          exact does_value (w' := W) (v := .func (.func kf) first #[]) (by go_simp) ⟨(), .inr rfl, hS⟩
        · have E0 : a.tmps[0]? = some (.pointer (some ⟨s, 0, none⟩)) := (same_of hsame 0 (by rfl)).trans rfl
          refine g_plain rfl ?_
          exact does_value (w' := W) (v := .pointer (some ⟨s, 0, none⟩)) (by go_simp) ⟨(), .inr rfl, hS⟩
        · have E3 : a.tmps[3]? = some (.pointer (some ⟨p, 0, none⟩)) := (same_of hsame 3 (by rfl)).trans rfl
          refine g_plain rfl ?_
          exact does_value (w' := W) (v := .pointer (some ⟨p, 0, none⟩)) (by go_simp) ⟨(), .inr rfl, hS⟩
        · have E37 := hval 3 _ 37 rfl rfl (dep_of hdep 3 (by rfl))
          unfold add9Val at E37
          refine g_plain rfl ?_
          exact does_value (w' := W) (v := .pointer (some ⟨p, 0, none⟩)) (by go_simp) ⟨(), .inr rfl, hS⟩
        · have E38 := hval 4 _ 38 rfl rfl (dep_of hdep 4 (by rfl))
          unfold add9Val at E38
          obtain ⟨cp, cp33, cp34⟩ := HC1.out W hS
          refine g_plain rfl ?_
          exact does_value (w' := W) (v := .string (strB r)) (by go_simp) ⟨(), .inr rfl, hS⟩
        · have E36 := hval 2 _ 36 rfl rfl (dep_of hdep 2 (by rfl))
          have E39 := hval 5 _ 39 rfl rfl (dep_of hdep 5 (by rfl))
          unfold add9Val at E36 E39
          refine g_plain rfl ?_
          refine does_call 29 #[.pointer (some ⟨s, 0, none⟩), .string (strB r)] (by go_simp) ((HU.out W hS).mono ?_)
          rintro _ _ ⟨rfl, rfl⟩
          exact ⟨_, rfl, (), .inr rfl, hS⟩
        · have E3 : a.tmps[3]? = some (.pointer (some ⟨p, 0, none⟩)) := (same_of hsame 3 (by rfl)).trans rfl
          refine g_plain rfl ?_
          exact does_value (w' := W) (v := .pointer (some ⟨p, 33, none⟩)) (by go_simp) ⟨(), .inr rfl, hS⟩
        · have E41 := hval 7 _ 41 rfl rfl (dep_of hdep 7 (by rfl))
          unfold add9Val at E41
          obtain ⟨cp, cp33, cp34⟩ := HC1.out W hS
          refine g_plain rfl ?_
          exact does_value (w' := W) (v := .int .i64 sz) (by go_simp) ⟨(), .inr rfl, hS⟩
        · have E40 := hval 6 _ 40 rfl rfl (dep_of hdep 6 (by rfl))
          have E42 := hval 8 _ 42 rfl rfl (dep_of hdep 8 (by rfl))
          unfold add9Val at E40 E42
          have hw := HW.out
          refine g_plain rfl ?_
          exact does_value (w' := W) (v := .int .i64 (sm + sz)) (by go_simp) ⟨(), .inr rfl, hS⟩
        · have E35 := hval 1 _ 35 rfl rfl (dep_of hdep 1 (by rfl))
          have E43 := hval 9 _ 43 rfl rfl (dep_of hdep 9 (by rfl))
          unfold add9Val at E35 E43
          refine g_plain rfl ?_
          have hc := HAL3.out W hS
          have h1 : a.eval (.tmp 35) = .func (.func kf) first #[] := by rw [eval_getD, E35]; rfl
          have h2 : a.eval (.tmp 43) = .int .i64 (sm + sz) := by rw [eval_getD, E43]; rfl
          have hA := HA.out
          refine does_call kf args (by rw [hA]; exact run_callv hE rfl h1 h2 W) (hc.mono ?_)
          rintro _ _ ⟨rfl, rfl⟩
          exact ⟨_, rfl, (), .inr rfl, hS⟩
        · have E44 := hval 10 _ 44 rfl rfl (dep_of hdep 10 (by rfl))
          unfold add9Val at E44
          refine g_plain rfl ?_
          exact does_value (w' := W) (v := .bool (!al)) (by go_simp) ⟨(), .inr rfl, hS⟩
      · intro gh w4 hS
        have HB4 := hid (HB3.out.trans (hS.mono HB3.out.size))
        have hk4 := HK3.out.keep hS
        have cs := hk4.cell 33 HR33.out
        have HK4 := hid hk4
        clear hS HC1 HU HAL3 HW HK3
        simp only [putAll, add9Val, Nat.reduceAdd, Nat.zero_add, Act.put, List.setIfInBounds_toArray, List.set_cons_zero, List.set_cons_succ]
        cases al with
        | false =>
          have HEnd := hid (show AddP w F s m u n q (r, id) sz false (.returned (.tuple #[.bool false, .int .i64 11])) w4 from by
            unfold AddP
            rw [HS.out]
            exact ⟨rfl, HB4.out⟩)
          go_wp2_with fail
          go_ret2
          exact HEnd.out
        | true =>
          have h4 := HH.out.keep HB4.out
          have c2 := h4.cells.2.2.1
          obtain ⟨len, hlen, hrun⟩ := h4.mp.len Try.underlying49 3
          have hlt : ¬ (65536 : Int) ≤ (len : Int) := by have := HMath.out.2.2.2.1; omega
          have hlt2 : ¬ 65536 ≤ len := by omega
          have HP := hid (show Calls Try.prog 55 #[.pointer (some ⟨s, 0, none⟩), kval (r, id), .int .i64 sz] w4 fun e w' => e = .returned (.tuple #[]) ∧ PutP w4 F s m u n q (r, id) sz w' from by
            have h2 := HMath.out.2.2.2.1
            cases hg : g r with
            | none => exact qputNew_calls h4 r id HMath.out.1 HMath.out.2.1 HS.out sz HMath.out.2.2.1 HMath.out.2.2.2.2 (by omega) hg
            | some b1 => exact qputOld_calls h4 r id HMath.out.1 HMath.out.2.1 HS.out sz HMath.out.2.2.1 HMath.out.2.2.2.2 (by omega) b1 hg)
          have HPT := hid (show Blk w4 p 74 (part [] (.string (strB r) :: id.map bv) [.int .i64 sz, .func (.func kf) first #[]]) from by rw [← rq_part (r, id)]; exact HK4.out)
          have HL4 := hid h4.lt
          clear h4 hlen HK4
          go_wp2_with (first | (refine wpList_load_part rfl 71 _ rfl p 0 rfl HPT.out rfl Try.underlying71 rfl HSL.out ?_))
          refine HP.out.mono ?_
          rintro _ w5 ⟨rfl, hp5⟩
          have HEnd := hid (show AddP w F s m u n q (r, id) sz true (.returned (.tuple #[.bool true, .int .i64 0])) w5 from by
            unfold AddP
            rw [HS.out]
            exact ⟨rfl, hp5.lift HB4.out⟩)
          clear hp5 HP hrun
          go_wp2_with fail
          go_ret2
          exact HEnd.out
--VED
end
end Go.Proofs.Ytjgnbmkhibdcfaa
