/- Contracts of package quota: Link, Lay, Mount. Written by tools/mkqt.py out of XQtLink.tpl. -/
import Derived.Test.YtjgnbmkhibdcfaaQtAdd
namespace Go.Proofs.Ytjgnbmkhibdcfaa
open Go.RowKit

theorem wpList_bld {P : Program} {ops : Array Oper} {rest : List Oper} {o : Oper} {a : Act} {w : World} {Q : Exit → Act → World → Prop} (hg : o.guard = none) (t : TypeId) (parts : Array (Nat × Operand)) (ho : o.op = .build t parts) {ps : Array (Nat × Value)} {v : Value} (hp : parts.map (fun x => (x.1, a.eval x.2)) = ps)
    (hr : (Instr.build t ps).run P w = .ok v w) (h : wpList P ops Q rest (a.put o.dst v) w) : wpList P ops Q (o :: rest) a w :=
  wpList_plain hg fun K hK' => does_build (T := fun v2 w2 => v2 = v ∧ w2 = w) t parts ho hp hr ⟨rfl, rfl⟩ K Q (by rintro _ _ ⟨rfl, rfl⟩; exact hK' _ _ h)
section
variable {w w' : World} {F : List Nat} {s m u n : Nat} {q : QS} {g : List UInt8 → Option Nat}
theorem AddP.form {k : LKey} {sz : Int} {al : Bool} {e : Ending} (h : AddP w F s m u n q k sz al e w') : ∃ x y, e = .returned (.tuple #[.bool x, .int .i64 y]) := by
  unfold AddP at h
  cases hs : szQ q.l k with
  | some y =>
    rw [hs] at h
    dsimp only at h
    split at h
    · exact ⟨_, _, h.1⟩
    · exact ⟨_, _, h.1⟩
  | none =>
    rw [hs] at h
    dsimp only at h
    split at h
    · exact ⟨_, _, h.1⟩
    · exact ⟨_, _, h.1⟩
theorem AddP.lift {k : LKey} {sz : Int} {al : Bool} {e : Ending} {W : World} (h : AddP W F s m u n q k sz al e w') (hb : Below w.heap.size w W) : AddP w F s m u n q k sz al e w' := by
  unfold AddP at h ⊢
  cases hs : szQ q.l k with
  | some y =>
    rw [hs] at h
    exact ⟨h.1, hb.trans (h.2.mono hb.size)⟩
  | none =>
    rw [hs] at h
    dsimp only at h ⊢
    split at h
    · rename_i ht
      rw [if_pos ht]
      exact ⟨h.1, h.2.lift hb⟩
    · rename_i ht
      rw [if_neg ht]
      exact ⟨h.1, hb.trans (h.2.mono hb.size)⟩
theorem mkf (fn : Fn) (first cap : Array Value) (w : World) : (Instr.makeFunc fn first cap).run Try.prog w = .ok (.func fn first cap) w := rfl
def wlV (s : Nat) : Value := .func (.func 39) #[.pointer (some ⟨s, 0, none⟩)] #[]
def woV : Value := .func (.func 43) #[] #[]
theorem qwithout_calls (x : Int) (w : World) : Calls Try.prog 43 #[.int .i64 x] w fun e w' => e = .returned (.bool true) ∧ w = w' := by
  go_enter Try.func43, Try.ntmps43
  go_wp2_with fail
  go_ret
  exact ⟨rfl, rfl⟩
set_option maxRecDepth 20000 in
set_option maxHeartbeats 1000000 in
/-- Link, by whatever add does -/
theorem qlink_door (h : Value) (hp : ∃ p, h = .pointer p) (r id : List UInt8) (hl : id.length = 32) (sz : Int) (R : Ending → World → Prop)
    (hadd : ∀ W p, h = .pointer p → Below w.heap.size w W → Calls Try.prog 38 #[h, .agg (rqcells (r, id) sz (.func (.func 39) #[h] #[]))] W R) (hR : ∀ e W, R e W → ∃ x y, e = .returned (.tuple #[.bool x, .int .i64 y])) :
    Calls Try.prog 11 #[h, .string (strB r), .agg (bcells id), .int .i64 sz] w R := by
  obtain ⟨pp, rfl⟩ := hp
  have HKX := hid (Blk.new w 32 (bcells id))
  have HSZ := hid (size32 hl)
  have HB1 := hid (fun W => run_build_link (r, id) hl W)
  have HB2 := hid (fun W => run_build_rq (r, id) hl sz (.func 39) #[.pointer pp] #[] W)
  have HA := hid (hadd _ pp rfl (below_new w (.cells (bcells id) 32)))
  have HR := hid hR
  have hmk := mkf
  clear hadd hR hl
  go_enter Try.func11, Try.ntmps11
  go_wp2_with (first | (refine wpList_load_row rfl 32 _ rfl _ rfl _ _ _ _ HKX.out Try.underlying32 rfl HSZ.out ?_) | (refine wpList_bld rfl 71 _ rfl (ps := #[(0, .string (strB r)), (1, .agg (bcells id))]) (by simp only [List.map_toArray, List.map_cons, List.map_nil]; rfl) (HB1.out _) ?_) | (refine wpList_bld rfl 74 _ rfl (ps := #[(0, kval (r, id)), (1, .int .i64 sz), (2, .func (.func 39) #[.pointer pp] #[])]) (by simp only [List.map_toArray, List.map_cons, List.map_nil]; rfl) (HB2.out _) ?_))
  refine HA.out.mono ?_
  intro e w2 hr
  obtain ⟨x, y, rfl⟩ := HR.out e w2 hr
  have HX := hid hr
  clear hr HA HR HKX
  go_wp2_with fail
  exact HX.out
set_option maxRecDepth 20000 in
set_option maxHeartbeats 1000000 in
theorem qlay_door (h : Value) (hp : ∃ p, h = .pointer p) (r id : List UInt8) (hl : id.length = 32) (sz : Int) (R : Ending → World → Prop)
    (hadd : ∀ W p, h = .pointer p → Below w.heap.size w W → Calls Try.prog 38 #[h, .agg (rqcells (r, id) sz woV)] W R) (hR : ∀ e W, R e W → ∃ x y, e = .returned (.tuple #[.bool x, .int .i64 y])) :
    Calls Try.prog 13 #[h, .string (strB r), .agg (bcells id), .int .i64 sz] w R := by
  obtain ⟨pp, rfl⟩ := hp
  have HKX := hid (Blk.new w 32 (bcells id))
  have HSZ := hid (size32 hl)
  have HB1 := hid (fun W => run_build_link (r, id) hl W)
  have HB2 := hid (fun W => run_build_rq (r, id) hl sz (.func 43) #[] #[] W)
  have HA := hid (hadd _ pp rfl (below_new w (.cells (bcells id) 32)))
  unfold woV at HA
  have HR := hid hR
  clear hadd hR hl
  go_enter Try.func13, Try.ntmps13
  go_wp2_with (first | (refine wpList_load_row rfl 32 _ rfl _ rfl _ _ _ _ HKX.out Try.underlying32 rfl HSZ.out ?_) | (refine wpList_bld rfl 71 _ rfl (ps := #[(0, .string (strB r)), (1, .agg (bcells id))]) (by simp only [List.map_toArray, List.map_cons, List.map_nil]; rfl) (HB1.out _) ?_) | (refine wpList_bld rfl 74 _ rfl (ps := #[(0, kval (r, id)), (1, .int .i64 sz), (2, .func (.func 43) #[] #[])]) (by simp only [List.map_toArray, List.map_cons, List.map_nil]; rfl) (HB2.out _) ?_))
  refine HA.out.mono ?_
  intro e w2 hr
  obtain ⟨x, y, rfl⟩ := HR.out e w2 hr
  have HX := hid hr
  clear hr HA HR HKX
  go_wp2_with fail
  exact HX.out
theorem noObj_ptr {h : Value} (hn : NoObj w h) : ∃ p, h = .pointer p := by
  rcases hn with rfl | ⟨g, rfl, _⟩
  · exact ⟨_, rfl⟩
  · exact ⟨_, rfl⟩
theorem qlink_none (h : Value) (hn : NoObj w h) (r id : List UInt8) (hl : id.length = 32) (sz : Int) : Calls Try.prog 11 #[h, .string (strB r), .agg (bcells id), .int .i64 sz] w fun e w' => e = .returned (.tuple #[.bool false, .int .i64 1]) ∧ Below w.heap.size w w' :=
  qlink_door h (noObj_ptr hn) r id hl sz _ (fun _ _ _ hb => (qadd_none h (r, id) hl sz _ (hn.keep hb)).mono fun _ _ ⟨e, hb2⟩ => ⟨e, hb.trans (hb2.mono hb.size)⟩) (fun _ _ h => ⟨_, _, h.1⟩)
theorem qlay_none (h : Value) (hn : NoObj w h) (r id : List UInt8) (hl : id.length = 32) (sz : Int) : Calls Try.prog 13 #[h, .string (strB r), .agg (bcells id), .int .i64 sz] w fun e w' => e = .returned (.tuple #[.bool false, .int .i64 1]) ∧ Below w.heap.size w w' :=
  qlay_door h (noObj_ptr hn) r id hl sz _ (fun _ _ _ hb => (qadd_none h (r, id) hl sz _ (hn.keep hb)).mono fun _ _ ⟨e, hb2⟩ => ⟨e, hb.trans (hb2.mono hb.size)⟩) (fun _ _ h => ⟨_, _, h.1⟩)
theorem qlink_calls (h : QtB w F s m u n q g) (r id : List UInt8) (hk : kok (r, id)) (hr128 : r.length ≤ 128) (hr : IsR r true) (sz : Int) (hy : 0 ≤ sz ∧ sz ≤ 4096) (hn : n < 60000) (hfew : q.l.length < 65536) :
    Calls Try.prog 11 #[.pointer (some ⟨s, 0, none⟩), .string (strB r), .agg (bcells id), .int .i64 sz] w (AddP w F s m u n q (r, id) sz (decide (sumQ q.l r + sz ≤ q.limit))) :=
  qlink_door _ ⟨_, rfl⟩ r id hk.2 sz _ (fun _ _ _ hb => (qadd_calls (h.keep hb) r id hk hr128 hr sz hy hn hfew 39 #[.pointer (some ⟨s, 0, none⟩)] (decide (sumQ q.l r + sz ≤ q.limit)) (enters_of Try.func39 (by kernel_rfl) rfl)
    (fun _ hb' => qwithin_calls ((h.keep hb).keep hb') _)).mono fun _ _ ha => ha.lift hb) (fun _ _ h => h.form)
theorem qlay_calls (h : QtB w F s m u n q g) (r id : List UInt8) (hk : kok (r, id)) (hr128 : r.length ≤ 128) (hr : IsR r true) (sz : Int) (hy : 0 ≤ sz ∧ sz ≤ 4096) (hn : n < 60000) (hfew : q.l.length < 65536) :
    Calls Try.prog 13 #[.pointer (some ⟨s, 0, none⟩), .string (strB r), .agg (bcells id), .int .i64 sz] w (AddP w F s m u n q (r, id) sz true) :=
  qlay_door _ ⟨_, rfl⟩ r id hk.2 sz _ (fun _ _ _ hb => (qadd_calls (h.keep hb) r id hk hr128 hr sz hy hn hfew 43 #[] true (enters_of Try.func43 (by kernel_rfl) rfl)
    (fun W' _ => qwithout_calls _ W')).mono fun _ _ ha => ha.lift hb) (fun _ _ h => h.form)
theorem qlink_wrong (c0 : w.cell? ⟨s, 0, none⟩ = some (.pointer (some ⟨s, 0, none⟩))) (r id : List UInt8) (hl : id.length = 32) (sz : Int) (b : Bool) (hr : IsR r b) (e0 : Int) (he : wrongE b sz = e0) (hne : ¬ e0 = 0) :
    Calls Try.prog 11 #[.pointer (some ⟨s, 0, none⟩), .string (strB r), .agg (bcells id), .int .i64 sz] w fun e w' => e = .returned (.tuple #[.bool false, .int .i64 e0]) ∧ Below w.heap.size w w' :=
  qlink_door _ ⟨_, rfl⟩ r id hl sz _ (fun _ _ _ hb => (qadd_wrong (cell_keep c0 hb) (r, id) hl sz _ b hr e0 he hne).mono fun _ _ ⟨e, hb2⟩ => ⟨e, hb.trans (hb2.mono hb.size)⟩) (fun _ _ h => ⟨_, _, h.1⟩)
theorem qlay_wrong (c0 : w.cell? ⟨s, 0, none⟩ = some (.pointer (some ⟨s, 0, none⟩))) (r id : List UInt8) (hl : id.length = 32) (sz : Int) (b : Bool) (hr : IsR r b) (e0 : Int) (he : wrongE b sz = e0) (hne : ¬ e0 = 0) :
    Calls Try.prog 13 #[.pointer (some ⟨s, 0, none⟩), .string (strB r), .agg (bcells id), .int .i64 sz] w fun e w' => e = .returned (.tuple #[.bool false, .int .i64 e0]) ∧ Below w.heap.size w w' :=
  qlay_door _ ⟨_, rfl⟩ r id hl sz _ (fun _ _ _ hb => (qadd_wrong (cell_keep c0 hb) (r, id) hl sz _ b hr e0 he hne).mono fun _ _ ⟨e, hb2⟩ => ⟨e, hb.trans (hb2.mono hb.size)⟩) (fun _ _ h => ⟨_, _, h.1⟩)
theorem qmount_none (h : Value) (hn : NoObj w h) (a b : Value) (id : List UInt8) : Calls Try.prog 14 #[h, a, b, .agg (bcells id)] w fun e w' => e = .returned (.tuple #[.bool false, .int .i64 1]) ∧ Below w.heap.size w w' := by
  have HB := hid (below_new w (.cells (bcells id) 32))
  have HV := hid (qvalid_none h _ (hn.keep HB.out))
  clear hn
  go_enter Try.func14, Try.ntmps14
  go_wp2_with (first | (refine HV.out.mono ?_; rintro _ _ ⟨rfl, rfl⟩))
  go_ret2
  exact ⟨rfl, HB.out⟩
theorem qmount_name (c0 : w.cell? ⟨s, 0, none⟩ = some (.pointer (some ⟨s, 0, none⟩))) (r t id : List UInt8) (b1 b2 : Bool) (h1 : IsR r b1) (h2 : IsR t b2) (hb : b1 = false ∨ b2 = false) :
    Calls Try.prog 14 #[.pointer (some ⟨s, 0, none⟩), .string (strB r), .string (strB t), .agg (bcells id)] w fun e w' => e = .returned (.tuple #[.bool false, .int .i64 7]) ∧ Below w.heap.size w w' := by
  have hbx := below_new w (.cells (bcells id) 32)
  have HV := hid (qvalid_calls s _ (cell_keep c0 hbx))
  have HB := hid hbx
  have H1 := hid h1; have H2 := hid h2
  clear c0 h1 h2 hbx
  go_enter Try.func14, Try.ntmps14
  go_wp2_with (first | (refine HV.out.mono ?_; rintro _ _ ⟨rfl, rfl⟩))
  refine (H1.out _).mono ?_
  rintro _ w2 ⟨rfl, hb2⟩
  have HB2 := hid (HB.out.trans (hb2.mono HB.out.size))
  clear hb2 HB HV
  cases b1 with
  | false =>
    go_wp2_with fail
    go_ret2
    exact ⟨rfl, HB2.out⟩
  | true =>
    obtain rfl : b2 = false := by simpa using hb
    go_wp2_with fail
    refine (H2.out _).mono ?_
    rintro _ w3 ⟨rfl, hb3⟩
    have HB3 := hid (HB2.out.trans (hb3.mono HB2.out.size))
    clear hb3 HB2
    go_wp2_with fail
    go_ret2
    exact ⟨rfl, HB3.out⟩
def mountVal (s : Nat) (m : Nat) (q0 : Nat) (r : List UInt8) (id : List UInt8) (y : Int) (b : Bool) : Nat → Unit → Value
  | 0, _ => .pointer (some ⟨s, 0, none⟩)
  | 1, _ => .pointer (some ⟨s, 0, none⟩)
  | 2, _ => .pointer (some ⟨s, 2, none⟩)
  | 3, _ => .map (some m)
  | 4, _ => .string (strB r)
  | 5, _ => .agg (bcells id)
  | 6, _ => kval (r, id)
  | 7, _ => .tuple #[.agg #[.int .i64 y], .bool b]
  | 8, _ => .tuple #[.agg #[.int .i64 y], .bool b]
  | 9, _ => .agg #[.int .i64 y]
  | 10, _ => .bool b
  | 11, _ => .pointer (some ⟨q0, 0, none⟩)
  | 13, _ => .bool b
  | _, _ => undef
/-- what Mount does between repositories -/
def MountP (w : World) (F : List Nat) (s m u n : Nat) (q : QS) (k t : LKey) (e : Ending) (w' : World) : Prop :=
  match szQ q.l k with
  | none => e = .returned (.tuple #[.bool false, .int .i64 14]) ∧ Below w.heap.size w w'
  | some y => AddP w F s m u n q t y (decide (sumQ q.l t.1 + y ≤ q.limit)) e w'
set_option maxRecDepth 20000 in
set_option maxHeartbeats 1000000 in
theorem qmount_calls (h : QtB w F s m u n q g) (r t id : List UInt8) (hk : kok (r, id)) (ht : kok (t, id)) (ht128 : t.length ≤ 128) (h1 : IsR r true) (h2 : IsR t true) (hn : n < 60000) (hfew : q.l.length < 65536) :
    Calls Try.prog 14 #[.pointer (some ⟨s, 0, none⟩), .string (strB r), .string (strB t), .agg (bcells id)] w (MountP w F s m u n q (r, id) (t, id)) := by
  have hbx := below_new w (.cells (bcells id) 32)
  have hkx := Blk.new w 32 (bcells id)
  have HV := hid (qvalid_calls s _ (cell_keep h.cells.1 hbx))
  have HSZ := hid (size32 hk.2)
  have HBL := hid (fun W => run_build_link (r, id) hk.2 W)
  have HH := hid h; have HMath := hid (⟨hk, ht, ht128, hn, hfew⟩ : kok (r, id) ∧ kok (t, id) ∧ t.length ≤ 128 ∧ n < 60000 ∧ q.l.length < 65536)
  have H1 := hid h1; have H2 := hid h2
  clear h hk ht ht128 hn hfew h1 h2
  go_enter Try.func14, Try.ntmps14
  go_wp2_with fail
  generalize w.alloc (.cells (bcells id) 32) = w1 at hbx hkx HV ⊢
  obtain ⟨p, hp⟩ : ∃ p, w.heap.size = p := ⟨_, rfl⟩
  rw [hp] at hkx ⊢
  have HKX := hid hkx; have HBX := hid hbx
  clear hbx hkx hp
  refine HV.out.mono ?_
  rintro _ _ ⟨rfl, rfl⟩
  go_wp2_with fail
  refine (H1.out _).mono ?_
  rintro _ w2 ⟨rfl, hb2⟩
  have HK2 := hid (HKX.out.keep hb2); have HB2 := hid (HBX.out.trans (hb2.mono HBX.out.size))
  clear hb2 HKX HBX HV
  go_wp2_with fail
  refine (H2.out _).mono ?_
  rintro _ w3 ⟨rfl, hb3⟩
  have HK := hid (HK2.out.keep hb3); have HB3 := hid (HB2.out.trans (hb3.mono HB2.out.size))
  clear hb3 HK2 HB2
  go_wp2_with fail
  obtain ⟨q0, hq0⟩ : ∃ q0, w3.heap.size = q0 := ⟨_, rfl⟩
  have HQ := hid hq0
  have HC1 := hid (fun W (hb : Below w3.heap.size w3 W) => (⟨(HH.out.keep (HB3.out.trans (hb.mono HB3.out.size))).cells.1, (HH.out.keep (HB3.out.trans (hb.mono HB3.out.size))).cells.2.2.1, look_link (HH.out.keep (HB3.out.trans (hb.mono HB3.out.size))).mp HMath.out.1⟩ : W.cell? ⟨s, 0, none⟩ = some (.pointer (some ⟨s, 0, none⟩)) ∧ W.cell? ⟨s, 2, none⟩ = some (.map (some m)) ∧ (Instr.lookup 49 (.map (some m)) (kval (r, id)) true).run Try.prog W = .ok (.tuple #[.agg #[.int .i64 ((szQ q.l (r, id)).getD 0)], .bool (szQ q.l (r, id)).isSome]) W))
  have HZ := hid (show ∃ y b, (szQ q.l (r, id)).getD 0 = y ∧ (szQ q.l (r, id)).isSome = b from ⟨_, _, rfl, rfl⟩)
  obtain ⟨y, b, e1, e2⟩ := HZ.out
  rw [e1, e2] at HC1
  have HY := hid e1; have HBB := hid e2
  clear hq0 e1 e2 HZ
  refine wp_region_invG 44 () (mountVal s m q0 r id y b) (fun f _ W => AlS w3 81 #[.int .i64 0] #[.int .i64 y] q0 11 12 f W) (by kernel_rfl) (by kernel_rfl) (by exact Nat.le_refl 44) ?_ ?_ ?_
  · exact AlS.start 14 (by decide) (by decide) HQ.out
  · intro i o f gh a W hi hf hdep hsame hcl hval hS
    rcases i with _ | _ | _ | _ | _ | _ | _ | _ | _ | _ | _ | _ | _ | _ | i
    all_goals simp only [List.getElem?_cons_succ, List.getElem?_cons_zero, List.getElem?_nil, Option.some.injEq, reduceCtorEq] at hi
    all_goals subst hi
    · have E0 : a.tmps[0]? = some (.pointer (some ⟨s, 0, none⟩)) := (same_of hsame 0 (by rfl)).trans rfl
      refine g_plain rfl ?_
      exact does_value (w' := W) (v := .pointer (some ⟨s, 0, none⟩)) (by go_simp) ⟨(), .inr rfl, (hS.same 0 (by decide) (by decide))⟩
    · have E24 := hval 0 _ 24 rfl rfl (dep_of hdep 0 (by rfl))
      unfold mountVal at E24
      refine g_plain rfl ?_
      exact does_value (w' := W) (v := .pointer (some ⟨s, 0, none⟩)) (by go_simp) ⟨(), .inr rfl, (hS.same 1 (by decide) (by decide))⟩
    · have E25 := hval 1 _ 25 rfl rfl (dep_of hdep 1 (by rfl))
      unfold mountVal at E25
      refine g_plain rfl ?_
      exact does_value (w' := W) (v := .pointer (some ⟨s, 2, none⟩)) (by go_simp) ⟨(), .inr rfl, (hS.same 2 (by decide) (by decide))⟩
    · have E26 := hval 2 _ 26 rfl rfl (dep_of hdep 2 (by rfl))
      unfold mountVal at E26
      obtain ⟨c0, c2, hlk⟩ := HC1.out W hS.bel
      refine g_plain rfl ?_
      exact does_value (w' := W) (v := .map (some m)) (by go_simp) ⟨(), .inr rfl, (hS.same 3 (by decide) (by decide))⟩
    · have E1 : a.tmps[1]? = some (.string (strB r)) := (same_of hsame 1 (by rfl)).trans rfl
      refine g_plain rfl ?_
      exact does_value (w' := W) (v := .string (strB r)) (by go_simp) ⟨(), .inr rfl, (hS.same 4 (by decide) (by decide))⟩
    · have E7 : a.tmps[7]? = some (.pointer (some ⟨p, 0, none⟩)) := (same_of hsame 7 (by rfl)).trans rfl
      refine g_plain rfl ?_
      exact does_load _ _ rfl p (by rw [eval_getD, E7]; rfl) _ (HK.out.keep hS.bel) _ Try.underlying32 rfl HSZ.out ⟨(), .inr rfl, (hS.same 5 (by decide) (by decide))⟩
    · have E28 := hval 4 _ 28 rfl rfl (dep_of hdep 4 (by rfl))
      have E29 := hval 5 _ 29 rfl rfl (dep_of hdep 5 (by rfl))
      unfold mountVal at E28 E29
      refine g_plain rfl ?_
      refine does_build 71 _ rfl (ps := #[(0, .string (strB r)), (1, .agg (bcells id))]) ?_ (HBL.out W) ⟨(), .inr rfl, (hS.same 6 (by decide) (by decide))⟩
      simp only [List.map_toArray, List.map_cons, List.map_nil, eval_getD, E28, E29, Option.getD_some]
    · have E27 := hval 3 _ 27 rfl rfl (dep_of hdep 3 (by rfl))
      have E30 := hval 6 _ 30 rfl rfl (dep_of hdep 6 (by rfl))
      unfold mountVal at E27 E30
      obtain ⟨c0, c2, hlk⟩ := HC1.out W hS.bel
      refine g_plain rfl ?_
      exact does_value (w' := W) (v := .tuple #[.agg #[.int .i64 y], .bool b]) (by go_simp) ⟨(), .inr rfl, (hS.same 7 (by decide) (by decide))⟩
    · have E31 := hval 7 _ 31 rfl rfl (dep_of hdep 7 (by rfl))
      unfold mountVal at E31
      refine g_plain rfl ?_
      exact does_value (w' := W) (v := .tuple #[.agg #[.int .i64 y], .bool b]) (by go_simp) ⟨(), .inr rfl, (hS.same 8 (by decide) (by decide))⟩
    · have E23 := hval 8 _ 23 rfl rfl (dep_of hdep 8 (by rfl))
      unfold mountVal at E23
      refine g_plain rfl ?_
      exact does_value (w' := W) (v := .agg #[.int .i64 y]) (by go_simp) ⟨(), .inr rfl, (hS.same 9 (by decide) (by decide))⟩
    · have E23 := hval 8 _ 23 rfl rfl (dep_of hdep 8 (by rfl))
      unfold mountVal at E23
      refine g_plain rfl ?_
      exact does_value (w' := W) (v := .bool b) (by go_simp) ⟨(), .inr rfl, (hS.same 10 (by decide) (by decide))⟩
    · have hnq := hS.no hf
      refine g_plain rfl ?_
      exact does_value (w' := W.alloc (.cells #[.int .i64 0] 81)) (v := .pointer (some ⟨q0, 0, none⟩)) (by rw [← hnq]; go_simp) ⟨(), .inr rfl, (hS.lay hf (by decide))⟩
    · have E10 := hval 11 _ 10 rfl rfl (dep_of hdep 11 (by rfl))
      have E32 := hval 9 _ 32 rfl rfl (dep_of hdep 9 (by rfl))
      unfold mountVal at E10 E32
      refine g_plain rfl ?_
      exact does_store 81 _ _ rfl q0 #[.int .i64 y] (by rw [eval_getD, E10]; rfl) (by rw [eval_getD, E32]; rfl) 81 _ (hS.mid (dep_of hdep 11 (by rfl)) hf) (by kernel_rfl) rfl (by rfl) ⟨(), .inl rfl, (hS.fill (dep_of hdep 11 (by rfl)) hf (by decide))⟩
    · have E33 := hval 10 _ 33 rfl rfl (dep_of hdep 10 (by rfl))
      unfold mountVal at E33
      refine g_plain rfl ?_
      exact does_value (w' := W) (v := .bool b) (by go_simp) ⟨(), .inr rfl, (hS.same 13 (by decide) (by decide))⟩
  · intro gh w4 hS
    have HK4 := hid (HK.out.keep hS.bel)
    have hqk := hS.fin rfl
    have HB4 := hid (HB3.out.trans (hS.bel.mono HB3.out.size))
    have cy := hqk.cell 0 (v := .int .i64 y) rfl
    clear hqk hS HC1 HK HBL
    simp only [putAll, mountVal, Nat.reduceAdd, Nat.zero_add, Act.put, List.setIfInBounds_toArray, List.set_cons_zero, List.set_cons_succ]
    cases hsz : szQ q.l (r, id) with
    | none =>
      have HEnd := hid (show MountP w F s m u n q (r, id) (t, id) (.returned (.tuple #[.bool false, .int .i64 14])) w4 from by
        unfold MountP
        rw [hsz]
        exact ⟨rfl, HB4.out⟩)
      have hb' : b = false := by have := HBB.out; rw [hsz] at this; exact this.symm
      subst hb'
      clear hsz
      go_wp2_with fail
      go_ret2
      exact HEnd.out
    | some y' =>
      have hy' : y' = y := by have := HY.out; rw [hsz] at this; exact this
      have hb' : b = true := by have := HBB.out; rw [hsz] at this; exact this.symm
      subst hb'
      subst hy'
      have hyb := HH.out.ok.szs _ (szQ_some hsz)
      have HL := hid (qlink_calls (HH.out.keep HB4.out) t id HMath.out.2.1 HMath.out.2.2.1 H2.out y' hyb HMath.out.2.2.2.1 HMath.out.2.2.2.2)
      have HEnd := hid (show ∀ e w5, AddP w4 F s m u n q (t, id) y' (decide (sumQ q.l t + y' ≤ q.limit)) e w5 → MountP w F s m u n q (r, id) (t, id) e w5 from fun e w5 ha => by
        unfold MountP
        rw [hsz]
        exact ha.lift HB4.out)
      clear hsz hyb
      go_wp2_with (refine wpList_load_row rfl 32 _ rfl _ rfl _ _ _ _ HK4.out Try.underlying32 rfl HSZ.out ?_)
      refine HL.out.mono ?_
      intro e w5 ha
      obtain ⟨x1, y1, rfl⟩ := ha.form
      have HX := hid (HEnd.out _ _ ha)
      clear ha HL HEnd
      go_wp2_with fail
      go_ret2
      exact HX.out
end
end Go.Proofs.Ytjgnbmkhibdcfaa
