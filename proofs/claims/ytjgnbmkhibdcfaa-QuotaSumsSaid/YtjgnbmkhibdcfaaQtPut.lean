/- Contract of package quota: put. Written by tools/mkqt.py out of XQtPut.tpl. -/
import Derived.Test.YtjgnbmkhibdcfaaQtHas
import Derived.Test.YtjgnbmkhibdcfaaQtMath
import Derived.Test.YtjgnbmkhibdcfaaStrClone
namespace Go.Proofs.Ytjgnbmkhibdcfaa
open Go.RowKit

theorem kcells_set0 (k : LKey) : (kcells k).setIfInBounds 0 (.string (strB k.1)) = kcells k := by simp [kcells]
theorem maxLen_ge : 281474976710656 ≤ maxLen ∨ maxLen ≤ 281474976710656 := Nat.le_total _ _
/-- what put leaves -/
def PutP (w : World) (F : List Nat) (s m u n : Nat) (q : QS) (k : LKey) (y : Int) (w' : World) : Prop := ∃ F' g', QtB w' F' s m u (n + 1) { q with l := q.l ++ [(k, y)] } g' ∧ Chg F w w' ∧ ∀ x ∈ F', x ∈ F ∨ w.heap.size ≤ x
/-- a link is in its map; its repository's use is not yet told -/
structure PutI (w W : World) (s m u p n : Nat) (q : QS) (g : List UInt8 → Option Nat) (r id : List UInt8) (sz : Int) : Prop where
  chg : Chg [m] w W
  hd : Blk W s 52 (qcells s m u q.limit)
  us : MapG stK ptK W u n g
  mp : MapG lkK szK W m (n + 1) (fun z => if z = (r, id) then some sz else szQ q.l z)
  kp : Blk W p 71 (kcells (r, id))
  lo : w.heap.size ≤ p
structure PutJ (w W : World) (s m u p n : Nat) (q : QS) (g : List UInt8 → Option Nat) (r id : List UInt8) (sz : Int) (b1 : Nat) (cn sm : Int) : Prop where
  chg : Chg [m, u, b1] w W
  hd : Blk W s 52 (qcells s m u q.limit)
  us : MapG stK ptK W u (n + 1) (fun z => if z = r then some b1 else g z)
  mp : MapG lkK szK W m (n + 1) (fun z => if z = (r, id) then some sz else szQ q.l z)
  kp : Blk W p 71 (kcells (r, id))
  bu : Blk W b1 91 #[.int .i64 cn, .int .i64 sm]
  nb : b1 ≠ s ∧ b1 ≠ m ∧ b1 ≠ u ∧ b1 ≠ p
section
variable {w W W' : World} {s m u p n b1 : Nat} {q : QS} {g : List UInt8 → Option Nat} {r id : List UInt8} {sz cn sm : Int}
theorem PutI.keep (h : PutI w W s m u p n q g r id sz) (hb : Below W.heap.size W W') : PutI w W' s m u p n q g r id sz :=
  ⟨h.chg.trans (Chg.of_below (L := []) hb) (fun _ hn => (by cases hn)), h.hd.keep hb, h.us.keep hb, h.mp.keep hb, h.kp.keep hb, h.lo⟩
theorem PutJ.keep (h : PutJ w W s m u p n q g r id sz b1 cn sm) (hb : Below W.heap.size W W') : PutJ w W' s m u p n q g r id sz b1 cn sm :=
  ⟨h.chg.trans (Chg.of_below (L := []) hb) (fun _ hn => (by cases hn)), h.hd.keep hb, h.us.keep hb, h.mp.keep hb, h.kp.keep hb, h.bu.keep hb, h.nb⟩
theorem PutJ.set_ (h : PutJ w W s m u p n q g r id sz b1 cn sm) (i : Nat) (v : Value) {cn' sm' : Int} (he : (#[Value.int .i64 cn, .int .i64 sm]).setIfInBounds i v = #[Value.int .i64 cn', .int .i64 sm']) : PutJ w (W.setCell ⟨b1, i, none⟩ v) s m u p n q g r id sz b1 cn' sm' := by
  have hg := grown_setCell W b1 i v
  obtain ⟨n1, n2, n3, n4⟩ := h.nb
  exact ⟨h.chg.trans (Chg.of_grown (L := [b1]) hg (fun g e => (by cases e; simp))) (fun b hb => .inl (by simp at hb; simp [hb])), h.hd.grown hg (by simp [n1]), h.us.grown hg (by simp [n3]), h.mp.grown hg (by simp [n2]), h.kp.grown hg (by simp [n4]), (by have := h.bu.set_ i v; rw [he] at this; exact this), h.nb⟩
theorem PutJ.end_ {F : List Nat} (h : PutJ w W s m u p n q g r id sz b1 (cntQ q.l r + 1) (sumQ q.l r + sz)) (h0 : QtB w F s m u n q g) (hk : kok (r, id)) (hn : szQ q.l (r, id) = none) (hy : 0 ≤ sz ∧ sz ≤ 4096) (hf : q.l.length < 65536) (hbo : g r = some b1 ∨ (g r = none ∧ w.heap.size ≤ b1)) : PutP w F s m u n q (r, id) sz W := by
  have hq := h0.put hk hn hy hf h.chg h.mp h.us h.bu hbo
  have hin : b1 ∈ F ∨ w.heap.size ≤ b1 := by
    rcases hbo with hg | ⟨_, hs⟩
    · have := h0.each r hk.1
      rw [hg] at this
      exact .inl this.2.2.1
    · exact .inr hs
  refine ⟨b1 :: F, _, hq, h.chg.more (fun b hb => ?_), fun x hx => ?_⟩
  · simp at hb
    rcases hb with rfl | rfl | rfl
    · exact .inl h0.ins.2.1
    · exact .inl h0.ins.2.2
    · exact hin
  · rcases List.mem_cons.1 hx with rfl | hx
    · exact hin
    · exact .inl hx
end
section
variable {w w' : World} {F : List Nat} {s m u n : Nat} {q : QS} {g : List UInt8 → Option Nat}
def putN2Val (s : Nat) (m : Nat) (sz : Int) (r : List UInt8) (id : List UInt8) : Nat → Unit → Value
  | 0, _ => .pointer (some ⟨s, 0, none⟩)
  | 1, _ => .pointer (some ⟨s, 0, none⟩)
  | 2, _ => .pointer (some ⟨s, 2, none⟩)
  | 3, _ => .map (some m)
  | 4, _ => kval (r, id)
  | 5, _ => .int .i64 sz
  | 6, _ => .agg #[.int .i64 sz]
  | _, _ => undef
def putN3Val (s : Nat) (u : Nat) (p : Nat) (r : List UInt8) : Nat → Unit → Value
  | 0, _ => .pointer (some ⟨s, 0, none⟩)
  | 1, _ => .pointer (some ⟨s, 0, none⟩)
  | 2, _ => .pointer (some ⟨s, 3, none⟩)
  | 3, _ => .map (some u)
  | 4, _ => .pointer (some ⟨p, 0, none⟩)
  | 5, _ => .string (strB r)
  | 6, _ => .pointer none
  | 7, _ => .bool true
  | _, _ => undef
def putN4Val (s : Nat) (u : Nat) (p : Nat) (b1 : Nat) (r : List UInt8) : Nat → Unit → Value
  | 0, _ => .pointer (some ⟨s, 0, none⟩)
  | 1, _ => .pointer (some ⟨s, 0, none⟩)
  | 2, _ => .pointer (some ⟨s, 3, none⟩)
  | 3, _ => .map (some u)
  | 4, _ => .pointer (some ⟨p, 0, none⟩)
  | 5, _ => .string (strB r)
  | 6, _ => .agg #[.int .i64 0, .int .i64 0]
  | 7, _ => .pointer (some ⟨b1, 0, none⟩)
  | _, _ => undef
def putN5Val (s : Nat) (u : Nat) (p : Nat) (b1 : Nat) (cn : Int) (r : List UInt8) : Nat → Unit → Value
  | 0, _ => .pointer (some ⟨s, 0, none⟩)
  | 1, _ => .pointer (some ⟨s, 0, none⟩)
  | 2, _ => .pointer (some ⟨s, 3, none⟩)
  | 3, _ => .map (some u)
  | 4, _ => .pointer (some ⟨p, 0, none⟩)
  | 5, _ => .string (strB r)
  | 6, _ => .pointer (some ⟨b1, 0, none⟩)
  | 7, _ => .pointer (some ⟨b1, 0, none⟩)
  | 8, _ => .pointer (some ⟨b1, 0, none⟩)
  | 9, _ => .int .i64 cn
  | 10, _ => .int .i64 (cn + 1)
  | 11, _ => .pointer (some ⟨b1, 0, none⟩)
  | 12, _ => .pointer (some ⟨b1, 0, none⟩)
  | _, _ => undef
def putN6Val (s : Nat) (u : Nat) (p : Nat) (b1 : Nat) (sm : Int) (sz : Int) (r : List UInt8) : Nat → Unit → Value
  | 0, _ => .pointer (some ⟨s, 0, none⟩)
  | 1, _ => .pointer (some ⟨s, 0, none⟩)
  | 2, _ => .pointer (some ⟨s, 3, none⟩)
  | 3, _ => .map (some u)
  | 4, _ => .pointer (some ⟨p, 0, none⟩)
  | 5, _ => .string (strB r)
  | 6, _ => .pointer (some ⟨b1, 0, none⟩)
  | 7, _ => .pointer (some ⟨b1, 0, none⟩)
  | 8, _ => .pointer (some ⟨b1, 1, none⟩)
  | 9, _ => .int .i64 sm
  | 10, _ => .int .i64 sz
  | 11, _ => .int .i64 (sm + sz)
  | 12, _ => .pointer (some ⟨b1, 0, none⟩)
  | 13, _ => .pointer (some ⟨b1, 1, none⟩)
  | _, _ => undef
set_option maxRecDepth 20000 in
set_option maxHeartbeats 4000000 in
theorem qputNew_calls (h : QtB w F s m u n q g) (r id : List UInt8) (hk : kok (r, id)) (hr : r.length ≤ 128) (hn0 : szQ q.l (r, id) = none) (sz : Int) (hy : 0 ≤ sz ∧ sz ≤ 4096) (hfew : q.l.length < 65536) (hn : n < 1000000)
    (hg : g r = none) :
    Calls Try.prog 55 #[.pointer (some ⟨s, 0, none⟩), kval (r, id), .int .i64 sz] w fun e w' => e = .returned (.tuple #[]) ∧ PutP w F s m u n q (r, id) sz w' := by
  have hbx := below_new w (.cells (kcells (r, id)) 71)
  have hkx := Blk.new w 71 (kcells (r, id))
  have HSZ := hid (size33 (k := (r, id)) hk.2)
  have HKO := hid (show lkK.ok (r, id) from hk)
  have HRL := hid (show stK.ok r from hk.1)
  have HN := hid (show n < maxLen from by unfold maxLen; omega)
  have HH := hid h
  have HMath := hid (⟨hk, hn0, hy, hfew, hg⟩ : kok (r, id) ∧ szQ q.l (r, id) = none ∧ (0 ≤ sz ∧ sz ≤ 4096) ∧ q.l.length < 65536 ∧ _)
  have HCL := hid (fun W => sc_clone (strB r) W (by rw [strB_size]; omega))
  clear hk hr hn0 hy hfew hn hg h
  unfold kval
  go_enter Try.func55, Try.ntmps55
  have c0x := hkx.cell 0 (v := .string (strB r)) rfl
  have hlp := hkx.lt
  go_wp2_with fail
  generalize w.alloc (.cells (kcells (r, id)) 71) = w1 at hbx hkx c0x hlp ⊢
  obtain ⟨p, hp⟩ : ∃ p, w.heap.size = p := ⟨_, rfl⟩
  have HPE := hid hp
  have hbx' := hbx
  rw [hp] at hkx c0x hlp ⊢
  have HKX := hid hkx; have HBX := hid hbx'
  clear hbx hbx' hkx hp
  refine (HCL.out w1).mono ?_
  rintro _ w2 ⟨rfl, hb2⟩
  have hk2 := HKX.out.keep hb2
  have c02 := hk2.cell 0 (v := .string (strB r)) rfl
  have z02 := hk2.frozen 0
  have hset := hk2.set_ 0 (.string (strB r))
  rw [kcells_set0 (r, id)] at hset
  have hgs := grown_setCell w2 p 0 (.string (strB r))
  have hb3 := (HBX.out.trans (hb2.mono HBX.out.size)).trans (below_of_grown hgs (Nat.le_trans HBX.out.size hb2.size) (fun g e => by cases e; exact Nat.le_of_eq HPE.out))
  have HK2 := hid hset; have HB3 := hid hb3
  clear hk2 hset hgs hb2 hb3 HKX HBX HCL c0x
  generalize hw3 : w2.setCell ⟨p, 0, none⟩ (.string (strB r)) = w3 at HK2 HB3
  go_wp2_with fail
  clear hw3 c02 z02 hlp
  have hq3 := HH.out.keep HB3.out
  obtain ⟨w4, hwd⟩ : ∃ w4, w3.drew = w4 := ⟨_, rfl⟩
  have hb4 : Below w3.heap.size w3 w4 := hwd ▸ (Below.refl _ _).drew
  have hq4 := hq3.keep hb4
  have HWD := hid hwd; have HKP := hid (HK2.out.keep hb4); have HM := hid hq4.mp
  have HC := hid (⟨hq4.cells.2.2.1, hq4.cells.2.2.2, (HK2.out.keep hb4).cell 0 rfl⟩ : w4.cell? ⟨s, 2, none⟩ = some (.map (some m)) ∧ w4.cell? ⟨s, 3, none⟩ = some (.map (some u)) ∧ w4.cell? ⟨p, 0, none⟩ = some (.string (strB r)))
  have HQ4 := hid hq4
  have HB4 := hid (HB3.out.trans (hb4.mono HB3.out.size))
  clear hq3 hwd hb4 hq4
  refine wp_region_invG 60 () (putN2Val s m sz r id) (fun f _ W => WrS w4 7 (fun W' => MapG lkK szK W' m (n + 1) (fun z => if z = (r, id) then some sz else szQ q.l z) ∧ w4.grownBy W' (some m) ∧ W'.heap.size = w4.heap.size) f W) (by kernel_rfl) (by kernel_rfl) (by exact Nat.le_refl 60) ?_ ?_ ?_
  · exact (by rw [HWD.out]; exact WrS.start 8 (by decide))
  · intro i o f gh a W hi hf hdep hsame hcl hval hS
    rcases i with _ | _ | _ | _ | _ | _ | _ | _ | i
    all_goals simp only [List.getElem?_cons_succ, List.getElem?_cons_zero, List.getElem?_nil, Option.some.injEq, reduceCtorEq] at hi
    all_goals subst hi
    · have E0 : a.tmps[0]? = some (.pointer (some ⟨s, 0, none⟩)) := (same_of hsame 0 (by rfl)).trans rfl
      have n1 := not_yet hcl hf 1 (by rfl)
      have n2 := not_yet hcl n1 2 (by rfl)
      have n3 := not_yet hcl n2 3 (by rfl)
      have n7 := not_yet hcl n3 7 (by rfl)
      obtain rfl := (hS.pre n7).symm
      refine g_plain rfl ?_
      exact does_value (w' := _) (v := .pointer (some ⟨s, 0, none⟩)) (by go_simp) ⟨(), .inr rfl, (hS.same 0 (by decide))⟩
    · have E10 := hval 0 _ 10 rfl rfl (dep_of hdep 0 (by rfl))
      unfold putN2Val at E10
      have n2 := not_yet hcl hf 2 (by rfl)
      have n3 := not_yet hcl n2 3 (by rfl)
      have n7 := not_yet hcl n3 7 (by rfl)
      obtain rfl := (hS.pre n7).symm
      refine g_plain rfl ?_
      exact does_value (w' := _) (v := .pointer (some ⟨s, 0, none⟩)) (by go_simp) ⟨(), .inr rfl, (hS.same 1 (by decide))⟩
    · have E11 := hval 1 _ 11 rfl rfl (dep_of hdep 1 (by rfl))
      unfold putN2Val at E11
      have n3 := not_yet hcl hf 3 (by rfl)
      have n7 := not_yet hcl n3 7 (by rfl)
      obtain rfl := (hS.pre n7).symm
      refine g_plain rfl ?_
      exact does_value (w' := _) (v := .pointer (some ⟨s, 2, none⟩)) (by go_simp) ⟨(), .inr rfl, (hS.same 2 (by decide))⟩
    · have E12 := hval 2 _ 12 rfl rfl (dep_of hdep 2 (by rfl))
      unfold putN2Val at E12
      have n7 := not_yet hcl hf 7 (by rfl)
      obtain rfl := (hS.pre n7).symm
      obtain ⟨c2, c3, cp⟩ := HC.out
      refine g_plain rfl ?_
      exact does_value (w' := _) (v := .map (some m)) (by go_simp) ⟨(), .inr rfl, (hS.same 3 (by decide))⟩
    · have E4 : a.tmps[4]? = some (.pointer (some ⟨p, 0, none⟩)) := (same_of hsame 4 (by rfl)).trans rfl
      have n7 := not_yet hcl hf 7 (by rfl)
      obtain rfl := (hS.pre n7).symm
      refine g_plain rfl ?_
      exact does_load _ _ rfl p (by rw [eval_getD, E4]; rfl) _ (HKP.out) _ Try.underlying71 rfl HSZ.out ⟨(), .inr rfl, (hS.same 4 (by decide))⟩
    · have E2 : a.tmps[2]? = some (.int .i64 sz) := (same_of hsame 2 (by rfl)).trans rfl
      have n6 := not_yet hcl hf 6 (by rfl)
      have n7 := not_yet hcl n6 7 (by rfl)
      obtain rfl := (hS.pre n7).symm
      refine g_plain rfl ?_
      exact does_value (w' := _) (v := .int .i64 sz) (by go_simp) ⟨(), .inr rfl, (hS.same 5 (by decide))⟩
    · have E15 := hval 5 _ 15 rfl rfl (dep_of hdep 5 (by rfl))
      unfold putN2Val at E15
      have n7 := not_yet hcl hf 7 (by rfl)
      obtain rfl := (hS.pre n7).symm
      refine g_plain rfl ?_
      exact does_value (w' := _) (v := .agg #[.int .i64 sz]) (by go_simp) ⟨(), .inr rfl, (hS.same 6 (by decide))⟩
    · have E13 := hval 3 _ 13 rfl rfl (dep_of hdep 3 (by rfl))
      have E14 := hval 4 _ 14 rfl rfl (dep_of hdep 4 (by rfl))
      have E16 := hval 6 _ 16 rfl rfl (dep_of hdep 6 (by rfl))
      unfold putN2Val at E13 E14 E16
      refine g_plain rfl ?_
      obtain rfl := (hS.pre hf).symm
      obtain ⟨W', hrun, hm', hg', hz'⟩ := HM.out.store Try.underlying49 HKO.out HN.out sz
      have hrun' : (Instr.mapUpdate 49 (.map (some m)) (kval (r, id)) (.agg #[.int .i64 sz])).run Try.prog _ = .ok () W' := hrun
      exact does_skip (w' := W') (by go_simp) ⟨(), .inl rfl, WrS.done ⟨hm', hg', hz'⟩⟩
  · intro gh w5 hS
    obtain ⟨hm5, hg5, hz5⟩ := hS.post rfl
    have hc5 : Chg [m] w w5 := (Chg.of_below (L := [m]) HB4.out).trans (Chg.of_grown (L := [m]) hg5 (fun g e => (by cases e; simp))) (fun b hb => .inl hb)
    have hpm : p ≠ m := by have := HH.out.lt m HH.out.ins.2.1; have := HPE.out; omega
    have HI := hid (show PutI w w5 s m u p n q g r id sz from ⟨hc5, HQ4.out.hd.grown hg5 (by simpa using Ne.symm HH.out.ne.1), HQ4.out.us.grown hg5 (by simpa using HH.out.ne.2.2), hm5, HKP.out.grown hg5 (by simpa using Ne.symm hpm), Nat.le_of_eq HPE.out⟩)
    clear hm5 hg5 hz5 hc5 hpm hS HC HM HKP HQ4 HB4 HWD HB3 HK2
    simp only [putAll, putN2Val, Nat.reduceAdd, Nat.zero_add, Act.put, List.setIfInBounds_toArray, List.set_cons_zero, List.set_cons_succ]
    have HC := hid (fun W (hb : Below w5.heap.size w5 W) => (⟨(HI.out.keep hb).hd.cell 3 rfl, (HI.out.keep hb).kp.cell 0 rfl, by have := look_use (HI.out.keep hb).us (r := r) HRL.out; rw [HMath.out.2.2.2.2] at this; exact this⟩ : W.cell? ⟨s, 3, none⟩ = some (.map (some u)) ∧ W.cell? ⟨p, 0, none⟩ = some (.string (strB r)) ∧ (Instr.lookup 50 (.map (some u)) (.string (strB r)) false).run Try.prog W = .ok
      (.pointer none) W))
    go_wp2_with fail
    refine wp_region_invG 60 () (putN3Val s u p r) (fun _ _ W => Below w5.heap.size w5 W) (by kernel_rfl) (by kernel_rfl) (by exact Nat.le_refl 60) ?_ ?_ ?_
    · exact (Below.refl _ _).drew
    · intro i o f gh a W hi hf hdep hsame hcl hval hS
      rcases i with _ | _ | _ | _ | _ | _ | _ | _ | i
      all_goals simp only [List.getElem?_cons_succ, List.getElem?_cons_zero, List.getElem?_nil, Option.some.injEq, reduceCtorEq] at hi
      all_goals subst hi
      · have E0 : a.tmps[0]? = some (.pointer (some ⟨s, 0, none⟩)) := (same_of hsame 0 (by rfl)).trans rfl
        refine g_plain rfl ?_
        exact does_value (w' := W) (v := .pointer (some ⟨s, 0, none⟩)) (by go_simp) ⟨(), .inr rfl, hS⟩
      · have E17 := hval 0 _ 17 rfl rfl (dep_of hdep 0 (by rfl))
        unfold putN3Val at E17
        refine g_plain rfl ?_
        exact does_value (w' := W) (v := .pointer (some ⟨s, 0, none⟩)) (by go_simp) ⟨(), .inr rfl, hS⟩
      · have E18 := hval 1 _ 18 rfl rfl (dep_of hdep 1 (by rfl))
        unfold putN3Val at E18
        refine g_plain rfl ?_
        exact does_value (w' := W) (v := .pointer (some ⟨s, 3, none⟩)) (by go_simp) ⟨(), .inr rfl, hS⟩
      · have E19 := hval 2 _ 19 rfl rfl (dep_of hdep 2 (by rfl))
        unfold putN3Val at E19
        obtain ⟨c3, cp, hlk⟩ := HC.out W hS
        refine g_plain rfl ?_
        exact does_value (w' := W) (v := .map (some u)) (by go_simp) ⟨(), .inr rfl, hS⟩
      · have E4 : a.tmps[4]? = some (.pointer (some ⟨p, 0, none⟩)) := (same_of hsame 4 (by rfl)).trans rfl
        refine g_plain rfl ?_
        exact does_value (w' := W) (v := .pointer (some ⟨p, 0, none⟩)) (by go_simp) ⟨(), .inr rfl, hS⟩
      · have E21 := hval 4 _ 21 rfl rfl (dep_of hdep 4 (by rfl))
        unfold putN3Val at E21
        obtain ⟨c3, cp, hlk⟩ := HC.out W hS
        refine g_plain rfl ?_
        exact does_value (w' := W) (v := .string (strB r)) (by go_simp) ⟨(), .inr rfl, hS⟩
      · have E20 := hval 3 _ 20 rfl rfl (dep_of hdep 3 (by rfl))
        have E22 := hval 5 _ 22 rfl rfl (dep_of hdep 5 (by rfl))
        unfold putN3Val at E20 E22
        obtain ⟨c3, cp, hlk⟩ := HC.out W hS
        refine g_plain rfl ?_
        exact does_value (w' := W) (v := .pointer none) (by go_simp) ⟨(), .inr rfl, hS⟩
      · have E23 := hval 6 _ 23 rfl rfl (dep_of hdep 6 (by rfl))
        unfold putN3Val at E23
        refine g_plain rfl ?_
        exact does_value (w' := W) (v := .bool true) (by go_simp) ⟨(), .inr rfl, hS⟩
    · intro gh w6 hS
      have hi6 := HI.out.keep hS
      generalize hwd : w6.drew = w7
      have hi7 := hi6.keep (hwd ▸ (Below.refl w6.heap.size w6).drew)
      have HWD := hid hwd
      obtain ⟨b1, hzb⟩ : ∃ b1, w7.heap.size = b1 := ⟨_, rfl⟩
      have HZB := hid hzb
      have HI7 := hid hi7
      have HM := hid (hi7.us.keep (below_new w7 (.cells #[.int .i64 0, .int .i64 0] 91)))
      have HC := hid (fun W (hb : Below w7.heap.size w7 W) => (⟨(hi7.keep hb).hd.cell 3 rfl, (hi7.keep hb).kp.cell 0 rfl⟩ : W.cell? ⟨s, 3, none⟩ = some (.map (some u)) ∧ W.cell? ⟨p, 0, none⟩ = some (.string (strB r))))
      clear hi6 hwd hzb hi7 HI hS
      simp only [putAll, putN3Val, Nat.reduceAdd, Nat.zero_add, Act.put, List.setIfInBounds_toArray, List.set_cons_zero, List.set_cons_succ]
      go_wp2_with fail
      refine wp_region_invG 60 () (putN4Val s u p b1 r) (fun f _ W => WrA w7 (.cells #[.int .i64 0, .int .i64 0] 91) 7 8 (fun W' => MapG stK ptK W' u (n + 1) (fun z => if z = r then some b1 else g z) ∧ (w7.alloc (.cells #[.int .i64 0, .int .i64 0] 91)).grownBy W' (some u) ∧ W'.heap.size = (w7.alloc (.cells #[.int .i64 0, .int .i64 0] 91)).heap.size) f W) (by kernel_rfl) (by kernel_rfl) (by exact Nat.le_refl 60) ?_ ?_ ?_
      · exact (by rw [HWD.out]; exact WrA.start 9 (by decide) (by decide))
      · intro i o f gh a W hi hf hdep hsame hcl hval hS
        rcases i with _ | _ | _ | _ | _ | _ | _ | _ | _ | i
        all_goals simp only [List.getElem?_cons_succ, List.getElem?_cons_zero, List.getElem?_nil, Option.some.injEq, reduceCtorEq] at hi
        all_goals subst hi
        · have E0 : a.tmps[0]? = some (.pointer (some ⟨s, 0, none⟩)) := (same_of hsame 0 (by rfl)).trans rfl
          have n1 := not_yet hcl hf 1 (by rfl)
          have n2 := not_yet hcl n1 2 (by rfl)
          have n3 := not_yet hcl n2 3 (by rfl)
          have n8 := not_yet hcl n3 8 (by rfl)
          refine g_plain rfl ?_
          exact does_value (w' := W) (v := .pointer (some ⟨s, 0, none⟩)) (by go_simp) ⟨(), .inr rfl, (hS.same 0 (by decide) (by decide))⟩
        · have E25 := hval 0 _ 25 rfl rfl (dep_of hdep 0 (by rfl))
          unfold putN4Val at E25
          have n2 := not_yet hcl hf 2 (by rfl)
          have n3 := not_yet hcl n2 3 (by rfl)
          have n8 := not_yet hcl n3 8 (by rfl)
          refine g_plain rfl ?_
          exact does_value (w' := W) (v := .pointer (some ⟨s, 0, none⟩)) (by go_simp) ⟨(), .inr rfl, (hS.same 1 (by decide) (by decide))⟩
        · have E26 := hval 1 _ 26 rfl rfl (dep_of hdep 1 (by rfl))
          unfold putN4Val at E26
          have n3 := not_yet hcl hf 3 (by rfl)
          have n8 := not_yet hcl n3 8 (by rfl)
          refine g_plain rfl ?_
          exact does_value (w' := W) (v := .pointer (some ⟨s, 3, none⟩)) (by go_simp) ⟨(), .inr rfl, (hS.same 2 (by decide) (by decide))⟩
        · have E27 := hval 2 _ 27 rfl rfl (dep_of hdep 2 (by rfl))
          unfold putN4Val at E27
          have n8 := not_yet hcl hf 8 (by rfl)
          obtain ⟨c3, cp⟩ := HC.out W (hS.bel n8)
          refine g_plain rfl ?_
          exact does_value (w' := W) (v := .map (some u)) (by go_simp) ⟨(), .inr rfl, (hS.same 3 (by decide) (by decide))⟩
        · have E4 : a.tmps[4]? = some (.pointer (some ⟨p, 0, none⟩)) := (same_of hsame 4 (by rfl)).trans rfl
          have n5 := not_yet hcl hf 5 (by rfl)
          have n8 := not_yet hcl n5 8 (by rfl)
          refine g_plain rfl ?_
          exact does_value (w' := W) (v := .pointer (some ⟨p, 0, none⟩)) (by go_simp) ⟨(), .inr rfl, (hS.same 4 (by decide) (by decide))⟩
        · have E29 := hval 4 _ 29 rfl rfl (dep_of hdep 4 (by rfl))
          unfold putN4Val at E29
          have n8 := not_yet hcl hf 8 (by rfl)
          obtain ⟨c3, cp⟩ := HC.out W (hS.bel n8)
          refine g_plain rfl ?_
          exact does_value (w' := W) (v := .string (strB r)) (by go_simp) ⟨(), .inr rfl, (hS.same 5 (by decide) (by decide))⟩
        · have n7 := not_yet hcl hf 7 (by rfl)
          have n8 := not_yet hcl n7 8 (by rfl)
          refine g_plain rfl ?_
          exact does_value (w' := W) (v := .agg #[.int .i64 0, .int .i64 0]) (by go_simp) ⟨(), .inr rfl, (hS.same 6 (by decide) (by decide))⟩
        · have E31 := hval 6 _ 31 rfl rfl (dep_of hdep 6 (by rfl))
          unfold putN4Val at E31
          obtain rfl := (hS.no hf).symm
          refine g_plain rfl ?_
          exact does_value (w' := w7.alloc (.cells #[.int .i64 0, .int .i64 0] 91)) (v := .pointer (some ⟨b1, 0, none⟩)) (by have hz := HZB.out; rw [← hz]; go_simp) ⟨(), .inr rfl, (hS.lay hf (by decide))⟩
        · have E28 := hval 3 _ 28 rfl rfl (dep_of hdep 3 (by rfl))
          have E30 := hval 5 _ 30 rfl rfl (dep_of hdep 5 (by rfl))
          have E32 := hval 7 _ 32 rfl rfl (dep_of hdep 7 (by rfl))
          unfold putN4Val at E28 E30 E32
          refine g_plain rfl ?_
          obtain rfl := (hS.mid (dep_of hdep 7 (by rfl)) hf).symm
          obtain ⟨W', hrun, hm', hg', hz'⟩ := HM.out.store Try.underlying50 HRL.out HN.out b1
          have hrun' : (Instr.mapUpdate 50 (.map (some u)) (.string (strB r)) (.pointer (some ⟨b1, 0, none⟩))).run Try.prog _ = .ok () W' := hrun
          exact does_skip (w' := W') (by go_simp) ⟨(), .inl rfl, WrA.done ⟨hm', hg', hz'⟩ (dep_of hdep 7 (by rfl)) (by decide)⟩
      · intro gh w8 hS
        obtain ⟨hm8, hg8, hz8⟩ := hS.post rfl
        have hbn := Blk.new w7 91 #[.int .i64 0, .int .i64 0]
        have hbw := below_new w7 (.cells #[.int .i64 0, .int .i64 0] 91)
        have hi8 := HI7.out.keep hbw
        have l1 := HI7.out.hd.lt; have l2 := HI7.out.mp.lt; have l3 := HI7.out.us.lt; have l4 := HI7.out.kp.lt
        rw [HZB.out] at hbn l1 l2 l3 l4
        have HJ := hid (show PutJ w w8 s m u p n q g r id sz b1 0 0 from ⟨(hi8.chg.more (L' := [m, u, b1]) (fun b hb => .inl (by simp at hb; simp [hb]))).trans (Chg.of_grown (L := [u]) hg8 (fun g e => (by cases e; simp))) (fun b hb => .inl (by simp at hb; simp [hb])), hi8.hd.grown hg8 (by simpa using Ne.symm HH.out.ne.2.1), hm8, hi8.mp.grown hg8 (by simpa using Ne.symm HH.out.ne.2.2), hi8.kp.grown hg8 (by have := HH.out.lt u HH.out.ins.2.2; have := HPE.out; simp; omega), hbn.grown hg8 (by simp; omega), by omega⟩)
        have HBO := hid (show g r = some b1 ∨ (g r = none ∧ w.heap.size ≤ b1) from .inr ⟨HMath.out.2.2.2.2, by have := HPE.out; omega⟩)
        have HCS := hid (show (0 : Int) = cntQ q.l r ∧ (0 : Int) = sumQ q.l r from by
          have he := HH.out.each r HMath.out.1.1
          rw [HMath.out.2.2.2.2] at he
          have he' : ofQ q.l r = [] := he
          unfold cntQ sumQ
          rw [he']
          exact ⟨rfl, rfl⟩)
        obtain ⟨cn, hcn⟩ : ∃ cn : Int, 0 = cn := ⟨_, rfl⟩
        obtain ⟨sm, hsm⟩ : ∃ sm : Int, 0 = sm := ⟨_, rfl⟩
        have HJ := hid (show PutJ w w8 s m u p n q g r id sz b1 cn sm from by rw [← hcn, ← hsm]; exact HJ.out)
        have HCS := hid (show cn = cntQ q.l r ∧ sm = sumQ q.l r from by rw [← hcn, ← hsm]; exact HCS.out)
        clear hcn hsm hm8 hg8 hz8 hbn hbw hi8 l1 l2 l3 l4 hS HI7 HM HC HZB HWD
        simp only [putAll, putN4Val, Nat.reduceAdd, Nat.zero_add, Act.put, List.setIfInBounds_toArray, List.set_cons_zero, List.set_cons_succ]
        go_wp2_with fail
        have hj9 := HJ.out.keep ((Below.refl w8.heap.size w8).drew)
        generalize hwd : w8.drew = w9 at hj9
        have HWD := hid hwd
        have HC := hid (⟨hj9.hd.cell 3 rfl, hj9.kp.cell 0 rfl, hj9.bu.cell 0 rfl, by have := look_use hj9.us (r := r) HRL.out; rw [if_pos rfl] at this; exact this⟩ : w9.cell? ⟨s, 3, none⟩ = some (.map (some u)) ∧ w9.cell? ⟨p, 0, none⟩ = some (.string (strB r)) ∧ w9.cell? ⟨b1, 0, none⟩ = some (.int .i64 cn) ∧ (Instr.lookup 50 (.map (some u)) (.string (strB r)) false).run Try.prog w9 = .ok (.pointer (some ⟨b1, 0, none⟩)) w9)
        have HZ := hid (hj9.bu.frozen 0)
        have HW := hid (show IntKind.i64.wrap (cn + 1) = cn + 1 from IntWalk.i64_in _ (by have := HCS.out.1; have := HH.out.ok.cnt r; omega))
        have HJ9 := hid hj9
        clear hj9 hwd HJ
        refine wp_region_invG 60 () (putN5Val s u p b1 cn r) (fun f _ W => WrS w9 13 (fun W' => W' = World.setCell w9 ⟨b1, 0, none⟩ (.int .i64 (cn + 1))) f W) (by kernel_rfl) (by kernel_rfl) (by exact Nat.le_refl 60) ?_ ?_ ?_
        · exact (by rw [HWD.out]; exact WrS.start 14 (by decide))
        · intro i o f gh a W hi hf hdep hsame hcl hval hS
          rcases i with _ | _ | _ | _ | _ | _ | _ | _ | _ | _ | _ | _ | _ | _ | i
          all_goals simp only [List.getElem?_cons_succ, List.getElem?_cons_zero, List.getElem?_nil, Option.some.injEq, reduceCtorEq] at hi
          all_goals subst hi
          · have E0 : a.tmps[0]? = some (.pointer (some ⟨s, 0, none⟩)) := (same_of hsame 0 (by rfl)).trans rfl
            have n1 := not_yet hcl hf 1 (by rfl)
            have n2 := not_yet hcl n1 2 (by rfl)
            have n3 := not_yet hcl n2 3 (by rfl)
            have n6 := not_yet hcl n3 6 (by rfl)
            have n11 := not_yet hcl n6 11 (by rfl)
            have n12 := not_yet hcl n11 12 (by rfl)
            have n13 := not_yet hcl n12 13 (by rfl)
            obtain rfl := (hS.pre n13).symm
            refine g_plain rfl ?_
            exact does_value (w' := _) (v := .pointer (some ⟨s, 0, none⟩)) (by go_simp) ⟨(), .inr rfl, (hS.same 0 (by decide))⟩
          · have E33 := hval 0 _ 33 rfl rfl (dep_of hdep 0 (by rfl))
            unfold putN5Val at E33
            have n2 := not_yet hcl hf 2 (by rfl)
            have n3 := not_yet hcl n2 3 (by rfl)
            have n6 := not_yet hcl n3 6 (by rfl)
            have n11 := not_yet hcl n6 11 (by rfl)
            have n12 := not_yet hcl n11 12 (by rfl)
            have n13 := not_yet hcl n12 13 (by rfl)
            obtain rfl := (hS.pre n13).symm
            refine g_plain rfl ?_
            exact does_value (w' := _) (v := .pointer (some ⟨s, 0, none⟩)) (by go_simp) ⟨(), .inr rfl, (hS.same 1 (by decide))⟩
          · have E34 := hval 1 _ 34 rfl rfl (dep_of hdep 1 (by rfl))
            unfold putN5Val at E34
            have n3 := not_yet hcl hf 3 (by rfl)
            have n6 := not_yet hcl n3 6 (by rfl)
            have n11 := not_yet hcl n6 11 (by rfl)
            have n12 := not_yet hcl n11 12 (by rfl)
            have n13 := not_yet hcl n12 13 (by rfl)
            obtain rfl := (hS.pre n13).symm
            refine g_plain rfl ?_
            exact does_value (w' := _) (v := .pointer (some ⟨s, 3, none⟩)) (by go_simp) ⟨(), .inr rfl, (hS.same 2 (by decide))⟩
          · have E35 := hval 2 _ 35 rfl rfl (dep_of hdep 2 (by rfl))
            unfold putN5Val at E35
            have n6 := not_yet hcl hf 6 (by rfl)
            have n11 := not_yet hcl n6 11 (by rfl)
            have n12 := not_yet hcl n11 12 (by rfl)
            have n13 := not_yet hcl n12 13 (by rfl)
            obtain rfl := (hS.pre n13).symm
            obtain ⟨c3, cp, cb, hlk⟩ := HC.out
            refine g_plain rfl ?_
            exact does_value (w' := _) (v := .map (some u)) (by go_simp) ⟨(), .inr rfl, (hS.same 3 (by decide))⟩
          · have E4 : a.tmps[4]? = some (.pointer (some ⟨p, 0, none⟩)) := (same_of hsame 4 (by rfl)).trans rfl
            have n5 := not_yet hcl hf 5 (by rfl)
            have n6 := not_yet hcl n5 6 (by rfl)
            have n11 := not_yet hcl n6 11 (by rfl)
            have n12 := not_yet hcl n11 12 (by rfl)
            have n13 := not_yet hcl n12 13 (by rfl)
            obtain rfl := (hS.pre n13).symm
            refine g_plain rfl ?_
            exact does_value (w' := _) (v := .pointer (some ⟨p, 0, none⟩)) (by go_simp) ⟨(), .inr rfl, (hS.same 4 (by decide))⟩
          · have E37 := hval 4 _ 37 rfl rfl (dep_of hdep 4 (by rfl))
            unfold putN5Val at E37
            have n6 := not_yet hcl hf 6 (by rfl)
            have n11 := not_yet hcl n6 11 (by rfl)
            have n12 := not_yet hcl n11 12 (by rfl)
            have n13 := not_yet hcl n12 13 (by rfl)
            obtain rfl := (hS.pre n13).symm
            obtain ⟨c3, cp, cb, hlk⟩ := HC.out
            refine g_plain rfl ?_
            exact does_value (w' := _) (v := .string (strB r)) (by go_simp) ⟨(), .inr rfl, (hS.same 5 (by decide))⟩
          · have E36 := hval 3 _ 36 rfl rfl (dep_of hdep 3 (by rfl))
            have E38 := hval 5 _ 38 rfl rfl (dep_of hdep 5 (by rfl))
            unfold putN5Val at E36 E38
            have n11 := not_yet hcl hf 11 (by rfl)
            have n12 := not_yet hcl n11 12 (by rfl)
            have n13 := not_yet hcl n12 13 (by rfl)
            obtain rfl := (hS.pre n13).symm
            obtain ⟨c3, cp, cb, hlk⟩ := HC.out
            refine g_plain rfl ?_
            exact does_value (w' := _) (v := .pointer (some ⟨b1, 0, none⟩)) (by go_simp) ⟨(), .inr rfl, (hS.same 6 (by decide))⟩
          · have E39 := hval 6 _ 39 rfl rfl (dep_of hdep 6 (by rfl))
            unfold putN5Val at E39
            have n8 := not_yet hcl hf 8 (by rfl)
            have n9 := not_yet hcl n8 9 (by rfl)
            have n10 := not_yet hcl n9 10 (by rfl)
            have n13 := not_yet hcl n10 13 (by rfl)
            obtain rfl := (hS.pre n13).symm
            refine g_plain rfl ?_
            exact does_value (w' := _) (v := .pointer (some ⟨b1, 0, none⟩)) (by go_simp) ⟨(), .inr rfl, (hS.same 7 (by decide))⟩
          · have E40 := hval 7 _ 40 rfl rfl (dep_of hdep 7 (by rfl))
            unfold putN5Val at E40
            have n9 := not_yet hcl hf 9 (by rfl)
            have n10 := not_yet hcl n9 10 (by rfl)
            have n13 := not_yet hcl n10 13 (by rfl)
            obtain rfl := (hS.pre n13).symm
            refine g_plain rfl ?_
            exact does_value (w' := _) (v := .pointer (some ⟨b1, 0, none⟩)) (by go_simp) ⟨(), .inr rfl, (hS.same 8 (by decide))⟩
          · have E41 := hval 8 _ 41 rfl rfl (dep_of hdep 8 (by rfl))
            unfold putN5Val at E41
            have n10 := not_yet hcl hf 10 (by rfl)
            have n13 := not_yet hcl n10 13 (by rfl)
            obtain rfl := (hS.pre n13).symm
            obtain ⟨c3, cp, cb, hlk⟩ := HC.out
            refine g_plain rfl ?_
            exact does_value (w' := _) (v := .int .i64 cn) (by go_simp) ⟨(), .inr rfl, (hS.same 9 (by decide))⟩
          · have E42 := hval 9 _ 42 rfl rfl (dep_of hdep 9 (by rfl))
            unfold putN5Val at E42
            have n13 := not_yet hcl hf 13 (by rfl)
            obtain rfl := (hS.pre n13).symm
            have hw := HW.out
            refine g_plain rfl ?_
            exact does_value (w' := _) (v := .int .i64 (cn + 1)) (by go_simp) ⟨(), .inr rfl, (hS.same 10 (by decide))⟩
          · have E39 := hval 6 _ 39 rfl rfl (dep_of hdep 6 (by rfl))
            unfold putN5Val at E39
            have n12 := not_yet hcl hf 12 (by rfl)
            have n13 := not_yet hcl n12 13 (by rfl)
            obtain rfl := (hS.pre n13).symm
            refine g_plain rfl ?_
            exact does_value (w' := _) (v := .pointer (some ⟨b1, 0, none⟩)) (by go_simp) ⟨(), .inr rfl, (hS.same 11 (by decide))⟩
          · have E44 := hval 11 _ 44 rfl rfl (dep_of hdep 11 (by rfl))
            unfold putN5Val at E44
            have n13 := not_yet hcl hf 13 (by rfl)
            obtain rfl := (hS.pre n13).symm
            refine g_plain rfl ?_
            exact does_value (w' := _) (v := .pointer (some ⟨b1, 0, none⟩)) (by go_simp) ⟨(), .inr rfl, (hS.same 12 (by decide))⟩
          · have E45 := hval 12 _ 45 rfl rfl (dep_of hdep 12 (by rfl))
            have E43 := hval 10 _ 43 rfl rfl (dep_of hdep 10 (by rfl))
            unfold putN5Val at E45 E43
            refine g_plain rfl ?_
            obtain rfl := (hS.pre hf).symm
            obtain ⟨c3, cp, cb, hlk⟩ := HC.out
            have zb := HZ.out
            exact does_skip (w' := World.setCell _ ⟨b1, 0, none⟩ (.int .i64 (cn + 1))) (by go_simp) ⟨(), .inl rfl, WrS.done rfl⟩
        · intro gh wa hS
          have hwa := hS.post rfl
          subst hwa
          have hja := (HJ9.out.set_ 0 (.int .i64 (cn + 1)) (cn' := cn + 1) (sm' := sm) rfl).keep ((Below.refl _ _).drew)
          generalize hwb0 : World.setCell w9 ⟨b1, 0, none⟩ (.int .i64 (cn + 1)) = wa0 at hja
          generalize hwb : wa0.drew = wb at hja
          have HWD := hid hwb
          have HC := hid (⟨hja.hd.cell 3 rfl, hja.kp.cell 0 rfl, hja.bu.cell 1 rfl, by have := look_use hja.us (r := r) HRL.out; rw [if_pos rfl] at this; exact this⟩ : wb.cell? ⟨s, 3, none⟩ = some (.map (some u)) ∧ wb.cell? ⟨p, 0, none⟩ = some (.string (strB r)) ∧ wb.cell? ⟨b1, 1, none⟩ = some (.int .i64 sm) ∧ (Instr.lookup 50 (.map (some u)) (.string (strB r)) false).run Try.prog wb = .ok (.pointer (some ⟨b1, 0, none⟩)) wb)
          have HZ := hid (hja.bu.frozen 1)
          have HW := hid (show IntKind.i64.wrap (sm + sz) = sm + sz from IntWalk.i64_in _ (by have := HCS.out.2; have := HH.out.ok.sum r; have := HMath.out.2.2.1; omega))
          have HJB := hid hja
          clear hja hwb hS HJ9
          simp only [putAll, putN5Val, Nat.reduceAdd, Nat.zero_add, Act.put, List.setIfInBounds_toArray, List.set_cons_zero, List.set_cons_succ]
          go_wp2_with fail
          refine wp_region_invG 60 () (putN6Val s u p b1 sm sz r) (fun f _ W => WrS wb 14 (fun W' => W' = World.setCell wb ⟨b1, 1, none⟩ (.int .i64 (sm + sz))) f W) (by kernel_rfl) (by kernel_rfl) (by exact Nat.le_refl 60) ?_ ?_ ?_
          · exact (by rw [HWD.out]; exact WrS.start 15 (by decide))
          · intro i o f gh a W hi hf hdep hsame hcl hval hS
            rcases i with _ | _ | _ | _ | _ | _ | _ | _ | _ | _ | _ | _ | _ | _ | _ | i
            all_goals simp only [List.getElem?_cons_succ, List.getElem?_cons_zero, List.getElem?_nil, Option.some.injEq, reduceCtorEq] at hi
            all_goals subst hi
            · have E0 : a.tmps[0]? = some (.pointer (some ⟨s, 0, none⟩)) := (same_of hsame 0 (by rfl)).trans rfl
              have n1 := not_yet hcl hf 1 (by rfl)
              have n2 := not_yet hcl n1 2 (by rfl)
              have n3 := not_yet hcl n2 3 (by rfl)
              have n6 := not_yet hcl n3 6 (by rfl)
              have n12 := not_yet hcl n6 12 (by rfl)
              have n13 := not_yet hcl n12 13 (by rfl)
              have n14 := not_yet hcl n13 14 (by rfl)
              obtain rfl := (hS.pre n14).symm
              refine g_plain rfl ?_
              exact does_value (w' := _) (v := .pointer (some ⟨s, 0, none⟩)) (by go_simp) ⟨(), .inr rfl, (hS.same 0 (by decide))⟩
            · have E46 := hval 0 _ 46 rfl rfl (dep_of hdep 0 (by rfl))
              unfold putN6Val at E46
              have n2 := not_yet hcl hf 2 (by rfl)
              have n3 := not_yet hcl n2 3 (by rfl)
              have n6 := not_yet hcl n3 6 (by rfl)
              have n12 := not_yet hcl n6 12 (by rfl)
              have n13 := not_yet hcl n12 13 (by rfl)
              have n14 := not_yet hcl n13 14 (by rfl)
              obtain rfl := (hS.pre n14).symm
              refine g_plain rfl ?_
              exact does_value (w' := _) (v := .pointer (some ⟨s, 0, none⟩)) (by go_simp) ⟨(), .inr rfl, (hS.same 1 (by decide))⟩
            · have E47 := hval 1 _ 47 rfl rfl (dep_of hdep 1 (by rfl))
              unfold putN6Val at E47
              have n3 := not_yet hcl hf 3 (by rfl)
              have n6 := not_yet hcl n3 6 (by rfl)
              have n12 := not_yet hcl n6 12 (by rfl)
              have n13 := not_yet hcl n12 13 (by rfl)
              have n14 := not_yet hcl n13 14 (by rfl)
              obtain rfl := (hS.pre n14).symm
              refine g_plain rfl ?_
              exact does_value (w' := _) (v := .pointer (some ⟨s, 3, none⟩)) (by go_simp) ⟨(), .inr rfl, (hS.same 2 (by decide))⟩
            · have E48 := hval 2 _ 48 rfl rfl (dep_of hdep 2 (by rfl))
              unfold putN6Val at E48
              have n6 := not_yet hcl hf 6 (by rfl)
              have n12 := not_yet hcl n6 12 (by rfl)
              have n13 := not_yet hcl n12 13 (by rfl)
              have n14 := not_yet hcl n13 14 (by rfl)
              obtain rfl := (hS.pre n14).symm
              obtain ⟨c3, cp, cb, hlk⟩ := HC.out
              refine g_plain rfl ?_
              exact does_value (w' := _) (v := .map (some u)) (by go_simp) ⟨(), .inr rfl, (hS.same 3 (by decide))⟩
            · have E4 : a.tmps[4]? = some (.pointer (some ⟨p, 0, none⟩)) := (same_of hsame 4 (by rfl)).trans rfl
              have n5 := not_yet hcl hf 5 (by rfl)
              have n6 := not_yet hcl n5 6 (by rfl)
              have n12 := not_yet hcl n6 12 (by rfl)
              have n13 := not_yet hcl n12 13 (by rfl)
              have n14 := not_yet hcl n13 14 (by rfl)
              obtain rfl := (hS.pre n14).symm
              refine g_plain rfl ?_
              exact does_value (w' := _) (v := .pointer (some ⟨p, 0, none⟩)) (by go_simp) ⟨(), .inr rfl, (hS.same 4 (by decide))⟩
            · have E50 := hval 4 _ 50 rfl rfl (dep_of hdep 4 (by rfl))
              unfold putN6Val at E50
              have n6 := not_yet hcl hf 6 (by rfl)
              have n12 := not_yet hcl n6 12 (by rfl)
              have n13 := not_yet hcl n12 13 (by rfl)
              have n14 := not_yet hcl n13 14 (by rfl)
              obtain rfl := (hS.pre n14).symm
              obtain ⟨c3, cp, cb, hlk⟩ := HC.out
              refine g_plain rfl ?_
              exact does_value (w' := _) (v := .string (strB r)) (by go_simp) ⟨(), .inr rfl, (hS.same 5 (by decide))⟩
            · have E49 := hval 3 _ 49 rfl rfl (dep_of hdep 3 (by rfl))
              have E51 := hval 5 _ 51 rfl rfl (dep_of hdep 5 (by rfl))
              unfold putN6Val at E49 E51
              have n12 := not_yet hcl hf 12 (by rfl)
              have n13 := not_yet hcl n12 13 (by rfl)
              have n14 := not_yet hcl n13 14 (by rfl)
              obtain rfl := (hS.pre n14).symm
              obtain ⟨c3, cp, cb, hlk⟩ := HC.out
              refine g_plain rfl ?_
              exact does_value (w' := _) (v := .pointer (some ⟨b1, 0, none⟩)) (by go_simp) ⟨(), .inr rfl, (hS.same 6 (by decide))⟩
            · have E52 := hval 6 _ 52 rfl rfl (dep_of hdep 6 (by rfl))
              unfold putN6Val at E52
              have n8 := not_yet hcl hf 8 (by rfl)
              have n9 := not_yet hcl n8 9 (by rfl)
              have n11 := not_yet hcl n9 11 (by rfl)
              have n14 := not_yet hcl n11 14 (by rfl)
              obtain rfl := (hS.pre n14).symm
              refine g_plain rfl ?_
              exact does_value (w' := _) (v := .pointer (some ⟨b1, 0, none⟩)) (by go_simp) ⟨(), .inr rfl, (hS.same 7 (by decide))⟩
            · have E53 := hval 7 _ 53 rfl rfl (dep_of hdep 7 (by rfl))
              unfold putN6Val at E53
              have n9 := not_yet hcl hf 9 (by rfl)
              have n11 := not_yet hcl n9 11 (by rfl)
              have n14 := not_yet hcl n11 14 (by rfl)
              obtain rfl := (hS.pre n14).symm
              refine g_plain rfl ?_
              exact does_value (w' := _) (v := .pointer (some ⟨b1, 1, none⟩)) (by go_simp) ⟨(), .inr rfl, (hS.same 8 (by decide))⟩
            · have E54 := hval 8 _ 54 rfl rfl (dep_of hdep 8 (by rfl))
              unfold putN6Val at E54
              have n11 := not_yet hcl hf 11 (by rfl)
              have n14 := not_yet hcl n11 14 (by rfl)
              obtain rfl := (hS.pre n14).symm
              obtain ⟨c3, cp, cb, hlk⟩ := HC.out
              refine g_plain rfl ?_
              exact does_value (w' := _) (v := .int .i64 sm) (by go_simp) ⟨(), .inr rfl, (hS.same 9 (by decide))⟩
            · have E2 : a.tmps[2]? = some (.int .i64 sz) := (same_of hsame 2 (by rfl)).trans rfl
              have n11 := not_yet hcl hf 11 (by rfl)
              have n14 := not_yet hcl n11 14 (by rfl)
              obtain rfl := (hS.pre n14).symm
              refine g_plain rfl ?_
              exact does_value (w' := _) (v := .int .i64 sz) (by go_simp) ⟨(), .inr rfl, (hS.same 10 (by decide))⟩
            · have E55 := hval 9 _ 55 rfl rfl (dep_of hdep 9 (by rfl))
              have E56 := hval 10 _ 56 rfl rfl (dep_of hdep 10 (by rfl))
              unfold putN6Val at E55 E56
              have n14 := not_yet hcl hf 14 (by rfl)
              obtain rfl := (hS.pre n14).symm
              have hw := HW.out
              refine g_plain rfl ?_
              exact does_value (w' := _) (v := .int .i64 (sm + sz)) (by go_simp) ⟨(), .inr rfl, (hS.same 11 (by decide))⟩
            · have E52 := hval 6 _ 52 rfl rfl (dep_of hdep 6 (by rfl))
              unfold putN6Val at E52
              have n13 := not_yet hcl hf 13 (by rfl)
              have n14 := not_yet hcl n13 14 (by rfl)
              obtain rfl := (hS.pre n14).symm
              refine g_plain rfl ?_
              exact does_value (w' := _) (v := .pointer (some ⟨b1, 0, none⟩)) (by go_simp) ⟨(), .inr rfl, (hS.same 12 (by decide))⟩
            · have E58 := hval 12 _ 58 rfl rfl (dep_of hdep 12 (by rfl))
              unfold putN6Val at E58
              have n14 := not_yet hcl hf 14 (by rfl)
              obtain rfl := (hS.pre n14).symm
              refine g_plain rfl ?_
              exact does_value (w' := _) (v := .pointer (some ⟨b1, 1, none⟩)) (by go_simp) ⟨(), .inr rfl, (hS.same 13 (by decide))⟩
            · have E59 := hval 13 _ 59 rfl rfl (dep_of hdep 13 (by rfl))
              have E57 := hval 11 _ 57 rfl rfl (dep_of hdep 11 (by rfl))
              unfold putN6Val at E59 E57
              refine g_plain rfl ?_
              obtain rfl := (hS.pre hf).symm
              obtain ⟨c3, cp, cb, hlk⟩ := HC.out
              have zb := HZ.out
              exact does_skip (w' := World.setCell _ ⟨b1, 1, none⟩ (.int .i64 (sm + sz))) (by go_simp) ⟨(), .inl rfl, WrS.done rfl⟩
          · intro gh wc hS
            have hwc := hS.post rfl
            have hjc := HJB.out.set_ 1 (.int .i64 (sm + sz)) (cn' := cn + 1) (sm' := sm + sz) rfl
            have HEnd := hid (show PutP w F s m u n q (r, id) sz wc from by
              rw [hwc]
              have h1 := HCS.out.1
              have h2 := HCS.out.2
              rw [h1, h2] at hjc
              rw [h2]
              exact hjc.end_ HH.out HMath.out.1 HMath.out.2.1 HMath.out.2.2.1 HMath.out.2.2.2.1 HBO.out)
            clear hS hjc hwc HJB HC HZ HW
            simp only [putAll, putN6Val, Nat.reduceAdd, Nat.zero_add, Act.put, List.setIfInBounds_toArray, List.set_cons_zero, List.set_cons_succ]
            go_wp2_with fail
            go_end0
            exact ⟨rfl, HEnd.out⟩
def putO2Val (s : Nat) (m : Nat) (sz : Int) (r : List UInt8) (id : List UInt8) : Nat → Unit → Value
  | 0, _ => .pointer (some ⟨s, 0, none⟩)
  | 1, _ => .pointer (some ⟨s, 0, none⟩)
  | 2, _ => .pointer (some ⟨s, 2, none⟩)
  | 3, _ => .map (some m)
  | 4, _ => kval (r, id)
  | 5, _ => .int .i64 sz
  | 6, _ => .agg #[.int .i64 sz]
  | _, _ => undef
def putO3Val (s : Nat) (u : Nat) (p : Nat) (b1 : Nat) (r : List UInt8) : Nat → Unit → Value
  | 0, _ => .pointer (some ⟨s, 0, none⟩)
  | 1, _ => .pointer (some ⟨s, 0, none⟩)
  | 2, _ => .pointer (some ⟨s, 3, none⟩)
  | 3, _ => .map (some u)
  | 4, _ => .pointer (some ⟨p, 0, none⟩)
  | 5, _ => .string (strB r)
  | 6, _ => .pointer (some ⟨b1, 0, none⟩)
  | 7, _ => .bool false
  | _, _ => undef
def putO5Val (s : Nat) (u : Nat) (p : Nat) (b1 : Nat) (cn : Int) (r : List UInt8) : Nat → Unit → Value
  | 0, _ => .pointer (some ⟨s, 0, none⟩)
  | 1, _ => .pointer (some ⟨s, 0, none⟩)
  | 2, _ => .pointer (some ⟨s, 3, none⟩)
  | 3, _ => .map (some u)
  | 4, _ => .pointer (some ⟨p, 0, none⟩)
  | 5, _ => .string (strB r)
  | 6, _ => .pointer (some ⟨b1, 0, none⟩)
  | 7, _ => .pointer (some ⟨b1, 0, none⟩)
  | 8, _ => .pointer (some ⟨b1, 0, none⟩)
  | 9, _ => .int .i64 cn
  | 10, _ => .int .i64 (cn + 1)
  | 11, _ => .pointer (some ⟨b1, 0, none⟩)
  | 12, _ => .pointer (some ⟨b1, 0, none⟩)
  | _, _ => undef
def putO6Val (s : Nat) (u : Nat) (p : Nat) (b1 : Nat) (sm : Int) (sz : Int) (r : List UInt8) : Nat → Unit → Value
  | 0, _ => .pointer (some ⟨s, 0, none⟩)
  | 1, _ => .pointer (some ⟨s, 0, none⟩)
  | 2, _ => .pointer (some ⟨s, 3, none⟩)
  | 3, _ => .map (some u)
  | 4, _ => .pointer (some ⟨p, 0, none⟩)
  | 5, _ => .string (strB r)
  | 6, _ => .pointer (some ⟨b1, 0, none⟩)
  | 7, _ => .pointer (some ⟨b1, 0, none⟩)
  | 8, _ => .pointer (some ⟨b1, 1, none⟩)
  | 9, _ => .int .i64 sm
  | 10, _ => .int .i64 sz
  | 11, _ => .int .i64 (sm + sz)
  | 12, _ => .pointer (some ⟨b1, 0, none⟩)
  | 13, _ => .pointer (some ⟨b1, 1, none⟩)
  | _, _ => undef
set_option maxRecDepth 20000 in
set_option maxHeartbeats 4000000 in
theorem qputOld_calls (h : QtB w F s m u n q g) (r id : List UInt8) (hk : kok (r, id)) (hr : r.length ≤ 128) (hn0 : szQ q.l (r, id) = none) (sz : Int) (hy : 0 ≤ sz ∧ sz ≤ 4096) (hfew : q.l.length < 65536) (hn : n < 1000000)
    (b1 : Nat) (hg : g r = some b1) :
    Calls Try.prog 55 #[.pointer (some ⟨s, 0, none⟩), kval (r, id), .int .i64 sz] w fun e w' => e = .returned (.tuple #[]) ∧ PutP w F s m u n q (r, id) sz w' := by
  have hbx := below_new w (.cells (kcells (r, id)) 71)
  have hkx := Blk.new w 71 (kcells (r, id))
  have HSZ := hid (size33 (k := (r, id)) hk.2)
  have HKO := hid (show lkK.ok (r, id) from hk)
  have HRL := hid (show stK.ok r from hk.1)
  have HN := hid (show n < maxLen from by unfold maxLen; omega)
  have HH := hid h
  have HMath := hid (⟨hk, hn0, hy, hfew, hg⟩ : kok (r, id) ∧ szQ q.l (r, id) = none ∧ (0 ≤ sz ∧ sz ≤ 4096) ∧ q.l.length < 65536 ∧ _)
  have HCL := hid (fun W => sc_clone (strB r) W (by rw [strB_size]; omega))
  clear hk hr hn0 hy hfew hn hg h
  unfold kval
  go_enter Try.func55, Try.ntmps55
  have c0x := hkx.cell 0 (v := .string (strB r)) rfl
  have hlp := hkx.lt
  go_wp2_with fail
  generalize w.alloc (.cells (kcells (r, id)) 71) = w1 at hbx hkx c0x hlp ⊢
  obtain ⟨p, hp⟩ : ∃ p, w.heap.size = p := ⟨_, rfl⟩
  have HPE := hid hp
  have hbx' := hbx
  rw [hp] at hkx c0x hlp ⊢
  have HKX := hid hkx; have HBX := hid hbx'
  clear hbx hbx' hkx hp
  refine (HCL.out w1).mono ?_
  rintro _ w2 ⟨rfl, hb2⟩
  have hk2 := HKX.out.keep hb2
  have c02 := hk2.cell 0 (v := .string (strB r)) rfl
  have z02 := hk2.frozen 0
  have hset := hk2.set_ 0 (.string (strB r))
  rw [kcells_set0 (r, id)] at hset
  have hgs := grown_setCell w2 p 0 (.string (strB r))
  have hb3 := (HBX.out.trans (hb2.mono HBX.out.size)).trans (below_of_grown hgs (Nat.le_trans HBX.out.size hb2.size) (fun g e => by cases e; exact Nat.le_of_eq HPE.out))
  have HK2 := hid hset; have HB3 := hid hb3
  clear hk2 hset hgs hb2 hb3 HKX HBX HCL c0x
  generalize hw3 : w2.setCell ⟨p, 0, none⟩ (.string (strB r)) = w3 at HK2 HB3
  go_wp2_with fail
  clear hw3 c02 z02 hlp
  have hq3 := HH.out.keep HB3.out
  obtain ⟨w4, hwd⟩ : ∃ w4, w3.drew = w4 := ⟨_, rfl⟩
  have hb4 : Below w3.heap.size w3 w4 := hwd ▸ (Below.refl _ _).drew
  have hq4 := hq3.keep hb4
  have HWD := hid hwd; have HKP := hid (HK2.out.keep hb4); have HM := hid hq4.mp
  have HC := hid (⟨hq4.cells.2.2.1, hq4.cells.2.2.2, (HK2.out.keep hb4).cell 0 rfl⟩ : w4.cell? ⟨s, 2, none⟩ = some (.map (some m)) ∧ w4.cell? ⟨s, 3, none⟩ = some (.map (some u)) ∧ w4.cell? ⟨p, 0, none⟩ = some (.string (strB r)))
  have HQ4 := hid hq4
  have HB4 := hid (HB3.out.trans (hb4.mono HB3.out.size))
  clear hq3 hwd hb4 hq4
  refine wp_region_invG 60 () (putO2Val s m sz r id) (fun f _ W => WrS w4 7 (fun W' => MapG lkK szK W' m (n + 1) (fun z => if z = (r, id) then some sz else szQ q.l z) ∧ w4.grownBy W' (some m) ∧ W'.heap.size = w4.heap.size) f W) (by kernel_rfl) (by kernel_rfl) (by exact Nat.le_refl 60) ?_ ?_ ?_
  · exact (by rw [HWD.out]; exact WrS.start 8 (by decide))
  · intro i o f gh a W hi hf hdep hsame hcl hval hS
    rcases i with _ | _ | _ | _ | _ | _ | _ | _ | i
    all_goals simp only [List.getElem?_cons_succ, List.getElem?_cons_zero, List.getElem?_nil, Option.some.injEq, reduceCtorEq] at hi
    all_goals subst hi
    · have E0 : a.tmps[0]? = some (.pointer (some ⟨s, 0, none⟩)) := (same_of hsame 0 (by rfl)).trans rfl
      have n1 := not_yet hcl hf 1 (by rfl)
      have n2 := not_yet hcl n1 2 (by rfl)
      have n3 := not_yet hcl n2 3 (by rfl)
      have n7 := not_yet hcl n3 7 (by rfl)
      obtain rfl := (hS.pre n7).symm
      refine g_plain rfl ?_
      exact does_value (w' := _) (v := .pointer (some ⟨s, 0, none⟩)) (by go_simp) ⟨(), .inr rfl, (hS.same 0 (by decide))⟩
    · have E10 := hval 0 _ 10 rfl rfl (dep_of hdep 0 (by rfl))
      unfold putO2Val at E10
      have n2 := not_yet hcl hf 2 (by rfl)
      have n3 := not_yet hcl n2 3 (by rfl)
      have n7 := not_yet hcl n3 7 (by rfl)
      obtain rfl := (hS.pre n7).symm
      refine g_plain rfl ?_
      exact does_value (w' := _) (v := .pointer (some ⟨s, 0, none⟩)) (by go_simp) ⟨(), .inr rfl, (hS.same 1 (by decide))⟩
    · have E11 := hval 1 _ 11 rfl rfl (dep_of hdep 1 (by rfl))
      unfold putO2Val at E11
      have n3 := not_yet hcl hf 3 (by rfl)
      have n7 := not_yet hcl n3 7 (by rfl)
      obtain rfl := (hS.pre n7).symm
      refine g_plain rfl ?_
      exact does_value (w' := _) (v := .pointer (some ⟨s, 2, none⟩)) (by go_simp) ⟨(), .inr rfl, (hS.same 2 (by decide))⟩
    · have E12 := hval 2 _ 12 rfl rfl (dep_of hdep 2 (by rfl))
      unfold putO2Val at E12
      have n7 := not_yet hcl hf 7 (by rfl)
      obtain rfl := (hS.pre n7).symm
      obtain ⟨c2, c3, cp⟩ := HC.out
      refine g_plain rfl ?_
      exact does_value (w' := _) (v := .map (some m)) (by go_simp) ⟨(), .inr rfl, (hS.same 3 (by decide))⟩
    · have E4 : a.tmps[4]? = some (.pointer (some ⟨p, 0, none⟩)) := (same_of hsame 4 (by rfl)).trans rfl
      have n7 := not_yet hcl hf 7 (by rfl)
      obtain rfl := (hS.pre n7).symm
      refine g_plain rfl ?_
      exact does_load _ _ rfl p (by rw [eval_getD, E4]; rfl) _ (HKP.out) _ Try.underlying71 rfl HSZ.out ⟨(), .inr rfl, (hS.same 4 (by decide))⟩
    · have E2 : a.tmps[2]? = some (.int .i64 sz) := (same_of hsame 2 (by rfl)).trans rfl
      have n6 := not_yet hcl hf 6 (by rfl)
      have n7 := not_yet hcl n6 7 (by rfl)
      obtain rfl := (hS.pre n7).symm
      refine g_plain rfl ?_
      exact does_value (w' := _) (v := .int .i64 sz) (by go_simp) ⟨(), .inr rfl, (hS.same 5 (by decide))⟩
    · have E15 := hval 5 _ 15 rfl rfl (dep_of hdep 5 (by rfl))
      unfold putO2Val at E15
      have n7 := not_yet hcl hf 7 (by rfl)
      obtain rfl := (hS.pre n7).symm
      refine g_plain rfl ?_
      exact does_value (w' := _) (v := .agg #[.int .i64 sz]) (by go_simp) ⟨(), .inr rfl, (hS.same 6 (by decide))⟩
    · have E13 := hval 3 _ 13 rfl rfl (dep_of hdep 3 (by rfl))
      have E14 := hval 4 _ 14 rfl rfl (dep_of hdep 4 (by rfl))
      have E16 := hval 6 _ 16 rfl rfl (dep_of hdep 6 (by rfl))
      unfold putO2Val at E13 E14 E16
      refine g_plain rfl ?_
      obtain rfl := (hS.pre hf).symm
      obtain ⟨W', hrun, hm', hg', hz'⟩ := HM.out.store Try.underlying49 HKO.out HN.out sz
      have hrun' : (Instr.mapUpdate 49 (.map (some m)) (kval (r, id)) (.agg #[.int .i64 sz])).run Try.prog _ = .ok () W' := hrun
      exact does_skip (w' := W') (by go_simp) ⟨(), .inl rfl, WrS.done ⟨hm', hg', hz'⟩⟩
  · intro gh w5 hS
    obtain ⟨hm5, hg5, hz5⟩ := hS.post rfl
    have hc5 : Chg [m] w w5 := (Chg.of_below (L := [m]) HB4.out).trans (Chg.of_grown (L := [m]) hg5 (fun g e => (by cases e; simp))) (fun b hb => .inl hb)
    have hpm : p ≠ m := by have := HH.out.lt m HH.out.ins.2.1; have := HPE.out; omega
    have HI := hid (show PutI w w5 s m u p n q g r id sz from ⟨hc5, HQ4.out.hd.grown hg5 (by simpa using Ne.symm HH.out.ne.1), HQ4.out.us.grown hg5 (by simpa using HH.out.ne.2.2), hm5, HKP.out.grown hg5 (by simpa using Ne.symm hpm), Nat.le_of_eq HPE.out⟩)
    have HBU := hid (show ∃ cn sm, cn = cntQ q.l r ∧ sm = sumQ q.l r ∧ Blk w5 b1 91 #[.int .i64 cn, .int .i64 sm] ∧ b1 ≠ s ∧ b1 ≠ m ∧ b1 ≠ u ∧ b1 ≠ p from by
      have he := HH.out.each r HMath.out.1.1
      rw [HMath.out.2.2.2.2] at he
      obtain ⟨_, h2, h3, h4, h5, h6⟩ := he
      exact ⟨_, _, rfl, rfl, (h2.keep HB4.out).grown hg5 (by simpa using Ne.symm h5), h4, h5, h6, by have := HH.out.lt b1 h3; have := HPE.out; omega⟩)
    clear hm5 hg5 hz5 hc5 hpm hS HC HM HKP HQ4 HB4 HWD HB3 HK2
    simp only [putAll, putO2Val, Nat.reduceAdd, Nat.zero_add, Act.put, List.setIfInBounds_toArray, List.set_cons_zero, List.set_cons_succ]
    have HC := hid (fun W (hb : Below w5.heap.size w5 W) => (⟨(HI.out.keep hb).hd.cell 3 rfl, (HI.out.keep hb).kp.cell 0 rfl, by have := look_use (HI.out.keep hb).us (r := r) HRL.out; rw [HMath.out.2.2.2.2] at this; exact this⟩ : W.cell? ⟨s, 3, none⟩ = some (.map (some u)) ∧ W.cell? ⟨p, 0, none⟩ = some (.string (strB r)) ∧ (Instr.lookup 50 (.map (some u)) (.string (strB r)) false).run Try.prog W = .ok
      (.pointer (some ⟨b1, 0, none⟩)) W))
    go_wp2_with fail
    refine wp_region_invG 60 () (putO3Val s u p b1 r) (fun _ _ W => Below w5.heap.size w5 W) (by kernel_rfl) (by kernel_rfl) (by exact Nat.le_refl 60) ?_ ?_ ?_
    · exact (Below.refl _ _).drew
    · intro i o f gh a W hi hf hdep hsame hcl hval hS
      rcases i with _ | _ | _ | _ | _ | _ | _ | _ | i
      all_goals simp only [List.getElem?_cons_succ, List.getElem?_cons_zero, List.getElem?_nil, Option.some.injEq, reduceCtorEq] at hi
      all_goals subst hi
      · have E0 : a.tmps[0]? = some (.pointer (some ⟨s, 0, none⟩)) := (same_of hsame 0 (by rfl)).trans rfl
        refine g_plain rfl ?_
        exact does_value (w' := W) (v := .pointer (some ⟨s, 0, none⟩)) (by go_simp) ⟨(), .inr rfl, hS⟩
      · have E17 := hval 0 _ 17 rfl rfl (dep_of hdep 0 (by rfl))
        unfold putO3Val at E17
        refine g_plain rfl ?_
        exact does_value (w' := W) (v := .pointer (some ⟨s, 0, none⟩)) (by go_simp) ⟨(), .inr rfl, hS⟩
      · have E18 := hval 1 _ 18 rfl rfl (dep_of hdep 1 (by rfl))
        unfold putO3Val at E18
        refine g_plain rfl ?_
        exact does_value (w' := W) (v := .pointer (some ⟨s, 3, none⟩)) (by go_simp) ⟨(), .inr rfl, hS⟩
      · have E19 := hval 2 _ 19 rfl rfl (dep_of hdep 2 (by rfl))
        unfold putO3Val at E19
        obtain ⟨c3, cp, hlk⟩ := HC.out W hS
        refine g_plain rfl ?_
        exact does_value (w' := W) (v := .map (some u)) (by go_simp) ⟨(), .inr rfl, hS⟩
      · have E4 : a.tmps[4]? = some (.pointer (some ⟨p, 0, none⟩)) := (same_of hsame 4 (by rfl)).trans rfl
        refine g_plain rfl ?_
        exact does_value (w' := W) (v := .pointer (some ⟨p, 0, none⟩)) (by go_simp) ⟨(), .inr rfl, hS⟩
      · have E21 := hval 4 _ 21 rfl rfl (dep_of hdep 4 (by rfl))
        unfold putO3Val at E21
        obtain ⟨c3, cp, hlk⟩ := HC.out W hS
        refine g_plain rfl ?_
        exact does_value (w' := W) (v := .string (strB r)) (by go_simp) ⟨(), .inr rfl, hS⟩
      · have E20 := hval 3 _ 20 rfl rfl (dep_of hdep 3 (by rfl))
        have E22 := hval 5 _ 22 rfl rfl (dep_of hdep 5 (by rfl))
        unfold putO3Val at E20 E22
        obtain ⟨c3, cp, hlk⟩ := HC.out W hS
        refine g_plain rfl ?_
        exact does_value (w' := W) (v := .pointer (some ⟨b1, 0, none⟩)) (by go_simp) ⟨(), .inr rfl, hS⟩
      · have E23 := hval 6 _ 23 rfl rfl (dep_of hdep 6 (by rfl))
        unfold putO3Val at E23
        refine g_plain rfl ?_
        exact does_value (w' := W) (v := .bool false) (by go_simp) ⟨(), .inr rfl, hS⟩
    · intro gh w6 hS
      have hi6 := HI.out.keep hS
      obtain ⟨cn, sm, e1, e2, hbu, n1, n2, n3, n4⟩ := HBU.out
      have HCS := hid (show cn = cntQ q.l r ∧ sm = sumQ q.l r from ⟨e1, e2⟩)
      have HBO := hid (show g r = some b1 ∨ (g r = none ∧ w.heap.size ≤ b1) from .inl HMath.out.2.2.2.2)
      have HJ := hid (show PutJ w w6 s m u p n q g r id sz b1 cn sm from ⟨hi6.chg.more (fun b hb => .inl (by simp at hb; simp [hb])), hi6.hd, (hi6.us.mono (Nat.le_succ n)).congr (fun z _ => by
        by_cases e : z = r
        · rw [if_pos e, e]; exact HMath.out.2.2.2.2
        · rw [if_neg e]), hi6.mp, hi6.kp, hbu.keep hS, n1, n2, n3, n4⟩)
      clear hi6 e1 e2 hbu n1 n2 n3 n4 HBU HI HC hS
      obtain ⟨w8, hw8⟩ : ∃ w8, w8 = w6 := ⟨_, rfl⟩
      subst hw8
      simp only [putAll, putO3Val, Nat.reduceAdd, Nat.zero_add, Act.put, List.setIfInBounds_toArray, List.set_cons_zero, List.set_cons_succ]
      go_wp2_with fail
      have hj9 := HJ.out.keep ((Below.refl w8.heap.size w8).drew)
      generalize hwd : w8.drew = w9 at hj9
      have HWD := hid hwd
      have HC := hid (⟨hj9.hd.cell 3 rfl, hj9.kp.cell 0 rfl, hj9.bu.cell 0 rfl, by have := look_use hj9.us (r := r) HRL.out; rw [if_pos rfl] at this; exact this⟩ : w9.cell? ⟨s, 3, none⟩ = some (.map (some u)) ∧ w9.cell? ⟨p, 0, none⟩ = some (.string (strB r)) ∧ w9.cell? ⟨b1, 0, none⟩ = some (.int .i64 cn) ∧ (Instr.lookup 50 (.map (some u)) (.string (strB r)) false).run Try.prog w9 = .ok (.pointer (some ⟨b1, 0, none⟩)) w9)
      have HZ := hid (hj9.bu.frozen 0)
      have HW := hid (show IntKind.i64.wrap (cn + 1) = cn + 1 from IntWalk.i64_in _ (by have := HCS.out.1; have := HH.out.ok.cnt r; omega))
      have HJ9 := hid hj9
      clear hj9 hwd HJ
      refine wp_region_invG 60 () (putO5Val s u p b1 cn r) (fun f _ W => WrS w9 13 (fun W' => W' = World.setCell w9 ⟨b1, 0, none⟩ (.int .i64 (cn + 1))) f W) (by kernel_rfl) (by kernel_rfl) (by exact Nat.le_refl 60) ?_ ?_ ?_
      · exact (by rw [HWD.out]; exact WrS.start 14 (by decide))
      · intro i o f gh a W hi hf hdep hsame hcl hval hS
        rcases i with _ | _ | _ | _ | _ | _ | _ | _ | _ | _ | _ | _ | _ | _ | i
        all_goals simp only [List.getElem?_cons_succ, List.getElem?_cons_zero, List.getElem?_nil, Option.some.injEq, reduceCtorEq] at hi
        all_goals subst hi
        · have E0 : a.tmps[0]? = some (.pointer (some ⟨s, 0, none⟩)) := (same_of hsame 0 (by rfl)).trans rfl
          have n1 := not_yet hcl hf 1 (by rfl)
          have n2 := not_yet hcl n1 2 (by rfl)
          have n3 := not_yet hcl n2 3 (by rfl)
          have n6 := not_yet hcl n3 6 (by rfl)
          have n11 := not_yet hcl n6 11 (by rfl)
          have n12 := not_yet hcl n11 12 (by rfl)
          have n13 := not_yet hcl n12 13 (by rfl)
          obtain rfl := (hS.pre n13).symm
          refine g_plain rfl ?_
          exact does_value (w' := _) (v := .pointer (some ⟨s, 0, none⟩)) (by go_simp) ⟨(), .inr rfl, (hS.same 0 (by decide))⟩
        · have E33 := hval 0 _ 33 rfl rfl (dep_of hdep 0 (by rfl))
          unfold putO5Val at E33
          have n2 := not_yet hcl hf 2 (by rfl)
          have n3 := not_yet hcl n2 3 (by rfl)
          have n6 := not_yet hcl n3 6 (by rfl)
          have n11 := not_yet hcl n6 11 (by rfl)
          have n12 := not_yet hcl n11 12 (by rfl)
          have n13 := not_yet hcl n12 13 (by rfl)
          obtain rfl := (hS.pre n13).symm
          refine g_plain rfl ?_
          exact does_value (w' := _) (v := .pointer (some ⟨s, 0, none⟩)) (by go_simp) ⟨(), .inr rfl, (hS.same 1 (by decide))⟩
        · have E34 := hval 1 _ 34 rfl rfl (dep_of hdep 1 (by rfl))
          unfold putO5Val at E34
          have n3 := not_yet hcl hf 3 (by rfl)
          have n6 := not_yet hcl n3 6 (by rfl)
          have n11 := not_yet hcl n6 11 (by rfl)
          have n12 := not_yet hcl n11 12 (by rfl)
          have n13 := not_yet hcl n12 13 (by rfl)
          obtain rfl := (hS.pre n13).symm
          refine g_plain rfl ?_
          exact does_value (w' := _) (v := .pointer (some ⟨s, 3, none⟩)) (by go_simp) ⟨(), .inr rfl, (hS.same 2 (by decide))⟩
        · have E35 := hval 2 _ 35 rfl rfl (dep_of hdep 2 (by rfl))
          unfold putO5Val at E35
          have n6 := not_yet hcl hf 6 (by rfl)
          have n11 := not_yet hcl n6 11 (by rfl)
          have n12 := not_yet hcl n11 12 (by rfl)
          have n13 := not_yet hcl n12 13 (by rfl)
          obtain rfl := (hS.pre n13).symm
          obtain ⟨c3, cp, cb, hlk⟩ := HC.out
          refine g_plain rfl ?_
          exact does_value (w' := _) (v := .map (some u)) (by go_simp) ⟨(), .inr rfl, (hS.same 3 (by decide))⟩
        · have E4 : a.tmps[4]? = some (.pointer (some ⟨p, 0, none⟩)) := (same_of hsame 4 (by rfl)).trans rfl
          have n5 := not_yet hcl hf 5 (by rfl)
          have n6 := not_yet hcl n5 6 (by rfl)
          have n11 := not_yet hcl n6 11 (by rfl)
          have n12 := not_yet hcl n11 12 (by rfl)
          have n13 := not_yet hcl n12 13 (by rfl)
          obtain rfl := (hS.pre n13).symm
          refine g_plain rfl ?_
          exact does_value (w' := _) (v := .pointer (some ⟨p, 0, none⟩)) (by go_simp) ⟨(), .inr rfl, (hS.same 4 (by decide))⟩
        · have E37 := hval 4 _ 37 rfl rfl (dep_of hdep 4 (by rfl))
          unfold putO5Val at E37
          have n6 := not_yet hcl hf 6 (by rfl)
          have n11 := not_yet hcl n6 11 (by rfl)
          have n12 := not_yet hcl n11 12 (by rfl)
          have n13 := not_yet hcl n12 13 (by rfl)
          obtain rfl := (hS.pre n13).symm
          obtain ⟨c3, cp, cb, hlk⟩ := HC.out
          refine g_plain rfl ?_
          exact does_value (w' := _) (v := .string (strB r)) (by go_simp) ⟨(), .inr rfl, (hS.same 5 (by decide))⟩
        · have E36 := hval 3 _ 36 rfl rfl (dep_of hdep 3 (by rfl))
          have E38 := hval 5 _ 38 rfl rfl (dep_of hdep 5 (by rfl))
          unfold putO5Val at E36 E38
          have n11 := not_yet hcl hf 11 (by rfl)
          have n12 := not_yet hcl n11 12 (by rfl)
          have n13 := not_yet hcl n12 13 (by rfl)
          obtain rfl := (hS.pre n13).symm
          obtain ⟨c3, cp, cb, hlk⟩ := HC.out
          refine g_plain rfl ?_
          exact does_value (w' := _) (v := .pointer (some ⟨b1, 0, none⟩)) (by go_simp) ⟨(), .inr rfl, (hS.same 6 (by decide))⟩
        · have E39 := hval 6 _ 39 rfl rfl (dep_of hdep 6 (by rfl))
          unfold putO5Val at E39
          have n8 := not_yet hcl hf 8 (by rfl)
          have n9 := not_yet hcl n8 9 (by rfl)
          have n10 := not_yet hcl n9 10 (by rfl)
          have n13 := not_yet hcl n10 13 (by rfl)
          obtain rfl := (hS.pre n13).symm
          refine g_plain rfl ?_
          exact does_value (w' := _) (v := .pointer (some ⟨b1, 0, none⟩)) (by go_simp) ⟨(), .inr rfl, (hS.same 7 (by decide))⟩
        · have E40 := hval 7 _ 40 rfl rfl (dep_of hdep 7 (by rfl))
          unfold putO5Val at E40
          have n9 := not_yet hcl hf 9 (by rfl)
          have n10 := not_yet hcl n9 10 (by rfl)
          have n13 := not_yet hcl n10 13 (by rfl)
          obtain rfl := (hS.pre n13).symm
          refine g_plain rfl ?_
          exact does_value (w' := _) (v := .pointer (some ⟨b1, 0, none⟩)) (by go_simp) ⟨(), .inr rfl, (hS.same 8 (by decide))⟩
        · have E41 := hval 8 _ 41 rfl rfl (dep_of hdep 8 (by rfl))
          unfold putO5Val at E41
          have n10 := not_yet hcl hf 10 (by rfl)
          have n13 := not_yet hcl n10 13 (by rfl)
          obtain rfl := (hS.pre n13).symm
          obtain ⟨c3, cp, cb, hlk⟩ := HC.out
          refine g_plain rfl ?_
          exact does_value (w' := _) (v := .int .i64 cn) (by go_simp) ⟨(), .inr rfl, (hS.same 9 (by decide))⟩
        · have E42 := hval 9 _ 42 rfl rfl (dep_of hdep 9 (by rfl))
          unfold putO5Val at E42
          have n13 := not_yet hcl hf 13 (by rfl)
          obtain rfl := (hS.pre n13).symm
          have hw := HW.out
          refine g_plain rfl ?_
          exact does_value (w' := _) (v := .int .i64 (cn + 1)) (by go_simp) ⟨(), .inr rfl, (hS.same 10 (by decide))⟩
        · have E39 := hval 6 _ 39 rfl rfl (dep_of hdep 6 (by rfl))
          unfold putO5Val at E39
          have n12 := not_yet hcl hf 12 (by rfl)
          have n13 := not_yet hcl n12 13 (by rfl)
          obtain rfl := (hS.pre n13).symm
          refine g_plain rfl ?_
          exact does_value (w' := _) (v := .pointer (some ⟨b1, 0, none⟩)) (by go_simp) ⟨(), .inr rfl, (hS.same 11 (by decide))⟩
        · have E44 := hval 11 _ 44 rfl rfl (dep_of hdep 11 (by rfl))
          unfold putO5Val at E44
          have n13 := not_yet hcl hf 13 (by rfl)
          obtain rfl := (hS.pre n13).symm
          refine g_plain rfl ?_
          exact does_value (w' := _) (v := .pointer (some ⟨b1, 0, none⟩)) (by go_simp) ⟨(), .inr rfl, (hS.same 12 (by decide))⟩
        · have E45 := hval 12 _ 45 rfl rfl (dep_of hdep 12 (by rfl))
          have E43 := hval 10 _ 43 rfl rfl (dep_of hdep 10 (by rfl))
          unfold putO5Val at E45 E43
          refine g_plain rfl ?_
          obtain rfl := (hS.pre hf).symm
          obtain ⟨c3, cp, cb, hlk⟩ := HC.out
          have zb := HZ.out
          exact does_skip (w' := World.setCell _ ⟨b1, 0, none⟩ (.int .i64 (cn + 1))) (by go_simp) ⟨(), .inl rfl, WrS.done rfl⟩
      · intro gh wa hS
        have hwa := hS.post rfl
        subst hwa
        have hja := (HJ9.out.set_ 0 (.int .i64 (cn + 1)) (cn' := cn + 1) (sm' := sm) rfl).keep ((Below.refl _ _).drew)
        generalize hwb0 : World.setCell w9 ⟨b1, 0, none⟩ (.int .i64 (cn + 1)) = wa0 at hja
        generalize hwb : wa0.drew = wb at hja
        have HWD := hid hwb
        have HC := hid (⟨hja.hd.cell 3 rfl, hja.kp.cell 0 rfl, hja.bu.cell 1 rfl, by have := look_use hja.us (r := r) HRL.out; rw [if_pos rfl] at this; exact this⟩ : wb.cell? ⟨s, 3, none⟩ = some (.map (some u)) ∧ wb.cell? ⟨p, 0, none⟩ = some (.string (strB r)) ∧ wb.cell? ⟨b1, 1, none⟩ = some (.int .i64 sm) ∧ (Instr.lookup 50 (.map (some u)) (.string (strB r)) false).run Try.prog wb = .ok (.pointer (some ⟨b1, 0, none⟩)) wb)
        have HZ := hid (hja.bu.frozen 1)
        have HW := hid (show IntKind.i64.wrap (sm + sz) = sm + sz from IntWalk.i64_in _ (by have := HCS.out.2; have := HH.out.ok.sum r; have := HMath.out.2.2.1; omega))
        have HJB := hid hja
        clear hja hwb hS HJ9
        simp only [putAll, putO5Val, Nat.reduceAdd, Nat.zero_add, Act.put, List.setIfInBounds_toArray, List.set_cons_zero, List.set_cons_succ]
        go_wp2_with fail
        refine wp_region_invG 60 () (putO6Val s u p b1 sm sz r) (fun f _ W => WrS wb 14 (fun W' => W' = World.setCell wb ⟨b1, 1, none⟩ (.int .i64 (sm + sz))) f W) (by kernel_rfl) (by kernel_rfl) (by exact Nat.le_refl 60) ?_ ?_ ?_
        · exact (by rw [HWD.out]; exact WrS.start 15 (by decide))
        · intro i o f gh a W hi hf hdep hsame hcl hval hS
          rcases i with _ | _ | _ | _ | _ | _ | _ | _ | _ | _ | _ | _ | _ | _ | _ | i
          all_goals simp only [List.getElem?_cons_succ, List.getElem?_cons_zero, List.getElem?_nil, Option.some.injEq, reduceCtorEq] at hi
          all_goals subst hi
          · have E0 : a.tmps[0]? = some (.pointer (some ⟨s, 0, none⟩)) := (same_of hsame 0 (by rfl)).trans rfl
            have n1 := not_yet hcl hf 1 (by rfl)
            have n2 := not_yet hcl n1 2 (by rfl)
            have n3 := not_yet hcl n2 3 (by rfl)
            have n6 := not_yet hcl n3 6 (by rfl)
            have n12 := not_yet hcl n6 12 (by rfl)
            have n13 := not_yet hcl n12 13 (by rfl)
            have n14 := not_yet hcl n13 14 (by rfl)
            obtain rfl := (hS.pre n14).symm
            refine g_plain rfl ?_
            exact does_value (w' := _) (v := .pointer (some ⟨s, 0, none⟩)) (by go_simp) ⟨(), .inr rfl, (hS.same 0 (by decide))⟩
          · have E46 := hval 0 _ 46 rfl rfl (dep_of hdep 0 (by rfl))
            unfold putO6Val at E46
            have n2 := not_yet hcl hf 2 (by rfl)
            have n3 := not_yet hcl n2 3 (by rfl)
            have n6 := not_yet hcl n3 6 (by rfl)
            have n12 := not_yet hcl n6 12 (by rfl)
            have n13 := not_yet hcl n12 13 (by rfl)
            have n14 := not_yet hcl n13 14 (by rfl)
            obtain rfl := (hS.pre n14).symm
            refine g_plain rfl ?_
            exact does_value (w' := _) (v := .pointer (some ⟨s, 0, none⟩)) (by go_simp) ⟨(), .inr rfl, (hS.same 1 (by decide))⟩
          · have E47 := hval 1 _ 47 rfl rfl (dep_of hdep 1 (by rfl))
            unfold putO6Val at E47
            have n3 := not_yet hcl hf 3 (by rfl)
            have n6 := not_yet hcl n3 6 (by rfl)
            have n12 := not_yet hcl n6 12 (by rfl)
            have n13 := not_yet hcl n12 13 (by rfl)
            have n14 := not_yet hcl n13 14 (by rfl)
            obtain rfl := (hS.pre n14).symm
            refine g_plain rfl ?_
            exact does_value (w' := _) (v := .pointer (some ⟨s, 3, none⟩)) (by go_simp) ⟨(), .inr rfl, (hS.same 2 (by decide))⟩
          · have E48 := hval 2 _ 48 rfl rfl (dep_of hdep 2 (by rfl))
            unfold putO6Val at E48
            have n6 := not_yet hcl hf 6 (by rfl)
            have n12 := not_yet hcl n6 12 (by rfl)
            have n13 := not_yet hcl n12 13 (by rfl)
            have n14 := not_yet hcl n13 14 (by rfl)
            obtain rfl := (hS.pre n14).symm
            obtain ⟨c3, cp, cb, hlk⟩ := HC.out
            refine g_plain rfl ?_
            exact does_value (w' := _) (v := .map (some u)) (by go_simp) ⟨(), .inr rfl, (hS.same 3 (by decide))⟩
          · have E4 : a.tmps[4]? = some (.pointer (some ⟨p, 0, none⟩)) := (same_of hsame 4 (by rfl)).trans rfl
            have n5 := not_yet hcl hf 5 (by rfl)
            have n6 := not_yet hcl n5 6 (by rfl)
            have n12 := not_yet hcl n6 12 (by rfl)
            have n13 := not_yet hcl n12 13 (by rfl)
            have n14 := not_yet hcl n13 14 (by rfl)
            obtain rfl := (hS.pre n14).symm
            refine g_plain rfl ?_
            exact does_value (w' := _) (v := .pointer (some ⟨p, 0, none⟩)) (by go_simp) ⟨(), .inr rfl, (hS.same 4 (by decide))⟩
          · have E50 := hval 4 _ 50 rfl rfl (dep_of hdep 4 (by rfl))
            unfold putO6Val at E50
            have n6 := not_yet hcl hf 6 (by rfl)
            have n12 := not_yet hcl n6 12 (by rfl)
            have n13 := not_yet hcl n12 13 (by rfl)
            have n14 := not_yet hcl n13 14 (by rfl)
            obtain rfl := (hS.pre n14).symm
            obtain ⟨c3, cp, cb, hlk⟩ := HC.out
            refine g_plain rfl ?_
            exact does_value (w' := _) (v := .string (strB r)) (by go_simp) ⟨(), .inr rfl, (hS.same 5 (by decide))⟩
          · have E49 := hval 3 _ 49 rfl rfl (dep_of hdep 3 (by rfl))
            have E51 := hval 5 _ 51 rfl rfl (dep_of hdep 5 (by rfl))
            unfold putO6Val at E49 E51
            have n12 := not_yet hcl hf 12 (by rfl)
            have n13 := not_yet hcl n12 13 (by rfl)
            have n14 := not_yet hcl n13 14 (by rfl)
            obtain rfl := (hS.pre n14).symm
            obtain ⟨c3, cp, cb, hlk⟩ := HC.out
            refine g_plain rfl ?_
            exact does_value (w' := _) (v := .pointer (some ⟨b1, 0, none⟩)) (by go_simp) ⟨(), .inr rfl, (hS.same 6 (by decide))⟩
          · have E52 := hval 6 _ 52 rfl rfl (dep_of hdep 6 (by rfl))
            unfold putO6Val at E52
            have n8 := not_yet hcl hf 8 (by rfl)
            have n9 := not_yet hcl n8 9 (by rfl)
            have n11 := not_yet hcl n9 11 (by rfl)
            have n14 := not_yet hcl n11 14 (by rfl)
            obtain rfl := (hS.pre n14).symm
            refine g_plain rfl ?_
            exact does_value (w' := _) (v := .pointer (some ⟨b1, 0, none⟩)) (by go_simp) ⟨(), .inr rfl, (hS.same 7 (by decide))⟩
          · have E53 := hval 7 _ 53 rfl rfl (dep_of hdep 7 (by rfl))
            unfold putO6Val at E53
            have n9 := not_yet hcl hf 9 (by rfl)
            have n11 := not_yet hcl n9 11 (by rfl)
            have n14 := not_yet hcl n11 14 (by rfl)
            obtain rfl := (hS.pre n14).symm
            refine g_plain rfl ?_
            exact does_value (w' := _) (v := .pointer (some ⟨b1, 1, none⟩)) (by go_simp) ⟨(), .inr rfl, (hS.same 8 (by decide))⟩
          · have E54 := hval 8 _ 54 rfl rfl (dep_of hdep 8 (by rfl))
            unfold putO6Val at E54
            have n11 := not_yet hcl hf 11 (by rfl)
            have n14 := not_yet hcl n11 14 (by rfl)
            obtain rfl := (hS.pre n14).symm
            obtain ⟨c3, cp, cb, hlk⟩ := HC.out
            refine g_plain rfl ?_
            exact does_value (w' := _) (v := .int .i64 sm) (by go_simp) ⟨(), .inr rfl, (hS.same 9 (by decide))⟩
          · have E2 : a.tmps[2]? = some (.int .i64 sz) := (same_of hsame 2 (by rfl)).trans rfl
            have n11 := not_yet hcl hf 11 (by rfl)
            have n14 := not_yet hcl n11 14 (by rfl)
            obtain rfl := (hS.pre n14).symm
            refine g_plain rfl ?_
            exact does_value (w' := _) (v := .int .i64 sz) (by go_simp) ⟨(), .inr rfl, (hS.same 10 (by decide))⟩
          · have E55 := hval 9 _ 55 rfl rfl (dep_of hdep 9 (by rfl))
            have E56 := hval 10 _ 56 rfl rfl (dep_of hdep 10 (by rfl))
            unfold putO6Val at E55 E56
            have n14 := not_yet hcl hf 14 (by rfl)
            obtain rfl := (hS.pre n14).symm
            have hw := HW.out
            refine g_plain rfl ?_
            exact does_value (w' := _) (v := .int .i64 (sm + sz)) (by go_simp) ⟨(), .inr rfl, (hS.same 11 (by decide))⟩
          · have E52 := hval 6 _ 52 rfl rfl (dep_of hdep 6 (by rfl))
            unfold putO6Val at E52
            have n13 := not_yet hcl hf 13 (by rfl)
            have n14 := not_yet hcl n13 14 (by rfl)
            obtain rfl := (hS.pre n14).symm
            refine g_plain rfl ?_
            exact does_value (w' := _) (v := .pointer (some ⟨b1, 0, none⟩)) (by go_simp) ⟨(), .inr rfl, (hS.same 12 (by decide))⟩
          · have E58 := hval 12 _ 58 rfl rfl (dep_of hdep 12 (by rfl))
            unfold putO6Val at E58
            have n14 := not_yet hcl hf 14 (by rfl)
            obtain rfl := (hS.pre n14).symm
            refine g_plain rfl ?_
            exact does_value (w' := _) (v := .pointer (some ⟨b1, 1, none⟩)) (by go_simp) ⟨(), .inr rfl, (hS.same 13 (by decide))⟩
          · have E59 := hval 13 _ 59 rfl rfl (dep_of hdep 13 (by rfl))
            have E57 := hval 11 _ 57 rfl rfl (dep_of hdep 11 (by rfl))
            unfold putO6Val at E59 E57
            refine g_plain rfl ?_
            obtain rfl := (hS.pre hf).symm
            obtain ⟨c3, cp, cb, hlk⟩ := HC.out
            have zb := HZ.out
            exact does_skip (w' := World.setCell _ ⟨b1, 1, none⟩ (.int .i64 (sm + sz))) (by go_simp) ⟨(), .inl rfl, WrS.done rfl⟩
        · intro gh wc hS
          have hwc := hS.post rfl
          have hjc := HJB.out.set_ 1 (.int .i64 (sm + sz)) (cn' := cn + 1) (sm' := sm + sz) rfl
          have HEnd := hid (show PutP w F s m u n q (r, id) sz wc from by
            rw [hwc]
            have h1 := HCS.out.1
            have h2 := HCS.out.2
            rw [h1, h2] at hjc
            rw [h2]
            exact hjc.end_ HH.out HMath.out.1 HMath.out.2.1 HMath.out.2.2.1 HMath.out.2.2.2.1 HBO.out)
          clear hS hjc hwc HJB HC HZ HW
          simp only [putAll, putO6Val, Nat.reduceAdd, Nat.zero_add, Act.put, List.setIfInBounds_toArray, List.set_cons_zero, List.set_cons_succ]
          go_wp2_with fail
          go_end0
          exact ⟨rfl, HEnd.out⟩
end
end Go.Proofs.Ytjgnbmkhibdcfaa
