/- Contract: the plain reference's New. Written by tools/mkdv.py out of XDvRfN.tpl. -/
import Derived.Test.YtoajnabdflikfaaDvRfT
namespace Go.Proofs.Ytoajnabdflikfaa
open Go.RowKit

theorem rNew_bad (n : Int) (w : World) (h : n < 1 ∨ 65536 < n) : Calls Try.prog 11 #[.int .i64 n] w fun e w' => e = .returned (.tuple #[.pointer none, .int .i64 3]) ∧ w = w' := by
  by_cases h1 : n < 1
  · clear h
    go_enter Try.func11, Try.ntmps11
    go_wp2_with fail
    go_ret2
    exact ⟨rfl, rfl⟩
  · have h2 : 65536 < n := by omega
    clear h
    go_enter Try.func11, Try.ntmps11
    go_wp2_with fail
    go_ret2
    exact ⟨rfl, rfl⟩
theorem does_mk {P : Program} {o : Oper} {a : Act} {w w' : World} {T : Value → World → Prop} (t : TypeId) (l c : Value) (ho : o.op = .makeSlice t (.const l) (.const c)) {v : Value} (hr : (Instr.makeSlice t l c).run P w = .ok v w') (h : T v w') : OpDoes P o a w T := fun K Q hK => by
  unfold Oper.wp execOp
  simp only [ho, Act.eval, Sem.run_bind, hr, Result.andThen_ok]
  exact hK _ _ h
def z64 : List UInt8 := List.replicate 64 0
theorem run_mk64 (W : World) : (Instr.makeSlice 37 (.int .i64 64) (.int .i64 64)).run Try.prog W = .ok (.slice (some ⟨W.heap.size, 0, none⟩) 64 64) (W.alloc (.cells (z64.map bv).toArray 5)) := by kernel_rfl
theorem own_mk64 (W : World) (B : Nat) (hB : B ≤ W.heap.size) : Own (W.alloc (.cells (z64.map bv).toArray 5)) B 5 (.slice (some ⟨W.heap.size, 0, none⟩) 64 64) 64 z64 := Own.lit W 5 B z64 _ 64 rfl rfl hB (by omega)
theorem info_sl : (Try.prog.info? 37).map (fun i => (i.zero, i.size, i.bytes)) = some (some (.slice none 0 0), 1, 24) := by kernel_rfl
/-- the head of a device that is being made -/
def dvH (A : Option Addr) (k cA : Nat) : Array Value := #[.slice A k cA, .slice none 0 0, .bool false, .int .i64 0, .bool false]
def NwP (w1 : World) (B0 : Nat) (v : Value) (W : World) : Prop := Own W B0 5 v 64 z64 ∧ ∀ b, v.ownBlock = some b → w1.heap.size ≤ b
def NwN (v : Value) (B : Nat) : Prop := ∀ b, v.ownBlock = some b → b < B
theorem secAt_no (n i : Nat) (h : i < n) : secAt (noB n) i = z64 := by
  unfold secAt noB z64
  rw [List.drop_replicate, List.take_replicate, Nat.min_eq_left (by omega)]
theorem nwp_st {wr : World} {w T k : Nat} {t : TypeId} {cs : Array Value} {sv : Value} {vs : List Value} {B : Nat} {e : TypeId} (h : Blk wr T t cs) (hr : wr.ownsRow B e 1 sv k vs) : ∀ v W W', wr.heap.size ≤ W.heap.size → Chg (T :: sv.ownBlock.toList) W W' → NwP wr w v W → NwP wr w v W' := fun v W W' hz hc hp =>
  ⟨hp.1.chg hc (fun g e hm => by
    have h1 := hp.2 g e
    rcases List.mem_cons.1 hm with rfl | hm
    · have := h.lt; omega
    · have := (World.ownsRow.lt hr g (by simpa using hm)).2; omega), hp.2⟩
theorem dv_grow {wr W : World} {g k cA : Nat} {A : Option Addr} {vs : List Value} {D : List Nat} {gh : Nat → Value} (hI : RdIn wr g g A none cA 0 vs [] D 0 0 (startS k))
    (hS : ApS wr g g 0 69 37 (dvH A k cA) (.slice A k cA) k vs 5 6 7 10 (NwP wr g) NwN (fun _ => true) gh W) : ∃ cA' A' D', RdIn W g g A' none cA' 0 (vs ++ [gh 5]) [] D' 0 0 (startS (k + 1)) := by
  obtain ⟨-, hr, hmv⟩ := hS.ap rfl
  obtain ⟨-, hup⟩ := hS.up rfl
  obtain ⟨hown, hnew⟩ := hS.post rfl
  obtain ⟨q, c, ev⟩ := Go.Joins.ownsRow_form hr (by omega)
  obtain ⟨q5, c5, e5⟩ := Go.Joins.ownsRow_form hown (by omega)
  have hc := hS.chg
  have hlt := hI.lt
  have h5 : wr.heap.size ≤ q5 := hnew q5 (by rw [e5]; rfl)
  have h5l : q5 < W.heap.size := (World.ownsRow.lt hown q5 (by rw [e5]; rfl)).2
  have hq : (rowOf A = some q) ∨ (wr.heap.size ≤ q ∧ q5 < q) := by
    rw [ev, own_row] at hmv
    rcases hmv with h | ⟨b, h, hb, hn⟩
    · left; rw [← own_row A k cA, ← h]; rfl
    · right
      have : q = b := by injection h
      subst this
      exact ⟨hb, hn q5 (by rw [e5]; rfl)⟩
  have hgl : g < wr.heap.size := (hlt g (.inl rfl)).2
  have hL : ∀ b ∈ D, b ∉ g :: (Value.slice A k cA).ownBlock.toList := fun b hb hm => by
    have hd := hI.dd b hb
    rcases List.mem_cons.1 hm with e | hm
    · exact hd.2.2.1 e
    · rw [own_row] at hm; exact hd.2.2.2.1 (by simpa using hm)
  have hqA : ∀ b, rowOf A = some b → b < wr.heap.size := fun b hb => (hlt b (.inr (.inl hb))).2
  refine ⟨c, some ⟨q, 0, none⟩, q5 :: D, { hd := ?_, lr := ?_, wr := World.ownsRow_nil _ _ _ _, ul := rfl, lv := fun i v hv => ?_, wv := fun k x u hx => (by simp [startS] at hx), hg := Nat.le_refl _, gA := ?_, gR := (by intro e; cases e), AR := (fun b _ e => by cases e), dd := fun b hb => ?_, zf := (fun k hk => by cases hk), zl := (by omega), zh := (by omega) }⟩
  · rw [ev] at hup
    exact hup
  · rw [ev] at hr
    exact hr
  · show SecV W (q5 :: D) v (secAt (noB (k + 1)) i)
    by_cases hi : i < vs.length
    · rw [List.getElem?_append_left hi] at hv
      have hk : vs.length = k := hI.vl
      have := hI.lv i v hv
      rw [show (startS k).img = noB k from rfl, secAt_no k i (by omega)] at this
      rw [secAt_no (k + 1) i (by omega)]
      exact (this.chg hc hL).more (fun b hb => List.mem_cons_of_mem _ hb)
    · have hk : vs.length = k := hI.vl
      have hi2 : i < (vs ++ [gh 5]).length := (List.getElem?_eq_some_iff.1 hv).1
      rw [List.length_append, List.length_singleton] at hi2
      obtain rfl : i = vs.length := by omega
      rw [List.getElem?_append_right (Nat.le_refl _), Nat.sub_self] at hv
      cases hv
      rw [secAt_no (k + 1) vs.length (by omega)]
      exact SecV.of_own hown (fun b e => by rw [e5] at e; cases e; simp)
  · intro e
    have e : q = g := by injection e
    rcases hq with h | h
    · exact hI.gA (by rw [← e]; exact h)
    · omega
  · rcases List.mem_cons.1 hb with rfl | hb
    · refine ⟨by omega, h5l, by omega, fun e => ?_, by intro e; cases e⟩
      have e : q = b := by injection e
      rcases hq with h | h
      · have := hqA _ h; omega
      · omega
    · have hd := hI.dd b hb
      refine ⟨hd.1, Nat.lt_of_lt_of_le hd.2.1 hc.size, hd.2.2.1, fun e => ?_, by intro e; cases e⟩
      have e : q = b := by injection e
      rcases hq with h | h
      · exact hd.2.2.2.1 (by rw [← e]; exact h)
      · omega
def dnVal (g k cA : Nat) (A : Option Addr) : Nat → Value → Value
  | 0, _ => .pointer (some ⟨g, 0, none⟩)
  | 1, _ => .pointer (some ⟨g, 0, none⟩)
  | 2, _ => .pointer (some ⟨g, 0, none⟩)
  | 3, _ => .pointer (some ⟨g, 0, none⟩)
  | 4, _ => .slice A k cA
  | 5, k => k
  | 6, k => k
  | 7, k => k
  | 8, _ => .pointer (some ⟨g, 0, none⟩)
  | 9, _ => .pointer (some ⟨g, 0, none⟩)
  | _, _ => undef
theorem info_dev : (Try.prog.info? 69).map (·.zero) = some (some (.agg (dvH none 0 0))) := by kernel_rfl
set_option maxRecDepth 20000 in
set_option maxHeartbeats 4000000 in
theorem rNew_calls (n : Nat) (w : World) (h1 : 1 ≤ n) (h2 : n ≤ 65536) :
    Calls Try.prog 11 #[.int .i64 (n : Int)] w fun e w' => ∃ g F, e = .returned (.tuple #[.pointer (some ⟨g, 0, none⟩), .int .i64 0]) ∧ RdB w' w.heap.size F g 0 (startS n) ∧ Below w.heap.size w w' := by
  have q0 : ¬ (n : Int) < 1 := by omega
  have q1 : ¬ (65536 : Int) < (n : Int) := by omega
  go_enter Try.func11, Try.ntmps11
  go_wp2_with fail
  have HD := hid (Blk.new w 69 (dvH none 0 0))
  have HB := hid (below_new w (.cells (dvH none 0 0) 69))
  have HI := hid (show RdIn (w.alloc (.cells (dvH none 0 0) 69)) w.heap.size w.heap.size none none 0 0 [] [] [] 0 0 (startS 0) from
    { hd := HD.out, lr := World.ownsRow_nil _ _ _ _, wr := World.ownsRow_nil _ _ _ _, ul := rfl, lv := fun i v hv => (by simp at hv), wv := fun k x u hx => (by simp [startS] at hx), hg := Nat.le_refl _, gA := (by intro e; cases e), gR := (by intro e; cases e), AR := (fun b e => by cases e), dd := (fun b hb => by cases hb), zf := (fun k hk => by cases hk), zl := (by omega), zh := (by omega) })
  go_loopw [5] (fun i wr => ∃ (k cA : Nat) (A : Option Addr) (vs : List Value) (D : List Nat), k ≤ n ∧ i = .int .i64 (k : Int) ∧ Hid (RdIn wr w.heap.size w.heap.size A none cA 0 vs [] D 0 0 (startS k)) ∧ Hid (Below w.heap.size w wr)) (fun i _ => n - (intOf i).toNat)
  case atStart => exact ⟨0, 0, none, [], [], Nat.zero_le _, rfl, HI, HB⟩
  case round =>
    clear HD HB HI
    obtain ⟨k, cA, A, vs, D, hk, rfl, HI, HB⟩ := hrel
    by_cases hlt : k < n
    · have q2 : (k : Int) < (n : Int) := by omega
      have HH := hid (show Blk wr w.heap.size 69 (dvH A k cA) from HI.out.hd)
      have HN := hid (show k ≤ 1000000 by omega)
      have HBS := hid (fun W (hW : Below wr.heap.size wr W) => (Nat.le_trans HB.out.size hW.size : w.heap.size ≤ W.heap.size))
      have HROW := hid (show wr.ownsRow w.heap.size 37 1 (.slice A k cA) k vs from HI.out.lr)
      have HGA := hid HI.out.gA
      have HST := hid (ApS.start wr w.heap.size w.heap.size 0 69 37 (dvH A k cA) (.slice A k cA) k vs 5 6 7 10 11 (NwP wr w.heap.size) NwN (by decide) (fun _ => .pointer none) HH.out rfl HROW.out HB.out.size (by rw [own_row]; exact HGA.out) (nwp_st HH.out HROW.out))
      generalize hg : w.heap.size = g at *
      go_wp2_with fail
      refine wp_region_invG 30 (.pointer none) (dnVal g k cA A) (ApS wr g g 0 69 37 (dvH A k cA) (.slice A k cA) k vs 5 6 7 10 (NwP wr g) NwN) (by kernel_rfl) (by kernel_rfl) (by exact Nat.le_refl 30) ?_ ?_ ?_
      · exact HST.out
      · intro i o f gh a W hi hf hdep hsame hcl hval hS
        rcases i with _ | _ | _ | _ | _ | _ | _ | _ | _ | _ | _ | i
        all_goals simp only [List.getElem?_cons_succ, List.getElem?_cons_zero, List.getElem?_nil, Option.some.injEq, reduceCtorEq] at hi
        all_goals subst hi
        · have E4 : a.tmps[4]? = some (.pointer (some ⟨g, 0, none⟩)) := (same_of hsame 4 (by rfl)).trans rfl
          refine g_plain rfl ?_
          exact does_value (w' := W) (v := .pointer (some ⟨g, 0, none⟩)) (by go_simp) ⟨.pointer none, .inr rfl, hS.step (Below.refl _ _) 0 (.pointer none) (by decide) (by decide) (by decide) (by decide)⟩
        · have E4 : a.tmps[4]? = some (.pointer (some ⟨g, 0, none⟩)) := (same_of hsame 4 (by rfl)).trans rfl
          refine g_plain rfl ?_
          exact does_value (w' := W) (v := .pointer (some ⟨g, 0, none⟩)) (by go_simp) ⟨.pointer none, .inr rfl, hS.step (Below.refl _ _) 1 (.pointer none) (by decide) (by decide) (by decide) (by decide)⟩
        · have E20 := hval 1 _ 20 rfl rfl (dep_of hdep 1 (by rfl))
          unfold dnVal at E20
          refine g_plain rfl ?_
          exact does_value (w' := W) (v := .pointer (some ⟨g, 0, none⟩)) (by go_simp) ⟨.pointer none, .inr rfl, hS.step (Below.refl _ _) 2 (.pointer none) (by decide) (by decide) (by decide) (by decide)⟩
        · have E21 := hval 2 _ 21 rfl rfl (dep_of hdep 2 (by rfl))
          unfold dnVal at E21
          refine g_plain rfl ?_
          exact does_value (w' := W) (v := .pointer (some ⟨g, 0, none⟩)) (by go_simp) ⟨.pointer none, .inr rfl, hS.step (Below.refl _ _) 3 (.pointer none) (by decide) (by decide) (by decide) (by decide)⟩
        · have E22 := hval 3 _ 22 rfl rfl (dep_of hdep 3 (by rfl))
          unfold dnVal at E22
          have n7 := not_yet hcl hf 7 (by rfl)
          have n10 := not_yet hcl n7 10 (by rfl)
          have c0 := hS.cell n10
          refine g_plain rfl ?_
          exact does_value (w' := W) (v := .slice A k cA) (by go_simp) ⟨.pointer none, .inr rfl, hS.step (Below.refl _ _) 4 (.pointer none) (by decide) (by decide) (by decide) (by decide)⟩
        · refine g_plain rfl ?_
          refine does_mk _ _ _ rfl (run_mk64 W) ⟨.slice (some ⟨W.heap.size, 0, none⟩) 64 64, .inr rfl, hS.call hf (by decide) (by decide) (by decide) (below_new _ _) _ ⟨own_mk64 W _ (HBS.out W (hS.pre hf)), fun b e => ?_⟩⟩
          cases e; exact (hS.pre hf).size
        · have E24 := hval 5 _ 24 rfl rfl (dep_of hdep 5 (by rfl))
          unfold dnVal at E24
          refine g_plain rfl ?_
          obtain ⟨q5, c5, ev⟩ := Go.Joins.ownsRow_form (hS.post (dep_of hdep 5 (by rfl))).1 (by omega)
          rw [ev] at E24
          have hB := hS.build (dep_of hdep 5 (by rfl)) hf (by decide) (by decide) (by decide)
          rw [ev] at hB
          exact does_value (w' := W.alloc (.cells #[.slice (some ⟨q5, 0, none⟩) 64 c5] 37)) (v := .slice (some ⟨W.heap.size, 0, none⟩) 1 1) (by go_simp) ⟨.slice (some ⟨W.heap.size, 0, none⟩) 1 1, .inr rfl, hB⟩
        · have E23 := hval 4 _ 23 rfl rfl (dep_of hdep 4 (by rfl))
          have E25 := hval 6 _ 25 rfl rfl (dep_of hdep 6 (by rfl))
          unfold dnVal at E23 E25
          refine g_plain rfl ?_
          have hpost := hS.post ((hS.lit (dep_of hdep 6 (by rfl))).1)
          obtain ⟨q5, c5, ev⟩ := Go.Joins.ownsRow_form hpost.1 (by omega)
          obtain ⟨qq, v', W', e6, hr, hS'⟩ := hS.app (P := Try.prog) (dep_of hdep 6 (by rfl)) hf (by decide) (by decide) (by decide) 66 66 Try.underlying66 info_sl rfl HN.out (by decide) (by rw [ev]; rfl) (fun b e => (World.ownsRow.lt hpost.1 b e).2)
          rw [e6] at E25
          exact does_append _ _ _ rfl (by rw [eval_getD, E23]; rfl) (by rw [eval_getD, E25]; rfl) hr ⟨v', .inr rfl, hS'⟩
        · have E19 := hval 0 _ 19 rfl rfl (dep_of hdep 0 (by rfl))
          unfold dnVal at E19
          refine g_plain rfl ?_
          exact does_value (w' := W) (v := .pointer (some ⟨g, 0, none⟩)) (by go_simp) ⟨.pointer none, .inr rfl, hS.step (Below.refl _ _) 8 (.pointer none) (by decide) (by decide) (by decide) (by decide)⟩
        · have E27 := hval 8 _ 27 rfl rfl (dep_of hdep 8 (by rfl))
          unfold dnVal at E27
          refine g_plain rfl ?_
          exact does_value (w' := W) (v := .pointer (some ⟨g, 0, none⟩)) (by go_simp) ⟨.pointer none, .inr rfl, hS.step (Below.refl _ _) 9 (.pointer none) (by decide) (by decide) (by decide) (by decide)⟩
        · have E28 := hval 9 _ 28 rfl rfl (dep_of hdep 9 (by rfl))
          have E26 := hval 7 _ 26 rfl rfl (dep_of hdep 7 (by rfl))
          unfold dnVal at E28 E26
          refine g_plain rfl ?_
          obtain ⟨g2, c2, e7⟩ := hS.form (dep_of hdep 7 (by rfl))
          rw [e7] at E26
          have c0 := hS.cell hf; have z0 := hS.frozen hf
          exact does_skip (w' := W.setCell ⟨g, 0, none⟩ (.slice (some ⟨g2, 0, none⟩) (k + 1) c2)) (by go_simp) ⟨.pointer none, .inl rfl, hS.put (dep_of hdep 7 (by rfl)) hf (by decide) (by decide) (by decide) (.pointer none) e7⟩
      · intro gh w8 hS
        obtain ⟨c9, A9, D9, hI9⟩ := dv_grow HI.out hS
        have HI9 := hid hI9
        have HB9 := hid (show Below g w w8 from HB.out.trans (hS.chg.below (fun b hb => by
          rcases List.mem_cons.1 hb with rfl | hb
          · exact Nat.le_refl _
          · rw [own_row] at hb; exact (HI.out.lt b (.inr (.inl (by simpa using hb)))).1) (by rw [← hg]; exact HB.out.size)))
        clear hS HST hI9 HI HB HH HROW HGA
        simp only [putAll, dnVal, Nat.reduceAdd, Nat.zero_add, Act.put, List.setIfInBounds_toArray, List.set_cons_zero, List.set_cons_succ]
        go_wp2_with fail
        go_roundw
        case rel => exact ⟨k + 1, c9, A9, _, D9, by omega, by go_num, HI9, HB9⟩
        case measure => simp [intOf]; omega
    · obtain rfl : k = n := by omega
      have q2 : ¬ (k : Int) < (k : Int) := by omega
      go_wp2_with fail
      go_ret2
      refine ⟨_, rfl, ⟨w.heap.size :: ((rowOf A).toList ++ D), A, none, cA, 0, vs, [], D, 0, HI.out, start_ok k h2, rfl, fun b hb => ?_, fun b hb => HI.out.lt b ?_⟩, HB.out⟩
      · rcases hb with hb | hb | hb | hb
        · simp [hb]
        · simp [hb]
        · cases hb
        · simp [hb]
      · simp at hb
        rcases hb with hb | hb | hb
        · exact .inl hb
        · exact .inr (.inl hb)
        · exact .inr (.inr (.inr hb))
end Go.Proofs.Ytoajnabdflikfaa
