/- Contracts of the laws' kit: SameTexts, SameIDs, Pick, where both are the same. Written by tools/mkqt.py out of XQtSame.tpl. -/
import Derived.Test.YtjgnbmkhibdcfaaQtAwake
namespace Go.Proofs.Ytjgnbmkhibdcfaa
open Go.RowKit

theorem does_load_run {P : Program} {o : Oper} {a : Act} {w : World} {T : Value → World → Prop} (t : TypeId) (x : Operand) (ho : o.op = .load t x) (ad : Addr) (v : Value) (hx : a.eval x = .pointer (some ad)) (hr : (loadVar t ad).run P w = .ok v w) (h : T v w) : OpDoes P o a w T := fun K Q hK => by
  unfold Oper.wp execOp
  simp only [ho, hx, Instr.loadAt, Instr.sureAddr, Sem.run_bind, Sem.run_pure, Result.andThen_ok, hr]
  exact hK _ _ h
/-- texts one behind the other -/
def TRow (w : World) (A : Option Addr) (n : Nat) (rs : List (List UInt8)) : Prop := rs.length = n ∧ (0 < n → ∃ g, A = some ⟨g, 0, none⟩ ∧ ∀ (i : Nat) r, rs[i]? = some r → w.cell? ⟨g, i, none⟩ = some (.string (strB r)))
theorem TRow.keep {w w' : World} {A : Option Addr} {n : Nat} {rs : List (List UInt8)} (h : TRow w A n rs) (hb : Below w.heap.size w w') : TRow w' A n rs :=
  ⟨h.1, fun hn => by
    obtain ⟨g, h1, h2⟩ := h.2 hn
    exact ⟨g, h1, fun i r hr => cell_keep (h2 i r hr) hb⟩⟩
/-- digests one behind the other -/
def IRow (w : World) (A : Option Addr) (n : Nat) (ids : List (List UInt8)) : Prop := ids.length = n ∧ (0 < n → ∃ g, A = some ⟨g, 0, none⟩ ∧ ∀ (i : Nat) x, ids[i]? = some x → x.length = 32 ∧ (loadVar 32 ⟨g, i * 32, none⟩).run Try.prog w = .ok (.agg (bcells x)) w ∧ ∀ (j : Nat) v, (bcells x)[j]? = some v → w.cell? ⟨g, i * 32 + j, none⟩ = some v)
theorem irow_load {w : World} {g i : Nat} {x : List UInt8} (hx : x.length = 32) (h : ∀ (j : Nat) v, (bcells x)[j]? = some v → w.cell? ⟨g, i * 32 + j, none⟩ = some v) : (loadVar 32 ⟨g, i * 32, none⟩).run Try.prog w = .ok (.agg (bcells x)) w := by
  have := load_at (P := Try.prog) (w := w) 32 g (i * 32) (bcells x).toList (fun j v hv => h j v (by simpa using hv)) Try.underlying32 rfl (by
    have := size32 hx
    simpa using this)
  simpa using this
theorem IRow.keep {w w' : World} {A : Option Addr} {n : Nat} {ids : List (List UInt8)} (h : IRow w A n ids) (hb : Below w.heap.size w w') : IRow w' A n ids :=
  ⟨h.1, fun hn => by
    obtain ⟨g, h1, h2⟩ := h.2 hn
    refine ⟨g, h1, fun i x hx => ?_⟩
    obtain ⟨h3, h4, h5⟩ := h2 i x hx
    have h6 := fun (j : Nat) v (hv : (bcells x)[j]? = some v) => cell_keep (h5 j v hv) hb
    exact ⟨h3, irow_load h3 h6, h6⟩⟩
theorem IRow.of_own {w : World} {base n : Nat} {v : Value} {ids : List (List UInt8)} (h : w.ownsRow base 32 32 v n (flatI ids)) (hl : ids.length = n) (h32 : ∀ x ∈ ids, x.length = 32) : ∃ A c, v = .slice A n c ∧ IRow w A n ids := by
  rcases h.2 with ⟨rfl, h0⟩ | ⟨g, cap, cur, rfl, e2, e3, e4, e5, e6, e7⟩
  · exact ⟨none, 0, by rw [h0], hl, fun hn => absurd hn (by omega)⟩
  · refine ⟨some ⟨g, 0, none⟩, cap, rfl, hl, fun _ => ⟨g, rfl, fun i x hx => ?_⟩⟩
    have hx32 := h32 x (List.mem_of_getElem? hx)
    have hlt := (List.getElem?_eq_some_iff.1 hx).1
    have hfl : ∀ (l : List (List UInt8)), (∀ x ∈ l, x.length = 32) → (flatI l).length = 32 * l.length := fun l hl => by
      induction l with
      | nil => rfl
      | cons a l ih =>
        have h1 := hl a (by simp)
        have h2 := ih (fun y hy => hl y (by simp [hy]))
        unfold flatI at h2 ⊢
        rw [List.flatMap_cons, List.length_append, h2, List.length_map, h1, List.length_cons]
        omega
    have hsp : flatI ids = flatI (ids.take i) ++ (x.map bv ++ flatI (ids.drop (i + 1))) := by
      have e : ids = ids.take i ++ ([x] ++ ids.drop (i + 1)) := by
        have : ids[i] = x := (List.getElem?_eq_some_iff.1 hx).2
        rw [← this, List.singleton_append, ← List.drop_eq_getElem_cons hlt, List.take_append_drop]
      have h2 : flatI ids = flatI (ids.take i ++ ([x] ++ ids.drop (i + 1))) := congrArg flatI e
      rw [h2]
      simp [flatI]
    have hb : Blk w g 32 cur := e3
    have hc : ∀ (j : Nat) v, (bcells x)[j]? = some v → w.cell? ⟨g, i * 32 + j, none⟩ = some v := fun j v hv => by
      have hj : j < 32 := by
        have := (Array.getElem?_eq_some_iff.1 hv).1
        rw [bcells_size] at this
        omega
      refine hb.cell _ ?_
      have h1 : (cur.toList.take (n * 32))[i * 32 + j]? = cur.toList[i * 32 + j]? := List.getElem?_take_of_lt (by omega)
      have h2 : cur.toList[i * 32 + j]? = some v := by
        rw [← h1, e7, hsp, List.getElem?_append_right (by rw [hfl _ (fun y hy => h32 y (List.mem_of_mem_take hy)), List.length_take]; omega), hfl _ (fun y hy => h32 y (List.mem_of_mem_take hy)), List.length_take,
          show i * 32 + j - 32 * min i ids.length = j by rw [Nat.min_eq_left (by omega)]; omega, List.getElem?_append_left (by simp; omega)]
        simpa [bcells] using hv
      simpa using h2
    exact ⟨hx32, irow_load hx32 hc, hc⟩
def stVal (g1 g2 n c c' k : Nat) (r : List UInt8) : Nat → Unit → Value
  | 0, _ => .slice (some ⟨g1, 0, none⟩) n c
  | 1, _ => .int .i64 (k : Int)
  | 2, _ => .pointer (some ⟨g1, k, none⟩)
  | 3, _ => .string (strB r)
  | 4, _ => .slice (some ⟨g2, 0, none⟩) n c'
  | 5, _ => .int .i64 (k : Int)
  | 6, _ => .pointer (some ⟨g2, k, none⟩)
  | 7, _ => .string (strB r)
  | 8, _ => .bool true
  | 9, _ => .bool true
  | _, _ => undef
set_option maxRecDepth 20000 in
set_option maxHeartbeats 2000000 in
theorem sameTexts_calls {w : World} {A B : Option Addr} {n c c' : Nat} {rs : List (List UInt8)} (hA : TRow w A n rs) (hB : TRow w B n rs) (hn : n ≤ 1000000) :
    Calls Try.prog 24 #[.slice A n c, .slice B n c'] w fun e w' => e = .returned (.bool true) ∧ Below w.heap.size w w' := by
  have HA := hid hA; have HB := hid hB
  clear hA hB
  go_enter Try.func24, Try.ntmps24
  go_wp2_with fail
  go_loopw [5, 6] (fun v5 v6 wr => ∃ k : Nat, v5 = .bool true ∧ v6 = .int .i64 (k : Int) ∧ k ≤ n ∧ Hid (Below w.heap.size w wr)) (fun _ v6 _ => n - (intOf v6).toNat)
  case atStart => exact ⟨0, rfl, rfl, Nat.zero_le _, hid (Below.refl _ _)⟩
  case round =>
    obtain ⟨k, rfl, rfl, hk, HW⟩ := hrel
    by_cases hlt : k < n
    · have hlt' : (k : Int) < (n : Int) := by omega
      obtain ⟨r, hr⟩ : ∃ r, rs[k]? = some r := ⟨rs[k]'(by have := HA.out.1; omega), List.getElem?_eq_getElem _⟩
      obtain ⟨g1, rfl, h1⟩ := HA.out.2 (by omega)
      obtain ⟨g2, rfl, h2⟩ := HB.out.2 (by omega)
      have HC := hid (fun W (hb : Below wr.heap.size wr W) => (⟨cell_keep (cell_keep (h1 k r hr) HW.out) hb, cell_keep (cell_keep (h2 k r hr) HW.out) hb⟩ : W.cell? ⟨g1, k, none⟩ = some (.string (strB r)) ∧ W.cell? ⟨g2, k, none⟩ = some (.string (strB r))))
      clear h1 h2 hr
      go_wp2_with fail
      refine wp_region_invG 31 () (stVal g1 g2 n c c' k r) (fun _ _ W => Below wr.heap.size wr W) (by kernel_rfl) (by kernel_rfl) (by exact Nat.le_refl 31) ?_ ?_ ?_
      · exact (Below.refl _ _).drew
      · intro i o f gh a W hi hf hdep hsame hcl hval hS
        rcases i with _ | _ | _ | _ | _ | _ | _ | _ | _ | _ | i
        all_goals simp only [List.getElem?_cons_succ, List.getElem?_cons_zero, List.getElem?_nil, Option.some.injEq, reduceCtorEq] at hi
        all_goals subst hi
        · have E0 : a.tmps[0]? = some (.slice (some ⟨g1, 0, none⟩) n c) := (same_of hsame 0 (by rfl)).trans rfl
          refine g_plain rfl ?_
          exact does_value (w' := W) (v := .slice (some ⟨g1, 0, none⟩) n c) (by go_simp) ⟨(), .inr rfl, hS⟩
        · have E6 : a.tmps[6]? = some (.int .i64 (k : Int)) := (same_of hsame 6 (by rfl)).trans rfl
          refine g_plain rfl ?_
          exact does_value (w' := W) (v := .int .i64 (k : Int)) (by go_simp) ⟨(), .inr rfl, hS⟩
        · have E21 := hval 0 _ 21 rfl rfl (dep_of hdep 0 (by rfl))
          have E22 := hval 1 _ 22 rfl rfl (dep_of hdep 1 (by rfl))
          unfold stVal at E21 E22
          refine g_plain rfl ?_
          exact does_value (w' := W) (v := .pointer (some ⟨g1, k, none⟩)) (by go_simp) ⟨(), .inr rfl, hS⟩
        · have E23 := hval 2 _ 23 rfl rfl (dep_of hdep 2 (by rfl))
          unfold stVal at E23
          obtain ⟨ca, cb⟩ := HC.out W hS
          refine g_plain rfl ?_
          exact does_value (w' := W) (v := .string (strB r)) (by go_simp) ⟨(), .inr rfl, hS⟩
        · have E1 : a.tmps[1]? = some (.slice (some ⟨g2, 0, none⟩) n c') := (same_of hsame 1 (by rfl)).trans rfl
          refine g_plain rfl ?_
          exact does_value (w' := W) (v := .slice (some ⟨g2, 0, none⟩) n c') (by go_simp) ⟨(), .inr rfl, hS⟩
        · have E6 : a.tmps[6]? = some (.int .i64 (k : Int)) := (same_of hsame 6 (by rfl)).trans rfl
          refine g_plain rfl ?_
          exact does_value (w' := W) (v := .int .i64 (k : Int)) (by go_simp) ⟨(), .inr rfl, hS⟩
        · have E25 := hval 4 _ 25 rfl rfl (dep_of hdep 4 (by rfl))
          have E26 := hval 5 _ 26 rfl rfl (dep_of hdep 5 (by rfl))
          unfold stVal at E25 E26
          refine g_plain rfl ?_
          exact does_value (w' := W) (v := .pointer (some ⟨g2, k, none⟩)) (by go_simp) ⟨(), .inr rfl, hS⟩
        · have E27 := hval 6 _ 27 rfl rfl (dep_of hdep 6 (by rfl))
          unfold stVal at E27
          obtain ⟨ca, cb⟩ := HC.out W hS
          refine g_plain rfl ?_
          exact does_value (w' := W) (v := .string (strB r)) (by go_simp) ⟨(), .inr rfl, hS⟩
        · have E24 := hval 3 _ 24 rfl rfl (dep_of hdep 3 (by rfl))
          have E28 := hval 7 _ 28 rfl rfl (dep_of hdep 7 (by rfl))
          unfold stVal at E24 E28
          refine g_plain rfl ?_
          exact does_value (w' := W) (v := .bool true) (by go_simp) ⟨(), .inr rfl, hS⟩
        · have E29 := hval 8 _ 29 rfl rfl (dep_of hdep 8 (by rfl))
          unfold stVal at E29
          refine g_plain rfl ?_
          exact does_value (w' := W) (v := .bool true) (by go_simp) ⟨(), .inr rfl, hS⟩
      · intro gh W hS
        have HW2 := hid (HW.out.trans (hS.mono HW.out.size))
        clear hS HC
        simp only [putAll, stVal, Nat.reduceAdd, Nat.zero_add, Act.put, List.setIfInBounds_toArray, List.set_cons_zero, List.set_cons_succ]
        go_wp2_with fail
        go_roundw
        case rel => exact ⟨k + 1, rfl, by go_num, by omega, HW2⟩
        case measure => simp [intOf]; omega
    · obtain rfl : k = n := by omega
      go_wp2_with fail
      go_ret
      exact ⟨rfl, HW.out⟩
def siVal (g1 g2 n c c' k : Nat) (y : List UInt8) : Nat → Unit → Value
  | 0, _ => .slice (some ⟨g1, 0, none⟩) n c
  | 1, _ => .int .i64 (k : Int)
  | 2, _ => .pointer (some ⟨g1, k * 32, none⟩)
  | 3, _ => .agg (bcells y)
  | 4, _ => .slice (some ⟨g2, 0, none⟩) n c'
  | 5, _ => .int .i64 (k : Int)
  | 6, _ => .pointer (some ⟨g2, k * 32, none⟩)
  | 7, _ => .agg (bcells y)
  | 8, _ => .bool true
  | 9, _ => .bool true
  | _, _ => undef
set_option maxRecDepth 20000 in
set_option maxHeartbeats 2000000 in
theorem sameIDs_calls {w : World} {A B : Option Addr} {n c c' : Nat} {ids : List (List UInt8)} (hA : IRow w A n ids) (hB : IRow w B n ids) (hn : n ≤ 1000000) :
    Calls Try.prog 35 #[.slice A n c, .slice B n c'] w fun e w' => e = .returned (.bool true) ∧ Below w.heap.size w w' := by
  have HA := hid hA; have HB := hid hB
  clear hA hB
  go_enter Try.func35, Try.ntmps35
  go_wp2_with fail
  go_loopw [5, 6] (fun v5 v6 wr => ∃ k : Nat, v5 = .bool true ∧ v6 = .int .i64 (k : Int) ∧ k ≤ n ∧ Hid (Below w.heap.size w wr)) (fun _ v6 _ => n - (intOf v6).toNat)
  case atStart => exact ⟨0, rfl, rfl, Nat.zero_le _, hid (Below.refl _ _)⟩
  case round =>
    obtain ⟨k, rfl, rfl, hk, HW⟩ := hrel
    by_cases hlt : k < n
    · have hlt' : (k : Int) < (n : Int) := by omega
      obtain ⟨y, hy⟩ : ∃ y, ids[k]? = some y := ⟨ids[k]'(by have := HA.out.1; omega), List.getElem?_eq_getElem _⟩
      obtain ⟨g1, rfl, h1⟩ := HA.out.2 (by omega)
      obtain ⟨g2, rfl, h2⟩ := HB.out.2 (by omega)
      obtain ⟨e1, e2, e3⟩ := h1 k y hy
      obtain ⟨_, e4, e5⟩ := h2 k y hy
      have HL1 := hid (fun W (hb : Below wr.heap.size wr W) => irow_load e1 (fun j v hv => cell_keep (cell_keep (e3 j v hv) HW.out) hb))
      have HL2 := hid (fun W (hb : Below wr.heap.size wr W) => irow_load e1 (fun j v hv => cell_keep (cell_keep (e5 j v hv) HW.out) hb))
      have HEQ := hid (show ∀ W, (Op.equalIn 10000 32 (.agg (bcells y)) (.agg (bcells y))).run Try.prog W = .ok true W from fun W => by
        have := run_equal_arr (P := Try.prog) 32 5 32 Try.underlying32 Try.underlying5 (by kernel_rfl) y y e1 e1 W
        rw [beq_self_eq_true] at this
        exact this)
      clear h1 h2 hy e1 e2 e3 e4 e5
      go_wp2_with fail
      refine wp_region_invG 31 () (siVal g1 g2 n c c' k y) (fun _ _ W => Below wr.heap.size wr W) (by kernel_rfl) (by kernel_rfl) (by exact Nat.le_refl 31) ?_ ?_ ?_
      · exact (Below.refl _ _).drew
      · intro i o f gh a W hi hf hdep hsame hcl hval hS
        rcases i with _ | _ | _ | _ | _ | _ | _ | _ | _ | _ | i
        all_goals simp only [List.getElem?_cons_succ, List.getElem?_cons_zero, List.getElem?_nil, Option.some.injEq, reduceCtorEq] at hi
        all_goals subst hi
        · have E0 : a.tmps[0]? = some (.slice (some ⟨g1, 0, none⟩) n c) := (same_of hsame 0 (by rfl)).trans rfl
          refine g_plain rfl ?_
          exact does_value (w' := W) (v := .slice (some ⟨g1, 0, none⟩) n c) (by go_simp) ⟨(), .inr rfl, hS⟩
        · have E6 : a.tmps[6]? = some (.int .i64 (k : Int)) := (same_of hsame 6 (by rfl)).trans rfl
          refine g_plain rfl ?_
          exact does_value (w' := W) (v := .int .i64 (k : Int)) (by go_simp) ⟨(), .inr rfl, hS⟩
        · have E21 := hval 0 _ 21 rfl rfl (dep_of hdep 0 (by rfl))
          have E22 := hval 1 _ 22 rfl rfl (dep_of hdep 1 (by rfl))
          unfold siVal at E21 E22
          refine g_plain rfl ?_
          exact does_value (w' := W) (v := .pointer (some ⟨g1, k * 32, none⟩)) (by go_simp) ⟨(), .inr rfl, hS⟩
        · have E23 := hval 2 _ 23 rfl rfl (dep_of hdep 2 (by rfl))
          unfold siVal at E23
          refine g_plain rfl ?_
          exact does_load_run 32 _ rfl ⟨g1, k * 32, none⟩ _ (by rw [eval_getD, E23]; rfl) (HL1.out W hS) ⟨(), .inr rfl, hS⟩
        · have E1 : a.tmps[1]? = some (.slice (some ⟨g2, 0, none⟩) n c') := (same_of hsame 1 (by rfl)).trans rfl
          refine g_plain rfl ?_
          exact does_value (w' := W) (v := .slice (some ⟨g2, 0, none⟩) n c') (by go_simp) ⟨(), .inr rfl, hS⟩
        · have E6 : a.tmps[6]? = some (.int .i64 (k : Int)) := (same_of hsame 6 (by rfl)).trans rfl
          refine g_plain rfl ?_
          exact does_value (w' := W) (v := .int .i64 (k : Int)) (by go_simp) ⟨(), .inr rfl, hS⟩
        · have E25 := hval 4 _ 25 rfl rfl (dep_of hdep 4 (by rfl))
          have E26 := hval 5 _ 26 rfl rfl (dep_of hdep 5 (by rfl))
          unfold siVal at E25 E26
          refine g_plain rfl ?_
          exact does_value (w' := W) (v := .pointer (some ⟨g2, k * 32, none⟩)) (by go_simp) ⟨(), .inr rfl, hS⟩
        · have E27 := hval 6 _ 27 rfl rfl (dep_of hdep 6 (by rfl))
          unfold siVal at E27
          refine g_plain rfl ?_
          exact does_load_run 32 _ rfl ⟨g2, k * 32, none⟩ _ (by rw [eval_getD, E27]; rfl) (HL2.out W hS) ⟨(), .inr rfl, hS⟩
        · have E24 := hval 3 _ 24 rfl rfl (dep_of hdep 3 (by rfl))
          have E28 := hval 7 _ 28 rfl rfl (dep_of hdep 7 (by rfl))
          unfold siVal at E24 E28
          have heq := HEQ.out W
          refine g_plain rfl ?_
          exact does_value (w' := W) (v := .bool true) (by go_simp) ⟨(), .inr rfl, hS⟩
        · have E29 := hval 8 _ 29 rfl rfl (dep_of hdep 8 (by rfl))
          unfold siVal at E29
          refine g_plain rfl ?_
          exact does_value (w' := W) (v := .bool true) (by go_simp) ⟨(), .inr rfl, hS⟩
      · intro gh W hS
        have HW2 := hid (HW.out.trans (hS.mono HW.out.size))
        clear hS HL1 HL2 HEQ
        simp only [putAll, siVal, Nat.reduceAdd, Nat.zero_add, Act.put, List.setIfInBounds_toArray, List.set_cons_zero, List.set_cons_succ]
        go_wp2_with fail
        go_roundw
        case rel => exact ⟨k + 1, rfl, by go_num, by omega, HW2⟩
        case measure => simp [intOf]; omega
    · obtain rfl : k = n := by omega
      go_wp2_with fail
      go_ret
      exact ⟨rfl, HW.out⟩
end Go.Proofs.Ytjgnbmkhibdcfaa
