/- The law VectorOrders, walked. Written by tools/mkvl.py. -/
import Derived.Deep.DeepCutAuto
import Derived.Deep.CutBlock
import Derived.Test.YtfcildpigkobcaaVcLaw
namespace Go.Proofs.Ytfcildpigkobcaa
open Go Go.RowKit Go.Shelf

def ordV (AA1 : Option Addr) (n0 : Nat) (cc1 : Nat) (k : Int) (A0 : Option Addr) (c0 : Nat) (R0 : Int) (N0 : Int) (R1 : Int) (N1 : Int) (AA2 : Option Addr) (n1 : Nat) (cc2 : Nat) (e : Bool) (A1 : Option Addr) (c1 : Nat) : Nat → Unit → Value
  | 0, _ => .slice AA1 n0 cc1
  | 1, _ => .int .i64 k
  | 2, _ => .slice A0 n0 c0
  | 3, _ => .int .i64 k
  | 4, _ => .bool true
  | 5, _ => .bool true
  | 6, _ => .agg #[.int .i64 R0, .int .i64 N0]
  | 7, _ => .slice AA1 n0 cc1
  | 8, _ => .agg #[.int .i64 R1, .int .i64 N1]
  | 9, _ => .slice AA2 n1 cc2
  | 10, _ => .bool e
  | 11, _ => .agg #[.int .i64 R0, .int .i64 N0]
  | 12, _ => .slice A0 n0 c0
  | 13, _ => .agg #[.int .i64 R1, .int .i64 N1]
  | 14, _ => .slice A1 n1 c1
  | 15, _ => .bool e
  | 16, _ => .bool true
  | 17, _ => .bool true
  | 18, _ => .bool true
  | _, _ => undef
set_option maxRecDepth 20000 in
set_option maxHeartbeats 4000000 in
theorem orders_calls (R0 N0 R1 N1 : Int) (n0 c0 n1 c1 : Nat) (A0 A1 : Option Addr) (u v : List Int) (W0 : World) (h0 : NI W0 A0 n0 u) (h1 : NI W0 A1 n1 v) :
    Calls Try.prog 4 #[.agg #[.int .i64 R0, .int .i64 N0], .slice A0 n0 c0, .agg #[.int .i64 R1, .int .i64 N1], .slice A1 n1 c1] W0 fun e w' => e = .returned (.bool true) ∧ Below W0.heap.size W0 w' := by
  obtain ⟨W1, hw1, hk0, hk1, hb⟩ := two_dots W0 R0 N0 R1 N1
  obtain ⟨p0, hp0⟩ : ∃ p, W0.heap.size = p := ⟨_, rfl⟩
  obtain ⟨p1, hp1⟩ : ∃ p, W0.heap.size + 1 = p := ⟨_, rfl⟩
  rw [hp0] at hk0
  rw [hp1] at hk1
  have HD0 := hid hk0; have HD1 := hid hk1; have HU := hid (h0.keep hb); have HV := hid (h1.keep hb); have HB := hid hb; have HW := hid hw1; have HP0 := hid hp0; have HP1 := hid hp1
  clear h0 h1 hw1 hk0 hk1 hb hp0 hp1
  go_enter Try.func4, Try.ntmps4
  by_cases hl0 : n0 ≤ 40
  rotate_left
  · have hl0' : ¬ (n0 : Int) ≤ 40 := by omega
    have hc := awake_calls W1
    have HC := hid hc
    clear hc
    go_wp2_with fail
    rw [← HW.out, HP1.out, HP0.out]
    refine HC.out.mono ?_
    rintro e W2 ⟨rfl, hb⟩
    clear HC
    replace HU := hid (HU.out.keep hb)
    replace HV := hid (HV.out.keep hb)
    replace HD0 := hid (HD0.out.keep hb)
    replace HD1 := hid (HD1.out.keep hb)
    replace HB := hid (HB.out.trans (hb.mono HB.out.size))
    clear hb
    go_wp2_with fail
    go_ret
    exact ⟨rfl, HB.out⟩
  have hl0' : (n0 : Int) ≤ 40 := by omega
  by_cases hl1 : n1 ≤ 40
  rotate_left
  · have hl1' : ¬ (n1 : Int) ≤ 40 := by omega
    have hc := awake_calls W1
    have HC := hid hc
    clear hc
    go_wp2_with fail
    rw [← HW.out, HP1.out, HP0.out]
    refine HC.out.mono ?_
    rintro e W2 ⟨rfl, hb⟩
    clear HC
    replace HU := hid (HU.out.keep hb)
    replace HV := hid (HV.out.keep hb)
    replace HD0 := hid (HD0.out.keep hb)
    replace HD1 := hid (HD1.out.keep hb)
    replace HB := hid (HB.out.trans (hb.mono HB.out.size))
    clear hb
    go_wp2_with fail
    go_ret
    exact ⟨rfl, HB.out⟩
  have hl1' : (n1 : Int) ≤ 40 := by omega
  have hc := copyI_calls n0 c0 A0 u W1 HU.out (by omega)
  have HC := hid hc
  clear hc
  go_wp2_with fail
  rw [← HW.out, HP1.out, HP0.out]
  refine HC.out.mono ?_
  rintro e W2 ⟨vv1, rfl, ho, hb⟩
  clear HC
  replace HU := hid (HU.out.keep hb)
  replace HV := hid (HV.out.keep hb)
  replace HD0 := hid (HD0.out.keep hb)
  replace HD1 := hid (HD1.out.keep hb)
  replace HB := hid (HB.out.trans (hb.mono HB.out.size))
  clear hb
  obtain ⟨AA1, cc1, rfl, _, hf, _⟩ := ho.ni
  have F1 : Hid (NI W2 AA1 n0 u) := hf
  clear ho hf
  have hc := copyI_calls n1 c1 A1 v W2 HV.out (by omega)
  have HC := hid hc
  clear hc
  go_wp2_with fail
  refine HC.out.mono ?_
  rintro e W3 ⟨vv2, rfl, ho, hb⟩
  clear HC
  replace HU := hid (HU.out.keep hb)
  replace HV := hid (HV.out.keep hb)
  replace HD0 := hid (HD0.out.keep hb)
  replace HD1 := hid (HD1.out.keep hb)
  replace F1 := hid (F1.out.keep hb)
  replace HB := hid (HB.out.trans (hb.mono HB.out.size))
  clear hb
  obtain ⟨AA2, cc2, rfl, _, hf, _⟩ := ho.ni
  have F2 : Hid (NI W3 AA2 n1 v) := hf
  clear ho hf
  obtain ⟨k, hk⟩ : ∃ k, wgtV u = k := ⟨_, rfl⟩
  obtain ⟨e, he⟩ : ∃ e, lessV R0 N0 u R1 N1 v = e := ⟨_, rfl⟩
  have HC1 := hid (fun (W : World) (hb : Below W3.heap.size W3 W) => weight_calls n0 cc1 AA1 u W (F1.out.keep hb) (by omega))
  rw [hk] at HC1
  have HC2 := hid (fun (W : World) (hb : Below W3.heap.size W3 W) => rWeight_calls n0 c0 A0 u W (HU.out.keep hb) (by omega))
  rw [hk] at HC2
  have HC3 := hid (fun (W : World) (hb : Below W3.heap.size W3 W) => vLess_calls R0 N0 R1 N1 n0 cc1 n1 cc2 AA1 AA2 u v W (F1.out.keep hb) (F2.out.keep hb) (by omega) (by omega))
  rw [he] at HC3
  have HC4 := hid (fun (W : World) (hb : Below W3.heap.size W3 W) => rLess_calls R0 N0 R1 N1 n0 c0 n1 c1 A0 A1 u v W (HU.out.keep hb) (HV.out.keep hb) (by omega) (by omega))
  rw [he] at HC4
  clear hk he
  go_wp2_with fail
  refine wp_region_invG 57 () (ordV AA1 n0 cc1 k A0 c0 R0 N0 R1 N1 AA2 n1 cc2 e A1 c1) (fun _ _ W => Below W3.heap.size W3 W) (by kernel_rfl) (by kernel_rfl) (by exact Nat.le_refl 57) ?_ ?_ ?_
  · exact (Below.refl _ _).drew
  · intro i o f gh a W hi hf hdep hsame hcl hval hS
    rcases i with _ | _ | _ | _ | _ | _ | _ | _ | _ | _ | _ | _ | _ | _ | _ | _ | _ | _ | _ | i
    all_goals simp only [List.getElem?_cons_succ, List.getElem?_cons_zero, List.getElem?_nil, Option.some.injEq, reduceCtorEq] at hi
    all_goals subst hi
    · have E9 : a.tmps[9]? = some (.slice AA1 n0 cc1) := (same_of hsame 9 (by rfl)).trans rfl
      refine g_plain rfl ?_
      exact does_value (w' := W) (v := .slice AA1 n0 cc1) (by go_simp) ⟨(), .inr rfl, hS⟩
    · have E25 := hval 0 _ 25 rfl rfl (dep_of hdep 0 (by rfl))
      unfold ordV at E25
      refine g_plain rfl ?_
      refine does_call 29 #[.slice AA1 n0 cc1] (by go_simp) ((HC1.out W hS).mono ?_)
      rintro e w' ⟨rfl, hb⟩
      exact ⟨.int .i64 k, rfl, (), .inr rfl, hS.trans (hb.mono hS.size)⟩
    · have E1 : a.tmps[1]? = some (.slice A0 n0 c0) := (same_of hsame 1 (by rfl)).trans rfl
      refine g_plain rfl ?_
      exact does_value (w' := W) (v := .slice A0 n0 c0) (by go_simp) ⟨(), .inr rfl, hS⟩
    · have E27 := hval 2 _ 27 rfl rfl (dep_of hdep 2 (by rfl))
      unfold ordV at E27
      refine g_plain rfl ?_
      refine does_call 30 #[.slice A0 n0 c0] (by go_simp) ((HC2.out W hS).mono ?_)
      rintro e w' ⟨rfl, rfl⟩
      exact ⟨.int .i64 k, rfl, (), .inr rfl, hS⟩
    · have E26 := hval 1 _ 26 rfl rfl (dep_of hdep 1 (by rfl))
      have E28 := hval 3 _ 28 rfl rfl (dep_of hdep 3 (by rfl))
      unfold ordV at E26 E28
      refine g_plain rfl ?_
      exact does_value (w' := W) (v := .bool true) (by go_simp) ⟨(), .inr rfl, hS⟩
    · have E29 := hval 4 _ 29 rfl rfl (dep_of hdep 4 (by rfl))
      unfold ordV at E29
      refine g_plain rfl ?_
      exact does_value (w' := W) (v := .bool true) (by go_simp) ⟨(), .inr rfl, hS⟩
    · have EG := hval 5 _ 30 rfl rfl (dep_of hdep 5 (by rfl))
      have E4 : a.tmps[4]? = some (.pointer (some ⟨p0, 0, none⟩)) := (same_of hsame 4 (by rfl)).trans rfl
      unfold ordV at EG
      refine g_want rfl rfl rfl EG ?_
      exact does_load_dot _ rfl p0 (by rw [eval_getD, E4]; rfl) (HD0.out.keep hS) ⟨(), .inr rfl, hS⟩
    · have EG := hval 5 _ 30 rfl rfl (dep_of hdep 5 (by rfl))
      have E9 : a.tmps[9]? = some (.slice AA1 n0 cc1) := (same_of hsame 9 (by rfl)).trans rfl
      unfold ordV at EG
      refine g_want rfl rfl rfl EG ?_
      exact does_value (w' := W) (v := .slice AA1 n0 cc1) (by go_simp) ⟨(), .inr rfl, hS⟩
    · have EG := hval 5 _ 30 rfl rfl (dep_of hdep 5 (by rfl))
      have E6 : a.tmps[6]? = some (.pointer (some ⟨p1, 0, none⟩)) := (same_of hsame 6 (by rfl)).trans rfl
      unfold ordV at EG
      refine g_want rfl rfl rfl EG ?_
      exact does_load_dot _ rfl p1 (by rw [eval_getD, E6]; rfl) (HD1.out.keep hS) ⟨(), .inr rfl, hS⟩
    · have EG := hval 5 _ 30 rfl rfl (dep_of hdep 5 (by rfl))
      have E10 : a.tmps[10]? = some (.slice AA2 n1 cc2) := (same_of hsame 10 (by rfl)).trans rfl
      unfold ordV at EG
      refine g_want rfl rfl rfl EG ?_
      exact does_value (w' := W) (v := .slice AA2 n1 cc2) (by go_simp) ⟨(), .inr rfl, hS⟩
    · have EG := hval 5 _ 30 rfl rfl (dep_of hdep 5 (by rfl))
      have E31 := hval 6 _ 31 rfl rfl (dep_of hdep 6 (by rfl))
      have E32 := hval 7 _ 32 rfl rfl (dep_of hdep 7 (by rfl))
      have E33 := hval 8 _ 33 rfl rfl (dep_of hdep 8 (by rfl))
      have E34 := hval 9 _ 34 rfl rfl (dep_of hdep 9 (by rfl))
      unfold ordV at EG E31 E32 E33 E34
      refine g_want rfl rfl rfl EG ?_
      refine does_call 31 #[.agg #[.int .i64 R0, .int .i64 N0], .slice AA1 n0 cc1, .agg #[.int .i64 R1, .int .i64 N1], .slice AA2 n1 cc2] (by go_simp) ((HC3.out W hS).mono ?_)
      rintro e w' ⟨rfl, hb⟩
      exact ⟨.bool e, rfl, (), .inr rfl, hS.trans (hb.mono hS.size)⟩
    · have EG := hval 5 _ 30 rfl rfl (dep_of hdep 5 (by rfl))
      have E4 : a.tmps[4]? = some (.pointer (some ⟨p0, 0, none⟩)) := (same_of hsame 4 (by rfl)).trans rfl
      unfold ordV at EG
      refine g_want rfl rfl rfl EG ?_
      exact does_load_dot _ rfl p0 (by rw [eval_getD, E4]; rfl) (HD0.out.keep hS) ⟨(), .inr rfl, hS⟩
    · have EG := hval 5 _ 30 rfl rfl (dep_of hdep 5 (by rfl))
      have E1 : a.tmps[1]? = some (.slice A0 n0 c0) := (same_of hsame 1 (by rfl)).trans rfl
      unfold ordV at EG
      refine g_want rfl rfl rfl EG ?_
      exact does_value (w' := W) (v := .slice A0 n0 c0) (by go_simp) ⟨(), .inr rfl, hS⟩
    · have EG := hval 5 _ 30 rfl rfl (dep_of hdep 5 (by rfl))
      have E6 : a.tmps[6]? = some (.pointer (some ⟨p1, 0, none⟩)) := (same_of hsame 6 (by rfl)).trans rfl
      unfold ordV at EG
      refine g_want rfl rfl rfl EG ?_
      exact does_load_dot _ rfl p1 (by rw [eval_getD, E6]; rfl) (HD1.out.keep hS) ⟨(), .inr rfl, hS⟩
    · have EG := hval 5 _ 30 rfl rfl (dep_of hdep 5 (by rfl))
      have E3 : a.tmps[3]? = some (.slice A1 n1 c1) := (same_of hsame 3 (by rfl)).trans rfl
      unfold ordV at EG
      refine g_want rfl rfl rfl EG ?_
      exact does_value (w' := W) (v := .slice A1 n1 c1) (by go_simp) ⟨(), .inr rfl, hS⟩
    · have EG := hval 5 _ 30 rfl rfl (dep_of hdep 5 (by rfl))
      have E36 := hval 11 _ 36 rfl rfl (dep_of hdep 11 (by rfl))
      have E37 := hval 12 _ 37 rfl rfl (dep_of hdep 12 (by rfl))
      have E38 := hval 13 _ 38 rfl rfl (dep_of hdep 13 (by rfl))
      have E39 := hval 14 _ 39 rfl rfl (dep_of hdep 14 (by rfl))
      unfold ordV at EG E36 E37 E38 E39
      refine g_want rfl rfl rfl EG ?_
      refine does_call 32 #[.agg #[.int .i64 R0, .int .i64 N0], .slice A0 n0 c0, .agg #[.int .i64 R1, .int .i64 N1], .slice A1 n1 c1] (by go_simp) ((HC4.out W hS).mono ?_)
      rintro e w' ⟨rfl, hb⟩
      exact ⟨.bool e, rfl, (), .inr rfl, hS.trans (hb.mono hS.size)⟩
    · have EG := hval 5 _ 30 rfl rfl (dep_of hdep 5 (by rfl))
      have E35 := hval 10 _ 35 rfl rfl (dep_of hdep 10 (by rfl))
      have E40 := hval 15 _ 40 rfl rfl (dep_of hdep 15 (by rfl))
      unfold ordV at EG E35 E40
      refine g_want rfl rfl rfl EG ?_
      exact does_value (w' := W) (v := .bool true) (by go_simp) ⟨(), .inr rfl, hS⟩
    · have E30 := hval 5 _ 30 rfl rfl (dep_of hdep 5 (by rfl))
      have E41 := hval 16 _ 41 rfl rfl (dep_of hdep 16 (by rfl))
      unfold ordV at E30 E41
      refine g_plain rfl ?_
      exact does_value (w' := W) (v := .bool true) (by go_simp) ⟨(), .inr rfl, hS⟩
    · have E42 := hval 17 _ 42 rfl rfl (dep_of hdep 17 (by rfl))
      unfold ordV at E42
      refine g_plain rfl ?_
      exact does_value (w' := W) (v := .bool true) (by go_simp) ⟨(), .inr rfl, hS⟩
  · intro gh W4 hb
    replace HU := hid (HU.out.keep hb)
    replace HV := hid (HV.out.keep hb)
    replace HD0 := hid (HD0.out.keep hb)
    replace HD1 := hid (HD1.out.keep hb)
    replace F1 := hid (F1.out.keep hb)
    replace F2 := hid (F2.out.keep hb)
    replace HB := hid (HB.out.trans (hb.mono HB.out.size))
    clear hb
    simp only [putAll, ordV, Nat.reduceAdd, Nat.zero_add, Act.put, List.setIfInBounds_toArray, List.set_cons_zero, List.set_cons_succ]
    clear HC1 HC2 HC3 HC4
    have hc := sameI_calls n0 cc1 n0 c0 AA1 A0 u u W4 F1.out HU.out (by omega) (by omega)
    rw [show (u == u) = true from beq_self_eq_true _] at hc
    have HC := hid hc
    clear hc
    go_wp2_with fail
    refine HC.out.mono ?_
    rintro e W5 ⟨rfl, hb⟩
    clear HC
    replace HU := hid (HU.out.keep hb)
    replace HV := hid (HV.out.keep hb)
    replace HD0 := hid (HD0.out.keep hb)
    replace HD1 := hid (HD1.out.keep hb)
    replace F1 := hid (F1.out.keep hb)
    replace F2 := hid (F2.out.keep hb)
    replace HB := hid (HB.out.trans (hb.mono HB.out.size))
    clear hb
    have hc := sameI_calls n1 cc2 n1 c1 AA2 A1 v v W5 F2.out HV.out (by omega) (by omega)
    rw [show (v == v) = true from beq_self_eq_true _] at hc
    have HC := hid hc
    clear hc
    go_wp2_with fail
    refine HC.out.mono ?_
    rintro e W6 ⟨rfl, hb⟩
    clear HC
    replace HU := hid (HU.out.keep hb)
    replace HV := hid (HV.out.keep hb)
    replace HD0 := hid (HD0.out.keep hb)
    replace HD1 := hid (HD1.out.keep hb)
    replace F1 := hid (F1.out.keep hb)
    replace F2 := hid (F2.out.keep hb)
    replace HB := hid (HB.out.trans (hb.mono HB.out.size))
    clear hb
    have hc := awake_calls W6
    have HC := hid hc
    clear hc
    go_wp2_with fail
    refine HC.out.mono ?_
    rintro e W7 ⟨rfl, hb⟩
    clear HC
    replace HU := hid (HU.out.keep hb)
    replace HV := hid (HV.out.keep hb)
    replace HD0 := hid (HD0.out.keep hb)
    replace HD1 := hid (HD1.out.keep hb)
    replace F1 := hid (F1.out.keep hb)
    replace F2 := hid (F2.out.keep hb)
    replace HB := hid (HB.out.trans (hb.mono HB.out.size))
    clear hb
    go_wp2_with fail
    go_ret
    exact ⟨rfl, HB.out⟩
end Go.Proofs.Ytfcildpigkobcaa
