/- Contract: Less of the project. Written by tools/mkvd.py. -/
import Derived.Test.YtfcildpigkobcaaVcNext
namespace Go.Proofs.Ytfcildpigkobcaa
open Go Go.RowKit Go.Shelf

def lessV (R N : Int) (v : List Int) (R2 N2 : Int) (u : List Int) : Bool := if wgtV v = wgtV u then dotLt R N R2 N2 else decide (wgtV v < wgtV u)
def vLesA (R : Int) (N : Int) (R2 : Int) (N2 : Int) : Nat → Unit → Value
  | 0, _ => .agg #[.int .i64 R, .int .i64 N]
  | 1, _ => .agg #[.int .i64 R2, .int .i64 N2]
  | 2, _ => .bool false
  | 3, _ => .bool false
  | 4, _ => undef
  | 5, _ => undef
  | 6, _ => undef
  | 7, _ => undef
  | 8, _ => undef
  | 9, _ => .bool false
  | 10, _ => .bool false
  | _, _ => undef
def vLesB (R : Int) (N : Int) (R2 : Int) (N2 : Int) : Nat → Unit → Value
  | 0, _ => .agg #[.int .i64 R, .int .i64 N]
  | 1, _ => .agg #[.int .i64 R2, .int .i64 N2]
  | 2, _ => .bool true
  | 3, _ => .bool true
  | 4, _ => .agg #[.int .i64 R, .int .i64 N]
  | 5, _ => .agg #[.int .i64 R2, .int .i64 N2]
  | 6, _ => .agg #[.int .i64 R, .int .i64 N]
  | 7, _ => .agg #[.int .i64 R, .int .i64 N]
  | 8, _ => .bool true
  | 9, _ => .bool true
  | 10, _ => .bool true
  | _, _ => undef
def vLesC (R : Int) (N : Int) (R2 : Int) (N2 : Int) : Nat → Unit → Value
  | 0, _ => .agg #[.int .i64 R, .int .i64 N]
  | 1, _ => .agg #[.int .i64 R2, .int .i64 N2]
  | 2, _ => .bool true
  | 3, _ => .bool true
  | 4, _ => .agg #[.int .i64 R, .int .i64 N]
  | 5, _ => .agg #[.int .i64 R2, .int .i64 N2]
  | 6, _ => .agg #[.int .i64 R2, .int .i64 N2]
  | 7, _ => .agg #[.int .i64 R, .int .i64 N]
  | 8, _ => .bool false
  | 9, _ => .bool false
  | 10, _ => .bool false
  | _, _ => undef
theorem two_dots (w : World) (R N R2 N2 : Int) : ∃ w2, w2 = (w.alloc (.cells #[.int .i64 R, .int .i64 N] 24)).alloc (.cells #[.int .i64 R2, .int .i64 N2] 24) ∧ Blk w2 w.heap.size 24 #[.int .i64 R, .int .i64 N] ∧ Blk w2 (w.heap.size + 1) 24 #[.int .i64 R2, .int .i64 N2] ∧ Below w.heap.size w w2 := by
  have s1 := size_new w (.cells #[.int .i64 R, .int .i64 N] 24)
  have b1 := below_new w (.cells #[.int .i64 R, .int .i64 N] 24)
  have b2 := below_new (w.alloc (.cells #[.int .i64 R, .int .i64 N] 24)) (.cells #[.int .i64 R2, .int .i64 N2] 24)
  have k1 := Blk.new w 24 #[.int .i64 R, .int .i64 N]
  have k2 := Blk.new (w.alloc (.cells #[.int .i64 R, .int .i64 N] 24)) 24 #[.int .i64 R2, .int .i64 N2]
  rw [s1] at k2
  exact ⟨_, rfl, k1.keep b2, k2, b1.trans (b2.mono b1.size)⟩
theorem dotLt_ne {R N R2 N2 : Int} (h : dotLt R N R2 N2 = true) : R = R2 → ¬ N = N2 := by
  unfold dotLt at h
  simp only [Bool.or_eq_true, Bool.and_eq_true, decide_eq_true_eq] at h
  omega
theorem dotLt_self (R N : Int) : dotLt R N R N = false := by unfold dotLt; simp
set_option maxRecDepth 20000 in
set_option maxHeartbeats 1000000 in
theorem vLess_calls (R N R2 N2 : Int) (n1 c1 n2 c2 : Nat) (A1 A2 : Option Addr) (v1 v2 : List Int) (w : World) (h1 : NI w A1 n1 v1) (h2 : NI w A2 n2 v2) (hn1 : n1 ≤ 1000000) (hn2 : n2 ≤ 1000000) :
    Calls Try.prog 31 #[.agg #[.int .i64 R, .int .i64 N], .slice A1 n1 c1, .agg #[.int .i64 R2, .int .i64 N2], .slice A2 n2 c2] w fun e w' => e = .returned (.bool (lessV R N v1 R2 N2 v2)) ∧ Below w.heap.size w w' := by
  obtain ⟨w2, hw2, hk1, hk2, hb2⟩ := two_dots w R N R2 N2
  obtain ⟨p, hp⟩ : ∃ p, w.heap.size = p := ⟨_, rfl⟩
  obtain ⟨p2, hp2⟩ : ∃ p2, w.heap.size + 1 = p2 := ⟨_, rfl⟩
  rw [hp] at hk1
  rw [hp2] at hk2
  have HW := hid (weight_calls n1 c1 A1 v1 w2 (h1.keep hb2) hn1)
  have HU := hid (fun W (hb : Below w2.heap.size w2 W) => weight_calls n2 c2 A2 v2 W ((h2.keep hb2).keep hb) hn2)
  obtain ⟨x, hx⟩ : ∃ x, wgtV v1 = x := ⟨_, rfl⟩
  obtain ⟨y, hy⟩ : ∃ y, wgtV v2 = y := ⟨_, rfl⟩
  obtain ⟨res, hres⟩ : ∃ res, lessV R N v1 R2 N2 v2 = res := ⟨_, rfl⟩
  rw [hres]
  have HR := hid (show res = if x = y then dotLt R N R2 N2 else decide (x < y) from by rw [← hres]; unfold lessV; rw [hx, hy])
  rw [hx] at HW
  rw [hy] at HU
  have HW2 := hid hw2; have K1 := hid hk1; have K2 := hid hk2; have HB2 := hid hb2; have HPP := hid hp; have HP2P := hid hp2
  clear h1 h2 hx hy hres hw2 hk1 hk2 hb2 hp hp2
  go_enter Try.func31, Try.ntmps31
  go_wp2_with fail
  rw [← HW2.out, HP2P.out, HPP.out]
  refine HW.out.mono ?_
  rintro e W3 ⟨rfl, hb3⟩
  have HC := hid (HU.out W3 hb3)
  have HB3 := hid hb3
  clear hb3 HU HW HW2
  go_wp2_with fail
  refine HC.out.mono ?_
  rintro e W4 ⟨rfl, hb4⟩
  have hb5 := HB3.out.trans (hb4.mono HB3.out.size)
  have HBE := hid (HB2.out.trans (hb5.mono HB2.out.size))
  have K1 := hid (K1.out.keep hb5); have K2 := hid (K2.out.keep hb5)
  clear hb4 hb5 HB3 HC
  by_cases hxy : x = y
  · rw [if_pos hxy] at HR
    subst hxy
    obtain ⟨w1, hw1⟩ : ∃ w1, w1 = W4 := ⟨_, rfl⟩
    rw [← hw1] at K1 K2 HBE ⊢
    clear hw1
    have HP := K1; have HP2 := K2
    cases hlt : dotLt R N R2 N2 with
    | true =>
      have HQ1 := hid (dotLt_ne hlt)
      have HER := hid (fun W => show Calls Try.prog 45 #[.agg #[.int .i64 R, .int .i64 N], .agg #[.int .i64 R2, .int .i64 N2]] W fun e w' => e = .returned (.agg #[.int .i64 R, .int .i64 N]) ∧ Below W.heap.size W w' from by
        have := earlier_calls R N R2 N2 W
        rwa [if_pos hlt] at this)
      rw [hlt] at HR
      clear hlt
      go_wp2_with fail
      refine wp_region_invG 31 () (vLesB R N R2 N2) (fun _ _ W => Below w1.heap.size w1 W) (by kernel_rfl) (by kernel_rfl) (by exact Nat.le_refl 31) ?_ ?_ ?_
      · exact (Below.refl _ _).drew
      · intro i o f gh a W hi hf hdep hsame hcl hval hS
        rcases i with _ | _ | _ | _ | _ | _ | _ | _ | _ | _ | _ | i
        all_goals simp only [List.getElem?_cons_succ, List.getElem?_cons_zero, List.getElem?_nil, Option.some.injEq, reduceCtorEq] at hi
        all_goals subst hi
        · have E4 : a.tmps[4]? = some (.pointer (some ⟨p, 0, none⟩)) := (same_of hsame 4 (by rfl)).trans rfl
          have kp := HP.out.keep hS
          have kp2 := HP2.out.keep hS
          refine g_plain rfl ?_
          exact does_load_dot _ rfl p (by rw [eval_getD, E4]; rfl) kp ⟨(), .inr rfl, hS⟩
        · have E6 : a.tmps[6]? = some (.pointer (some ⟨p2, 0, none⟩)) := (same_of hsame 6 (by rfl)).trans rfl
          have kp := HP.out.keep hS
          have kp2 := HP2.out.keep hS
          refine g_plain rfl ?_
          exact does_load_dot _ rfl p2 (by rw [eval_getD, E6]; rfl) kp2 ⟨(), .inr rfl, hS⟩
        · have E21 := hval 0 _ 21 rfl rfl (dep_of hdep 0 (by rfl))
          have E22 := hval 1 _ 22 rfl rfl (dep_of hdep 1 (by rfl))
          unfold vLesB at E21 E22
          refine g_plain rfl ?_
          exact does_value (w' := W) (v := .bool true) (by go_simp; exact HQ1.out) ⟨(), .inr rfl, hS⟩
        · have E23 := hval 2 _ 23 rfl rfl (dep_of hdep 2 (by rfl))
          unfold vLesB at E23
          refine g_plain rfl ?_
          exact does_value (w' := W) (v := .bool true) (by go_simp) ⟨(), .inr rfl, hS⟩
        · have EG := hval 3 _ 24 rfl rfl (dep_of hdep 3 (by rfl))
          have E4 : a.tmps[4]? = some (.pointer (some ⟨p, 0, none⟩)) := (same_of hsame 4 (by rfl)).trans rfl
          unfold vLesB at EG
          have kp := HP.out.keep hS
          have kp2 := HP2.out.keep hS
          refine g_want rfl rfl rfl EG ?_
          exact does_load_dot _ rfl p (by rw [eval_getD, E4]; rfl) kp ⟨(), .inr rfl, hS⟩
        · have EG := hval 3 _ 24 rfl rfl (dep_of hdep 3 (by rfl))
          have E6 : a.tmps[6]? = some (.pointer (some ⟨p2, 0, none⟩)) := (same_of hsame 6 (by rfl)).trans rfl
          unfold vLesB at EG
          have kp := HP.out.keep hS
          have kp2 := HP2.out.keep hS
          refine g_want rfl rfl rfl EG ?_
          exact does_load_dot _ rfl p2 (by rw [eval_getD, E6]; rfl) kp2 ⟨(), .inr rfl, hS⟩
        · have EG := hval 3 _ 24 rfl rfl (dep_of hdep 3 (by rfl))
          have E25 := hval 4 _ 25 rfl rfl (dep_of hdep 4 (by rfl))
          have E26 := hval 5 _ 26 rfl rfl (dep_of hdep 5 (by rfl))
          unfold vLesB at EG E25 E26
          refine g_want rfl rfl rfl EG ?_
          refine does_call 45 #[.agg #[.int .i64 R, .int .i64 N], .agg #[.int .i64 R2, .int .i64 N2]] (by go_simp) ((HER.out W).mono ?_)
          rintro e w' ⟨rfl, hb⟩
          exact ⟨.agg #[.int .i64 R, .int .i64 N], rfl, (), .inr rfl, hS.trans (hb.mono hS.size)⟩
        · have EG := hval 3 _ 24 rfl rfl (dep_of hdep 3 (by rfl))
          have E4 : a.tmps[4]? = some (.pointer (some ⟨p, 0, none⟩)) := (same_of hsame 4 (by rfl)).trans rfl
          unfold vLesB at EG
          have kp := HP.out.keep hS
          have kp2 := HP2.out.keep hS
          refine g_want rfl rfl rfl EG ?_
          exact does_load_dot _ rfl p (by rw [eval_getD, E4]; rfl) kp ⟨(), .inr rfl, hS⟩
        · have EG := hval 3 _ 24 rfl rfl (dep_of hdep 3 (by rfl))
          have E27 := hval 6 _ 27 rfl rfl (dep_of hdep 6 (by rfl))
          have E28 := hval 7 _ 28 rfl rfl (dep_of hdep 7 (by rfl))
          unfold vLesB at EG E27 E28
          refine g_want rfl rfl rfl EG ?_
          exact does_value (w' := W) (v := .bool true) (by go_simp) ⟨(), .inr rfl, hS⟩
        · have E24 := hval 3 _ 24 rfl rfl (dep_of hdep 3 (by rfl))
          have E29 := hval 8 _ 29 rfl rfl (dep_of hdep 8 (by rfl))
          unfold vLesB at E24 E29
          refine g_plain rfl ?_
          exact does_value (w' := W) (v := .bool true) (by go_simp) ⟨(), .inr rfl, hS⟩
        · have E30 := hval 9 _ 30 rfl rfl (dep_of hdep 9 (by rfl))
          unfold vLesB at E30
          refine g_plain rfl ?_
          exact does_value (w' := W) (v := .bool true) (by go_simp) ⟨(), .inr rfl, hS⟩
      · intro gh W hS
        have HS := hid (HBE.out.trans (hS.mono HBE.out.size))
        clear hS
        simp only [putAll, vLesB, Nat.reduceAdd, Nat.zero_add, Act.put, List.setIfInBounds_toArray, List.set_cons_zero, List.set_cons_succ]
        go_wp2_with fail
        go_ret
        exact ⟨ret_bool HR.out.symm, HS.out⟩
    | false =>
      rw [hlt] at HR
      by_cases he : R = R2 ∧ N = N2
      · have HQ0 := hid he
        clear he hlt
        go_wp2_with fail
        refine wp_region_invG 31 () (vLesA R N R2 N2) (fun _ _ W => Below w1.heap.size w1 W) (by kernel_rfl) (by kernel_rfl) (by exact Nat.le_refl 31) ?_ ?_ ?_
        · exact (Below.refl _ _).drew
        · intro i o f gh a W hi hf hdep hsame hcl hval hS
          rcases i with _ | _ | _ | _ | _ | _ | _ | _ | _ | _ | _ | i
          all_goals simp only [List.getElem?_cons_succ, List.getElem?_cons_zero, List.getElem?_nil, Option.some.injEq, reduceCtorEq] at hi
          all_goals subst hi
          · have E4 : a.tmps[4]? = some (.pointer (some ⟨p, 0, none⟩)) := (same_of hsame 4 (by rfl)).trans rfl
            have kp := HP.out.keep hS
            have kp2 := HP2.out.keep hS
            refine g_plain rfl ?_
            exact does_load_dot _ rfl p (by rw [eval_getD, E4]; rfl) kp ⟨(), .inr rfl, hS⟩
          · have E6 : a.tmps[6]? = some (.pointer (some ⟨p2, 0, none⟩)) := (same_of hsame 6 (by rfl)).trans rfl
            have kp := HP.out.keep hS
            have kp2 := HP2.out.keep hS
            refine g_plain rfl ?_
            exact does_load_dot _ rfl p2 (by rw [eval_getD, E6]; rfl) kp2 ⟨(), .inr rfl, hS⟩
          · have E21 := hval 0 _ 21 rfl rfl (dep_of hdep 0 (by rfl))
            have E22 := hval 1 _ 22 rfl rfl (dep_of hdep 1 (by rfl))
            unfold vLesA at E21 E22
            refine g_plain rfl ?_
            exact does_value (w' := W) (v := .bool false) (by go_simp; rw [if_pos HQ0.out.1, if_pos HQ0.out.2]) ⟨(), .inr rfl, hS⟩
          · have E23 := hval 2 _ 23 rfl rfl (dep_of hdep 2 (by rfl))
            unfold vLesA at E23
            refine g_plain rfl ?_
            exact does_value (w' := W) (v := .bool false) (by go_simp) ⟨(), .inr rfl, hS⟩
          · have EG := hval 3 _ 24 rfl rfl (dep_of hdep 3 (by rfl))
            unfold vLesA at EG
            exact g_skip rfl rfl rfl EG rfl ⟨(), .inr rfl, hS⟩
          · have EG := hval 3 _ 24 rfl rfl (dep_of hdep 3 (by rfl))
            unfold vLesA at EG
            exact g_skip rfl rfl rfl EG rfl ⟨(), .inr rfl, hS⟩
          · have EG := hval 3 _ 24 rfl rfl (dep_of hdep 3 (by rfl))
            unfold vLesA at EG
            exact g_skip rfl rfl rfl EG rfl ⟨(), .inr rfl, hS⟩
          · have EG := hval 3 _ 24 rfl rfl (dep_of hdep 3 (by rfl))
            unfold vLesA at EG
            exact g_skip rfl rfl rfl EG rfl ⟨(), .inr rfl, hS⟩
          · have EG := hval 3 _ 24 rfl rfl (dep_of hdep 3 (by rfl))
            unfold vLesA at EG
            exact g_skip rfl rfl rfl EG rfl ⟨(), .inr rfl, hS⟩
          · have E24 := hval 3 _ 24 rfl rfl (dep_of hdep 3 (by rfl))
            have E29 := hval 8 _ 29 rfl rfl (dep_of hdep 8 (by rfl))
            unfold vLesA at E24 E29
            refine g_plain rfl ?_
            exact does_value (w' := W) (v := .bool false) (by go_simp) ⟨(), .inr rfl, hS⟩
          · have E30 := hval 9 _ 30 rfl rfl (dep_of hdep 9 (by rfl))
            unfold vLesA at E30
            refine g_plain rfl ?_
            exact does_value (w' := W) (v := .bool false) (by go_simp) ⟨(), .inr rfl, hS⟩
        · intro gh W hS
          have HS := hid (HBE.out.trans (hS.mono HBE.out.size))
          clear hS
          simp only [putAll, vLesA, Nat.reduceAdd, Nat.zero_add, Act.put, List.setIfInBounds_toArray, List.set_cons_zero, List.set_cons_succ]
          go_wp2_with fail
          go_ret
          exact ⟨ret_bool HR.out.symm, HS.out⟩
      · have HQ1 := hid (show R = R2 → ¬ N = N2 from fun e1 e2 => he ⟨e1, e2⟩)
        have HQ2 := hid (show R2 = R → ¬ N2 = N from fun e1 e2 => he ⟨e1.symm, e2.symm⟩)
        have HER := hid (fun W => show Calls Try.prog 45 #[.agg #[.int .i64 R, .int .i64 N], .agg #[.int .i64 R2, .int .i64 N2]] W fun e w' => e = .returned (.agg #[.int .i64 R2, .int .i64 N2]) ∧ Below W.heap.size W w' from by
          have := earlier_calls R N R2 N2 W
          rw [hlt] at this
          exact this)
        clear he hlt
        go_wp2_with fail
        refine wp_region_invG 31 () (vLesC R N R2 N2) (fun _ _ W => Below w1.heap.size w1 W) (by kernel_rfl) (by kernel_rfl) (by exact Nat.le_refl 31) ?_ ?_ ?_
        · exact (Below.refl _ _).drew
        · intro i o f gh a W hi hf hdep hsame hcl hval hS
          rcases i with _ | _ | _ | _ | _ | _ | _ | _ | _ | _ | _ | i
          all_goals simp only [List.getElem?_cons_succ, List.getElem?_cons_zero, List.getElem?_nil, Option.some.injEq, reduceCtorEq] at hi
          all_goals subst hi
          · have E4 : a.tmps[4]? = some (.pointer (some ⟨p, 0, none⟩)) := (same_of hsame 4 (by rfl)).trans rfl
            have kp := HP.out.keep hS
            have kp2 := HP2.out.keep hS
            refine g_plain rfl ?_
            exact does_load_dot _ rfl p (by rw [eval_getD, E4]; rfl) kp ⟨(), .inr rfl, hS⟩
          · have E6 : a.tmps[6]? = some (.pointer (some ⟨p2, 0, none⟩)) := (same_of hsame 6 (by rfl)).trans rfl
            have kp := HP.out.keep hS
            have kp2 := HP2.out.keep hS
            refine g_plain rfl ?_
            exact does_load_dot _ rfl p2 (by rw [eval_getD, E6]; rfl) kp2 ⟨(), .inr rfl, hS⟩
          · have E21 := hval 0 _ 21 rfl rfl (dep_of hdep 0 (by rfl))
            have E22 := hval 1 _ 22 rfl rfl (dep_of hdep 1 (by rfl))
            unfold vLesC at E21 E22
            refine g_plain rfl ?_
            exact does_value (w' := W) (v := .bool true) (by go_simp; exact HQ1.out) ⟨(), .inr rfl, hS⟩
          · have E23 := hval 2 _ 23 rfl rfl (dep_of hdep 2 (by rfl))
            unfold vLesC at E23
            refine g_plain rfl ?_
            exact does_value (w' := W) (v := .bool true) (by go_simp) ⟨(), .inr rfl, hS⟩
          · have EG := hval 3 _ 24 rfl rfl (dep_of hdep 3 (by rfl))
            have E4 : a.tmps[4]? = some (.pointer (some ⟨p, 0, none⟩)) := (same_of hsame 4 (by rfl)).trans rfl
            unfold vLesC at EG
            have kp := HP.out.keep hS
            have kp2 := HP2.out.keep hS
            refine g_want rfl rfl rfl EG ?_
            exact does_load_dot _ rfl p (by rw [eval_getD, E4]; rfl) kp ⟨(), .inr rfl, hS⟩
          · have EG := hval 3 _ 24 rfl rfl (dep_of hdep 3 (by rfl))
            have E6 : a.tmps[6]? = some (.pointer (some ⟨p2, 0, none⟩)) := (same_of hsame 6 (by rfl)).trans rfl
            unfold vLesC at EG
            have kp := HP.out.keep hS
            have kp2 := HP2.out.keep hS
            refine g_want rfl rfl rfl EG ?_
            exact does_load_dot _ rfl p2 (by rw [eval_getD, E6]; rfl) kp2 ⟨(), .inr rfl, hS⟩
          · have EG := hval 3 _ 24 rfl rfl (dep_of hdep 3 (by rfl))
            have E25 := hval 4 _ 25 rfl rfl (dep_of hdep 4 (by rfl))
            have E26 := hval 5 _ 26 rfl rfl (dep_of hdep 5 (by rfl))
            unfold vLesC at EG E25 E26
            refine g_want rfl rfl rfl EG ?_
            refine does_call 45 #[.agg #[.int .i64 R, .int .i64 N], .agg #[.int .i64 R2, .int .i64 N2]] (by go_simp) ((HER.out W).mono ?_)
            rintro e w' ⟨rfl, hb⟩
            exact ⟨.agg #[.int .i64 R2, .int .i64 N2], rfl, (), .inr rfl, hS.trans (hb.mono hS.size)⟩
          · have EG := hval 3 _ 24 rfl rfl (dep_of hdep 3 (by rfl))
            have E4 : a.tmps[4]? = some (.pointer (some ⟨p, 0, none⟩)) := (same_of hsame 4 (by rfl)).trans rfl
            unfold vLesC at EG
            have kp := HP.out.keep hS
            have kp2 := HP2.out.keep hS
            refine g_want rfl rfl rfl EG ?_
            exact does_load_dot _ rfl p (by rw [eval_getD, E4]; rfl) kp ⟨(), .inr rfl, hS⟩
          · have EG := hval 3 _ 24 rfl rfl (dep_of hdep 3 (by rfl))
            have E27 := hval 6 _ 27 rfl rfl (dep_of hdep 6 (by rfl))
            have E28 := hval 7 _ 28 rfl rfl (dep_of hdep 7 (by rfl))
            unfold vLesC at EG E27 E28
            refine g_want rfl rfl rfl EG ?_
            exact does_value (w' := W) (v := .bool false) (by go_simp; exact HQ2.out) ⟨(), .inr rfl, hS⟩
          · have E24 := hval 3 _ 24 rfl rfl (dep_of hdep 3 (by rfl))
            have E29 := hval 8 _ 29 rfl rfl (dep_of hdep 8 (by rfl))
            unfold vLesC at E24 E29
            refine g_plain rfl ?_
            exact does_value (w' := W) (v := .bool false) (by go_simp) ⟨(), .inr rfl, hS⟩
          · have E30 := hval 9 _ 30 rfl rfl (dep_of hdep 9 (by rfl))
            unfold vLesC at E30
            refine g_plain rfl ?_
            exact does_value (w' := W) (v := .bool false) (by go_simp) ⟨(), .inr rfl, hS⟩
        · intro gh W hS
          have HS := hid (HBE.out.trans (hS.mono HBE.out.size))
          clear hS
          simp only [putAll, vLesC, Nat.reduceAdd, Nat.zero_add, Act.put, List.setIfInBounds_toArray, List.set_cons_zero, List.set_cons_succ]
          go_wp2_with fail
          go_ret
          exact ⟨ret_bool HR.out.symm, HS.out⟩
  · rw [if_neg hxy] at HR
    go_wp2_with fail
    go_ret
    exact ⟨ret_bool HR.out.symm, HBE.out⟩
end Go.Proofs.Ytfcildpigkobcaa
