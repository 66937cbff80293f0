/- The law VectorEvents, walked. Written by tools/mkvl.py. -/
import Derived.Deep.DeepCutAuto
import Derived.Deep.CutBlock
import Derived.Test.YtfcildpigkobcaaVcWide
namespace Go.Proofs.Ytfcildpigkobcaa
open Go Go.RowKit Go.Shelf

theorem three_dots (w : World) (R N R2 N2 R3 N3 : Int) : ∃ w2, w2 = ((w.alloc (.cells #[.int .i64 R, .int .i64 N] 24)).alloc (.cells #[.int .i64 R2, .int .i64 N2] 24)).alloc (.cells #[.int .i64 R3, .int .i64 N3] 24) ∧ Blk w2 w.heap.size 24 #[.int .i64 R, .int .i64 N] ∧ Blk w2 (w.heap.size + 1) 24 #[.int .i64 R2, .int .i64 N2] ∧ Blk w2 (w.heap.size + 1 + 1) 24 #[.int .i64 R3, .int .i64 N3] ∧ Below w.heap.size w w2 := by
  obtain ⟨w2, e, k1, k2, b⟩ := two_dots w R N R2 N2
  have hs : w2.heap.size = w.heap.size + 1 + 1 := by rw [e, size_new, size_new]
  have b2 := below_new w2 (.cells #[.int .i64 R3, .int .i64 N3] 24)
  have k3 := Blk.new w2 24 #[.int .i64 R3, .int .i64 N3]
  rw [hs] at k3
  refine ⟨_, by rw [← e], k1.keep b2, k2.keep b2, k3, b.trans (b2.mono b.size)⟩
def evV (R0 : Int) (N0 : Int) (A0 : Option Addr) (n0 : Nat) (c0 : Nat) (R1 : Int) (N1 : Int) (A1 : Option Addr) (n1 : Nat) (c1 : Nat) (b1 : Bool) (b2 : Bool) (R2 : Int) (N2 : Int) (A2 : Option Addr) (n2 : Nat) (c2 : Nat) (b3 : Bool) : Nat → Unit → Value
  | 0, _ => .agg #[.int .i64 R0, .int .i64 N0]
  | 1, _ => .slice A0 n0 c0
  | 2, _ => .agg #[.int .i64 R1, .int .i64 N1]
  | 3, _ => .slice A1 n1 c1
  | 4, _ => .bool b1
  | 5, _ => .agg #[.int .i64 R1, .int .i64 N1]
  | 6, _ => .slice A1 n1 c1
  | 7, _ => .agg #[.int .i64 R0, .int .i64 N0]
  | 8, _ => .slice A0 n0 c0
  | 9, _ => .bool b2
  | 10, _ => .agg #[.int .i64 R1, .int .i64 N1]
  | 11, _ => .slice A1 n1 c1
  | 12, _ => .agg #[.int .i64 R2, .int .i64 N2]
  | 13, _ => .slice A2 n2 c2
  | 14, _ => .bool b3
  | 15, _ => .bool b1
  | 16, _ => .bool b2
  | 17, _ => .bool b3
  | _, _ => undef
set_option maxRecDepth 20000 in
set_option maxHeartbeats 8000000 in
theorem events_calls (R0 N0 R1 N1 R2 N2 : Int) (n0 c0 n1 c1 n2 c2 : Nat) (A0 A1 A2 : Option Addr) (u v z : List Int) (W0 : World) (h0 : NI W0 A0 n0 u) (h1 : NI W0 A1 n1 v) (h2 : NI W0 A2 n2 z) :
    Calls Try.prog 8 #[.agg #[.int .i64 R0, .int .i64 N0], .slice A0 n0 c0, .agg #[.int .i64 R1, .int .i64 N1], .slice A1 n1 c1, .agg #[.int .i64 R2, .int .i64 N2], .slice A2 n2 c2] W0 fun e w' => e = .returned (.bool true) ∧ Below W0.heap.size W0 w' := by
  obtain ⟨W1, hw1, hk0, hk1, hk2, hb⟩ := three_dots W0 R0 N0 R1 N1 R2 N2
  obtain ⟨p0, hp0⟩ : ∃ p, W0.heap.size = p := ⟨_, rfl⟩
  obtain ⟨p1, hp1⟩ : ∃ p, W0.heap.size + 1 = p := ⟨_, rfl⟩
  obtain ⟨p2, hp2⟩ : ∃ p, W0.heap.size + 1 + 1 = p := ⟨_, rfl⟩
  rw [hp0] at hk0
  rw [hp1] at hk1
  rw [hp2] at hk2
  have hlu := h0.1
  have hlv := h1.1
  have HLU := hid hlu
  have HLV := hid hlv
  have HD0 := hid hk0; have HD1 := hid hk1; have HD2 := hid hk2; have HU := hid (h0.keep hb); have HV := hid (h1.keep hb); have HZ := hid (h2.keep hb); have HB := hid hb; have HW := hid hw1; have HP0 := hid hp0; have HP1 := hid hp1; have HP2 := hid hp2
  clear h0 h1 h2 hw1 hk0 hk1 hk2 hb hp0 hp1 hp2 hlu hlv
  go_enter Try.func8, Try.ntmps8
  have hc := known_calls W1
  have HC := hid hc
  clear hc
  go_wp2_with fail
  rw [← HW.out, HP2.out, HP1.out, HP0.out]
  refine HC.out.mono ?_
  rintro e W2 ⟨rfl, hb⟩
  clear HC
  replace HU := hid (HU.out.keep hb)
  replace HV := hid (HV.out.keep hb)
  replace HZ := hid (HZ.out.keep hb)
  replace HD0 := hid (HD0.out.keep hb)
  replace HD1 := hid (HD1.out.keep hb)
  replace HD2 := hid (HD2.out.keep hb)
  replace HB := hid (HB.out.trans (hb.mono HB.out.size))
  clear hb
  clear HW
  by_cases hl0 : n0 ≤ 20
  rotate_left
  · have hl0' : ¬ (n0 : Int) ≤ 20 := by omega
    go_wp2_with fail
    go_ret
    exact ⟨rfl, HB.out⟩
  have hl0' : (n0 : Int) ≤ 20 := by omega
  by_cases hl1 : n1 ≤ 20
  rotate_left
  · have hl1' : ¬ (n1 : Int) ≤ 20 := by omega
    go_wp2_with fail
    go_ret
    exact ⟨rfl, HB.out⟩
  have hl1' : (n1 : Int) ≤ 20 := by omega
  by_cases hl2 : n2 ≤ 20
  rotate_left
  · have hl2' : ¬ (n2 : Int) ≤ 20 := by omega
    go_wp2_with fail
    go_ret
    exact ⟨rfl, HB.out⟩
  have hl2' : (n2 : Int) ≤ 20 := by omega
  cases hwu : wideV u with
  | true =>
    have hc := wide_calls n0 c0 A0 u W2 HU.out (by omega)
    rw [show wideV u = true from hwu] at hc
    have HC := hid hc
    clear hc
    go_wp2_with fail
    refine HC.out.mono ?_
    rintro e w' ⟨rfl, rfl⟩
    clear HC
    go_wp2_with fail
    go_ret
    exact ⟨rfl, HB.out⟩
  | false =>
    have hc := wide_calls n0 c0 A0 u W2 HU.out (by omega)
    rw [show wideV u = false from hwu] at hc
    have HC := hid hc
    clear hc
    go_wp2_with fail
    refine HC.out.mono ?_
    rintro e w' ⟨rfl, rfl⟩
    clear HC
    have HNu := hid (narrow_of hwu)
    clear hwu
    cases hwv : wideV v with
    | true =>
      have hc := wide_calls n1 c1 A1 v W2 HV.out (by omega)
      rw [show wideV v = true from hwv] at hc
      have HC := hid hc
      clear hc
      go_wp2_with fail
      refine HC.out.mono ?_
      rintro e w' ⟨rfl, rfl⟩
      clear HC
      go_wp2_with fail
      go_ret
      exact ⟨rfl, HB.out⟩
    | false =>
      have hc := wide_calls n1 c1 A1 v W2 HV.out (by omega)
      rw [show wideV v = false from hwv] at hc
      have HC := hid hc
      clear hc
      go_wp2_with fail
      refine HC.out.mono ?_
      rintro e w' ⟨rfl, rfl⟩
      clear HC
      have HNv := hid (narrow_of hwv)
      clear hwv
      cases hwz : wideV z with
      | true =>
        have hc := wide_calls n2 c2 A2 z W2 HZ.out (by omega)
        rw [show wideV z = true from hwz] at hc
        have HC := hid hc
        clear hc
        go_wp2_with fail
        refine HC.out.mono ?_
        rintro e w' ⟨rfl, rfl⟩
        clear HC
        go_wp2_with fail
        go_ret
        exact ⟨rfl, HB.out⟩
      | false =>
        have hc := wide_calls n2 c2 A2 z W2 HZ.out (by omega)
        rw [show wideV z = false from hwz] at hc
        have HC := hid hc
        clear hc
        go_wp2_with fail
        refine HC.out.mono ?_
        rintro e w' ⟨rfl, rfl⟩
        clear HC
        have HNz := hid (narrow_of hwz)
        clear hwz
        obtain ⟨b1, hb1⟩ : ∃ b, lessV R0 N0 u R1 N1 v = b := ⟨_, rfl⟩
        obtain ⟨b2, hb2⟩ : ∃ b, lessV R1 N1 v R0 N0 u = b := ⟨_, rfl⟩
        obtain ⟨b3, hb3⟩ : ∃ b, lessV R1 N1 v R2 N2 z = b := ⟨_, rfl⟩
        have K1 := hid (fun (W : World) (hb : Below W2.heap.size W2 W) => vLess_calls R0 N0 R1 N1 n0 c0 n1 c1 A0 A1 u v W (HU.out.keep hb) (HV.out.keep hb) (by omega) (by omega))
        simp only [hb1] at K1
        have K2 := hid (fun (W : World) (hb : Below W2.heap.size W2 W) => vLess_calls R1 N1 R0 N0 n1 c1 n0 c0 A1 A0 v u W (HV.out.keep hb) (HU.out.keep hb) (by omega) (by omega))
        simp only [hb2] at K2
        have K3 := hid (fun (W : World) (hb : Below W2.heap.size W2 W) => vLess_calls R1 N1 R2 N2 n1 c1 n2 c2 A1 A2 v z W (HV.out.keep hb) (HZ.out.keep hb) (by omega) (by omega))
        simp only [hb3] at K3
        have HX1 := hid hb1; have HX2 := hid hb2; have HX3 := hid hb3
        clear hb1 hb2 hb3
        go_wp2_with fail
        refine wp_region_invG 112 () (evV R0 N0 A0 n0 c0 R1 N1 A1 n1 c1 b1 b2 R2 N2 A2 n2 c2 b3) (fun _ _ W => Below W2.heap.size W2 W) (by kernel_rfl) (by kernel_rfl) (by exact Nat.le_refl 112) ?_ ?_ ?_
        · exact (Below.refl _ _).drew
        · intro i o f gh a W hi hf hdep hsame hcl hval hS
          rcases i with _ | _ | _ | _ | _ | _ | _ | _ | _ | _ | _ | _ | _ | _ | _ | _ | _ | _ | i
          all_goals simp only [List.getElem?_cons_succ, List.getElem?_cons_zero, List.getElem?_nil, Option.some.injEq, reduceCtorEq] at hi
          all_goals subst hi
          · have E6 : a.tmps[6]? = some (.pointer (some ⟨p0, 0, none⟩)) := (same_of hsame 6 (by rfl)).trans rfl
            refine g_plain rfl ?_
            exact does_load_dot _ rfl p0 (by rw [eval_getD, E6]; rfl) (HD0.out.keep hS) ⟨(), .inr rfl, hS⟩
          · have E1 : a.tmps[1]? = some (.slice A0 n0 c0) := (same_of hsame 1 (by rfl)).trans rfl
            refine g_plain rfl ?_
            exact does_value (w' := W) (v := .slice A0 n0 c0) (by go_simp) ⟨(), .inr rfl, hS⟩
          · have E8 : a.tmps[8]? = some (.pointer (some ⟨p1, 0, none⟩)) := (same_of hsame 8 (by rfl)).trans rfl
            refine g_plain rfl ?_
            exact does_load_dot _ rfl p1 (by rw [eval_getD, E8]; rfl) (HD1.out.keep hS) ⟨(), .inr rfl, hS⟩
          · have E3 : a.tmps[3]? = some (.slice A1 n1 c1) := (same_of hsame 3 (by rfl)).trans rfl
            refine g_plain rfl ?_
            exact does_value (w' := W) (v := .slice A1 n1 c1) (by go_simp) ⟨(), .inr rfl, hS⟩
          · have E44 := hval 0 _ 44 rfl rfl (dep_of hdep 0 (by rfl))
            have E45 := hval 1 _ 45 rfl rfl (dep_of hdep 1 (by rfl))
            have E46 := hval 2 _ 46 rfl rfl (dep_of hdep 2 (by rfl))
            have E47 := hval 3 _ 47 rfl rfl (dep_of hdep 3 (by rfl))
            unfold evV at E44 E45 E46 E47
            refine g_plain rfl ?_
            refine does_call 31 #[.agg #[.int .i64 R0, .int .i64 N0], .slice A0 n0 c0, .agg #[.int .i64 R1, .int .i64 N1], .slice A1 n1 c1] (by go_simp) ((K1.out W hS).mono ?_)
            rintro e w' ⟨rfl, hb⟩
            exact ⟨.bool b1, rfl, (), .inr rfl, hS.trans (hb.mono hS.size)⟩
          · have E8 : a.tmps[8]? = some (.pointer (some ⟨p1, 0, none⟩)) := (same_of hsame 8 (by rfl)).trans rfl
            refine g_plain rfl ?_
            exact does_load_dot _ rfl p1 (by rw [eval_getD, E8]; rfl) (HD1.out.keep hS) ⟨(), .inr rfl, hS⟩
          · have E3 : a.tmps[3]? = some (.slice A1 n1 c1) := (same_of hsame 3 (by rfl)).trans rfl
            refine g_plain rfl ?_
            exact does_value (w' := W) (v := .slice A1 n1 c1) (by go_simp) ⟨(), .inr rfl, hS⟩
          · have E6 : a.tmps[6]? = some (.pointer (some ⟨p0, 0, none⟩)) := (same_of hsame 6 (by rfl)).trans rfl
            refine g_plain rfl ?_
            exact does_load_dot _ rfl p0 (by rw [eval_getD, E6]; rfl) (HD0.out.keep hS) ⟨(), .inr rfl, hS⟩
          · have E1 : a.tmps[1]? = some (.slice A0 n0 c0) := (same_of hsame 1 (by rfl)).trans rfl
            refine g_plain rfl ?_
            exact does_value (w' := W) (v := .slice A0 n0 c0) (by go_simp) ⟨(), .inr rfl, hS⟩
          · have E49 := hval 5 _ 49 rfl rfl (dep_of hdep 5 (by rfl))
            have E50 := hval 6 _ 50 rfl rfl (dep_of hdep 6 (by rfl))
            have E51 := hval 7 _ 51 rfl rfl (dep_of hdep 7 (by rfl))
            have E52 := hval 8 _ 52 rfl rfl (dep_of hdep 8 (by rfl))
            unfold evV at E49 E50 E51 E52
            refine g_plain rfl ?_
            refine does_call 31 #[.agg #[.int .i64 R1, .int .i64 N1], .slice A1 n1 c1, .agg #[.int .i64 R0, .int .i64 N0], .slice A0 n0 c0] (by go_simp) ((K2.out W hS).mono ?_)
            rintro e w' ⟨rfl, hb⟩
            exact ⟨.bool b2, rfl, (), .inr rfl, hS.trans (hb.mono hS.size)⟩
          · have E8 : a.tmps[8]? = some (.pointer (some ⟨p1, 0, none⟩)) := (same_of hsame 8 (by rfl)).trans rfl
            refine g_plain rfl ?_
            exact does_load_dot _ rfl p1 (by rw [eval_getD, E8]; rfl) (HD1.out.keep hS) ⟨(), .inr rfl, hS⟩
          · have E3 : a.tmps[3]? = some (.slice A1 n1 c1) := (same_of hsame 3 (by rfl)).trans rfl
            refine g_plain rfl ?_
            exact does_value (w' := W) (v := .slice A1 n1 c1) (by go_simp) ⟨(), .inr rfl, hS⟩
          · have E10 : a.tmps[10]? = some (.pointer (some ⟨p2, 0, none⟩)) := (same_of hsame 10 (by rfl)).trans rfl
            refine g_plain rfl ?_
            exact does_load_dot _ rfl p2 (by rw [eval_getD, E10]; rfl) (HD2.out.keep hS) ⟨(), .inr rfl, hS⟩
          · have E5 : a.tmps[5]? = some (.slice A2 n2 c2) := (same_of hsame 5 (by rfl)).trans rfl
            refine g_plain rfl ?_
            exact does_value (w' := W) (v := .slice A2 n2 c2) (by go_simp) ⟨(), .inr rfl, hS⟩
          · have E54 := hval 10 _ 54 rfl rfl (dep_of hdep 10 (by rfl))
            have E55 := hval 11 _ 55 rfl rfl (dep_of hdep 11 (by rfl))
            have E56 := hval 12 _ 56 rfl rfl (dep_of hdep 12 (by rfl))
            have E57 := hval 13 _ 57 rfl rfl (dep_of hdep 13 (by rfl))
            unfold evV at E54 E55 E56 E57
            refine g_plain rfl ?_
            refine does_call 31 #[.agg #[.int .i64 R1, .int .i64 N1], .slice A1 n1 c1, .agg #[.int .i64 R2, .int .i64 N2], .slice A2 n2 c2] (by go_simp) ((K3.out W hS).mono ?_)
            rintro e w' ⟨rfl, hb⟩
            exact ⟨.bool b3, rfl, (), .inr rfl, hS.trans (hb.mono hS.size)⟩
          · have E48 := hval 4 _ 48 rfl rfl (dep_of hdep 4 (by rfl))
            unfold evV at E48
            refine g_plain rfl ?_
            exact does_value (w' := W) (v := .bool b1) (by go_simp) ⟨(), .inr rfl, hS⟩
          · have E53 := hval 9 _ 53 rfl rfl (dep_of hdep 9 (by rfl))
            unfold evV at E53
            refine g_plain rfl ?_
            exact does_value (w' := W) (v := .bool b2) (by go_simp) ⟨(), .inr rfl, hS⟩
          · have E58 := hval 14 _ 58 rfl rfl (dep_of hdep 14 (by rfl))
            unfold evV at E58
            refine g_plain rfl ?_
            exact does_value (w' := W) (v := .bool b3) (by go_simp) ⟨(), .inr rfl, hS⟩
        · intro gh W3 hb
          replace HU := hid (HU.out.keep hb)
          replace HV := hid (HV.out.keep hb)
          replace HZ := hid (HZ.out.keep hb)
          replace HD0 := hid (HD0.out.keep hb)
          replace HD1 := hid (HD1.out.keep hb)
          replace HD2 := hid (HD2.out.keep hb)
          replace HB := hid (HB.out.trans (hb.mono HB.out.size))
          clear hb
          simp only [putAll, evV, Nat.reduceAdd, Nat.zero_add, Act.put, List.setIfInBounds_toArray, List.set_cons_zero, List.set_cons_succ]
          clear K1 K2 K3
          go_upto_region 5 with fail
          go_cut [96] from 59 to 96 (fun x wr => x = .bool false ∧ Hid (NI wr A0 n0 u) ∧ Hid (NI wr A1 n1 v) ∧ Hid (NI wr A2 n2 z) ∧ Hid (Blk wr p0 24 #[.int .i64 R0, .int .i64 N0]) ∧ Hid (Blk wr p1 24 #[.int .i64 R1, .int .i64 N1]) ∧ Hid (Blk wr p2 24 #[.int .i64 R2, .int .i64 N2]) ∧ Hid (Below W0.heap.size W0 wr))
          case first =>
            cases b1 with
            | true =>
              have hy : b2 = false := by rw [← HX2.out]; exact less_asym HX1.out
              subst hy
              cases b3 with
              | true =>
                have hc := vLess_calls R0 N0 R2 N2 n0 c0 n2 c2 A0 A2 u z W3 HU.out HZ.out (by omega) (by omega)
                rw [show lessV R0 N0 u R2 N2 z = true from less_trans HX1.out HX3.out] at hc
                have HC := hid hc
                clear hc
                have d00 := HD0.out.cell 0 rfl
                have d01 := HD0.out.cell 1 rfl
                have d20 := HD2.out.cell 0 rfl
                have d21 := HD2.out.cell 1 rfl
                go_wp2_with fail
                refine HC.out.mono ?_
                rintro e W4 ⟨rfl, hb⟩
                clear HC
                replace HU := hid (HU.out.keep hb)
                replace HV := hid (HV.out.keep hb)
                replace HZ := hid (HZ.out.keep hb)
                replace HD0 := hid (HD0.out.keep hb)
                replace HD1 := hid (HD1.out.keep hb)
                replace HD2 := hid (HD2.out.keep hb)
                replace HB := hid (HB.out.trans (hb.mono HB.out.size))
                clear hb
                clear d00 d01 d20 d21
                have hc := vLess_calls R0 N0 R0 N0 n0 c0 n0 c0 A0 A0 u u W4 HU.out HU.out (by omega) (by omega)
                rw [show lessV R0 N0 u R0 N0 u = false from less_self R0 N0 u] at hc
                have HC := hid hc
                clear hc
                have d00 := HD0.out.cell 0 rfl
                have d01 := HD0.out.cell 1 rfl
                go_wp2_with fail
                refine HC.out.mono ?_
                rintro e W5 ⟨rfl, hb⟩
                clear HC
                replace HU := hid (HU.out.keep hb)
                replace HV := hid (HV.out.keep hb)
                replace HZ := hid (HZ.out.keep hb)
                replace HD0 := hid (HD0.out.keep hb)
                replace HD1 := hid (HD1.out.keep hb)
                replace HD2 := hid (HD2.out.keep hb)
                replace HB := hid (HB.out.trans (hb.mono HB.out.size))
                clear hb
                clear d00 d01
                by_cases hR : R0 = R1
                · subst hR
                  by_cases hN : N0 = N1
                  · subst hN
                    have d00 := HD0.out.cell 0 rfl
                    have d01 := HD0.out.cell 1 rfl
                    have d10 := HD1.out.cell 0 rfl
                    have d11 := HD1.out.cell 1 rfl
                    go_wp2_with fail
                    go_meet
                    case rel => exact ⟨rfl, HU, HV, HZ, HD0, HD1, HD2, HB⟩
                  · have d00 := HD0.out.cell 0 rfl
                    have d01 := HD0.out.cell 1 rfl
                    have d10 := HD1.out.cell 0 rfl
                    have d11 := HD1.out.cell 1 rfl
                    go_wp2_with fail
                    go_meet
                    case rel => exact ⟨rfl, HU, HV, HZ, HD0, HD1, HD2, HB⟩
                · have d00 := HD0.out.cell 0 rfl
                  have d01 := HD0.out.cell 1 rfl
                  have d10 := HD1.out.cell 0 rfl
                  have d11 := HD1.out.cell 1 rfl
                  go_wp2_with fail
                  go_meet
                  case rel => exact ⟨rfl, HU, HV, HZ, HD0, HD1, HD2, HB⟩
              | false =>
                have hc := vLess_calls R0 N0 R0 N0 n0 c0 n0 c0 A0 A0 u u W3 HU.out HU.out (by omega) (by omega)
                rw [show lessV R0 N0 u R0 N0 u = false from less_self R0 N0 u] at hc
                have HC := hid hc
                clear hc
                have d00 := HD0.out.cell 0 rfl
                have d01 := HD0.out.cell 1 rfl
                go_wp2_with fail
                refine HC.out.mono ?_
                rintro e W4 ⟨rfl, hb⟩
                clear HC
                replace HU := hid (HU.out.keep hb)
                replace HV := hid (HV.out.keep hb)
                replace HZ := hid (HZ.out.keep hb)
                replace HD0 := hid (HD0.out.keep hb)
                replace HD1 := hid (HD1.out.keep hb)
                replace HD2 := hid (HD2.out.keep hb)
                replace HB := hid (HB.out.trans (hb.mono HB.out.size))
                clear hb
                clear d00 d01
                by_cases hR : R0 = R1
                · subst hR
                  by_cases hN : N0 = N1
                  · subst hN
                    have d00 := HD0.out.cell 0 rfl
                    have d01 := HD0.out.cell 1 rfl
                    have d10 := HD1.out.cell 0 rfl
                    have d11 := HD1.out.cell 1 rfl
                    go_wp2_with fail
                    go_meet
                    case rel => exact ⟨rfl, HU, HV, HZ, HD0, HD1, HD2, HB⟩
                  · have d00 := HD0.out.cell 0 rfl
                    have d01 := HD0.out.cell 1 rfl
                    have d10 := HD1.out.cell 0 rfl
                    have d11 := HD1.out.cell 1 rfl
                    go_wp2_with fail
                    go_meet
                    case rel => exact ⟨rfl, HU, HV, HZ, HD0, HD1, HD2, HB⟩
                · have d00 := HD0.out.cell 0 rfl
                  have d01 := HD0.out.cell 1 rfl
                  have d10 := HD1.out.cell 0 rfl
                  have d11 := HD1.out.cell 1 rfl
                  go_wp2_with fail
                  go_meet
                  case rel => exact ⟨rfl, HU, HV, HZ, HD0, HD1, HD2, HB⟩
            | false =>
              cases b2 with
              | true =>
                have hc := vLess_calls R0 N0 R0 N0 n0 c0 n0 c0 A0 A0 u u W3 HU.out HU.out (by omega) (by omega)
                rw [show lessV R0 N0 u R0 N0 u = false from less_self R0 N0 u] at hc
                have HC := hid hc
                clear hc
                have d00 := HD0.out.cell 0 rfl
                have d01 := HD0.out.cell 1 rfl
                go_wp2_with fail
                refine HC.out.mono ?_
                rintro e W4 ⟨rfl, hb⟩
                clear HC
                replace HU := hid (HU.out.keep hb)
                replace HV := hid (HV.out.keep hb)
                replace HZ := hid (HZ.out.keep hb)
                replace HD0 := hid (HD0.out.keep hb)
                replace HD1 := hid (HD1.out.keep hb)
                replace HD2 := hid (HD2.out.keep hb)
                replace HB := hid (HB.out.trans (hb.mono HB.out.size))
                clear hb
                clear d00 d01
                by_cases hR : R0 = R1
                · subst hR
                  by_cases hN : N0 = N1
                  · subst hN
                    have d00 := HD0.out.cell 0 rfl
                    have d01 := HD0.out.cell 1 rfl
                    have d10 := HD1.out.cell 0 rfl
                    have d11 := HD1.out.cell 1 rfl
                    go_wp2_with fail
                    go_meet
                    case rel => exact ⟨rfl, HU, HV, HZ, HD0, HD1, HD2, HB⟩
                  · have d00 := HD0.out.cell 0 rfl
                    have d01 := HD0.out.cell 1 rfl
                    have d10 := HD1.out.cell 0 rfl
                    have d11 := HD1.out.cell 1 rfl
                    go_wp2_with fail
                    go_meet
                    case rel => exact ⟨rfl, HU, HV, HZ, HD0, HD1, HD2, HB⟩
                · have d00 := HD0.out.cell 0 rfl
                  have d01 := HD0.out.cell 1 rfl
                  have d10 := HD1.out.cell 0 rfl
                  have d11 := HD1.out.cell 1 rfl
                  go_wp2_with fail
                  go_meet
                  case rel => exact ⟨rfl, HU, HV, HZ, HD0, HD1, HD2, HB⟩
              | false =>
                have hc := vLess_calls R0 N0 R0 N0 n0 c0 n0 c0 A0 A0 u u W3 HU.out HU.out (by omega) (by omega)
                rw [show lessV R0 N0 u R0 N0 u = false from less_self R0 N0 u] at hc
                have HC := hid hc
                clear hc
                have d00 := HD0.out.cell 0 rfl
                have d01 := HD0.out.cell 1 rfl
                go_wp2_with fail
                refine HC.out.mono ?_
                rintro e W4 ⟨rfl, hb⟩
                clear HC
                replace HU := hid (HU.out.keep hb)
                replace HV := hid (HV.out.keep hb)
                replace HZ := hid (HZ.out.keep hb)
                replace HD0 := hid (HD0.out.keep hb)
                replace HD1 := hid (HD1.out.keep hb)
                replace HD2 := hid (HD2.out.keep hb)
                replace HB := hid (HB.out.trans (hb.mono HB.out.size))
                clear hb
                clear d00 d01
                obtain ⟨rfl, rfl⟩ := less_total HX1.out HX2.out
                have d00 := HD0.out.cell 0 rfl
                have d01 := HD0.out.cell 1 rfl
                have d10 := HD1.out.cell 0 rfl
                have d11 := HD1.out.cell 1 rfl
                go_wp2_with fail
                go_meet
                case rel => exact ⟨rfl, HU, HV, HZ, HD0, HD1, HD2, HB⟩
          clear HU HV HZ HD0 HD1 HD2 HB
          obtain ⟨rfl, HU, HV, HZ, HD0, HD1, HD2, HB⟩ := hcut
          obtain ⟨W23, rfl⟩ : ∃ W, W = wc := ⟨_, rfl⟩
          cases hA : leqV u v with
          | false =>
            have hc := leq_calls n0 c0 n1 c1 A0 A1 u v W23 HU.out HV.out (by omega) (by omega)
            rw [show leqV u v = false from hA] at hc
            have HC := hid hc
            clear hc
            go_wp2_with fail
            refine HC.out.mono ?_
            rintro e W24 ⟨rfl, hb⟩
            clear HC
            replace HU := hid (HU.out.keep hb)
            replace HV := hid (HV.out.keep hb)
            replace HZ := hid (HZ.out.keep hb)
            replace HD0 := hid (HD0.out.keep hb)
            replace HD1 := hid (HD1.out.keep hb)
            replace HD2 := hid (HD2.out.keep hb)
            replace HB := hid (HB.out.trans (hb.mono HB.out.size))
            clear hb
            go_wp2_with fail
            go_ret
            exact ⟨rfl, HB.out⟩
          | true =>
            have hc := leq_calls n0 c0 n1 c1 A0 A1 u v W23 HU.out HV.out (by omega) (by omega)
            rw [show leqV u v = true from hA] at hc
            have HC := hid hc
            clear hc
            go_wp2_with fail
            refine HC.out.mono ?_
            rintro e W24 ⟨rfl, hb⟩
            clear HC
            replace HU := hid (HU.out.keep hb)
            replace HV := hid (HV.out.keep hb)
            replace HZ := hid (HZ.out.keep hb)
            replace HD0 := hid (HD0.out.keep hb)
            replace HD1 := hid (HD1.out.keep hb)
            replace HD2 := hid (HD2.out.keep hb)
            replace HB := hid (HB.out.trans (hb.mono HB.out.size))
            clear hb
            cases hC : leqV v u with
            | true =>
              have hc := leq_calls n1 c1 n0 c0 A1 A0 v u W24 HV.out HU.out (by omega) (by omega)
              rw [show leqV v u = true from hC] at hc
              have HC := hid hc
              clear hc
              go_wp2_with fail
              refine HC.out.mono ?_
              rintro e W25 ⟨rfl, hb⟩
              clear HC
              replace HU := hid (HU.out.keep hb)
              replace HV := hid (HV.out.keep hb)
              replace HZ := hid (HZ.out.keep hb)
              replace HD0 := hid (HD0.out.keep hb)
              replace HD1 := hid (HD1.out.keep hb)
              replace HD2 := hid (HD2.out.keep hb)
              replace HB := hid (HB.out.trans (hb.mono HB.out.size))
              clear hb
              go_wp2_with fail
              go_ret
              exact ⟨rfl, HB.out⟩
            | false =>
              have hx : b1 = true := by rw [← HX1.out]; exact less_of_wgt (wgt_lt HNu.out HNv.out (by rw [HLU.out]; exact hl0) (by rw [HLV.out]; exact hl1) hA hC)
              subst hx
              have hc := leq_calls n1 c1 n0 c0 A1 A0 v u W24 HV.out HU.out (by omega) (by omega)
              rw [show leqV v u = false from hC] at hc
              have HC := hid hc
              clear hc
              go_wp2_with fail
              refine HC.out.mono ?_
              rintro e W25 ⟨rfl, hb⟩
              clear HC
              replace HU := hid (HU.out.keep hb)
              replace HV := hid (HV.out.keep hb)
              replace HZ := hid (HZ.out.keep hb)
              replace HD0 := hid (HD0.out.keep hb)
              replace HD1 := hid (HD1.out.keep hb)
              replace HD2 := hid (HD2.out.keep hb)
              replace HB := hid (HB.out.trans (hb.mono HB.out.size))
              clear hb
              go_wp2_with fail
              go_ret
              exact ⟨rfl, HB.out⟩
end Go.Proofs.Ytfcildpigkobcaa
