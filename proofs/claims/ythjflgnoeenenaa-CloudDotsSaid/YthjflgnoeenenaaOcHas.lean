/- Contracts of clouds: slices.BinarySearchFunc at dots, Has. Written by tools/mkoc5.py. -/
import Derived.Test.YthjflgnoeenenaaOcChk
namespace Go.Proofs.Ythjflgnoeenenaa
open Go Go.RowKit Cl

theorem sr_in {ds : List Dt} {d : Dt} {a : Nat} (hs : ds.Pairwise dLt) (h1 : ∀ k z, ds[k]? = some z → k < a → dLt z d) (h2 : ∀ k z, ds[k]? = some z → a ≤ k → ¬ dLt z d) : d ∈ ds ↔ ds[a]? = some d := by
  constructor
  · intro h
    obtain ⟨k, hk, e⟩ := List.getElem_of_mem h
    have hq : ds[k]? = some d := by rw [List.getElem?_eq_getElem hk, e]
    rcases Nat.lt_trichotomy k a with g | rfl | g
    · exact absurd (h1 k d hq g) (dLt_irrefl d)
    · exact hq
    · have ha : a < ds.length := by omega
      have := (List.pairwise_iff_getElem.1 hs) a k ha hk g
      rw [e] at this
      exact absurd this (h2 a ds[a] (List.getElem?_eq_getElem ha) (Nat.le_refl _))
  · exact fun h => List.mem_of_getElem? h
def vSrA (off : Nat) (n : Nat) (m : Nat) (c : Nat) (q : Bool) (z : Dt) (d : Dt) (g : Nat) (cm : Int) : Nat → Unit → Value
  | 0, _ => .func (.func 49) #[] #[]
  | 1, _ => .slice (some ⟨g, off, none⟩) n c
  | 2, _ => .int .i64 (m : Int)
  | 3, _ => .pointer (some ⟨g, off + m * 2, none⟩)
  | 4, _ => dvv z
  | 5, _ => dvv d
  | 6, _ => .int .i64 cm
  | 7, _ => .bool q
  | _, _ => undef
def vSrB (off : Nat) (n : Nat) (c : Nat) (q : Bool) (z : Dt) (d : Dt) (g : Nat) (cm : Int) (la : Nat) : Nat → Unit → Value
  | 0, _ => .int .i64 (la : Int)
  | 1, _ => .int .i64 (la : Int)
  | 2, _ => .int .i64 (n : Int)
  | 3, _ => .bool true
  | 4, _ => .bool true
  | 5, _ => .func (.func 49) #[] #[]
  | 6, _ => .slice (some ⟨g, off, none⟩) n c
  | 7, _ => .int .i64 (la : Int)
  | 8, _ => .pointer (some ⟨g, off + la * 2, none⟩)
  | 9, _ => dvv z
  | 10, _ => dvv d
  | 11, _ => .int .i64 cm
  | 12, _ => .bool q
  | 13, _ => .bool q
  | 14, _ => .int .i64 (la : Int)
  | 15, _ => .bool q
  | _, _ => undef
def vSrC (n : Nat) (la : Nat) : Nat → Unit → Value
  | 0, _ => .int .i64 (la : Int)
  | 1, _ => .int .i64 (la : Int)
  | 2, _ => .int .i64 (n : Int)
  | 3, _ => .bool false
  | 4, _ => .bool false
  | 5, _ => undef
  | 6, _ => undef
  | 7, _ => undef
  | 8, _ => undef
  | 9, _ => undef
  | 10, _ => undef
  | 11, _ => undef
  | 12, _ => undef
  | 13, _ => .bool false
  | 14, _ => .int .i64 (la : Int)
  | 15, _ => .bool false
  | _, _ => undef
set_option maxRecDepth 20000 in
set_option maxHeartbeats 2000000 in
theorem ocSearch_calls (n c : Nat) (A : Option Addr) (ds : List Dt) (d : Dt) (w : World) (h : ND w A n ds) (hn : n ≤ 1000000) (hs : ds.Pairwise dLt) :
    Calls Try.prog 48 #[.slice A n c, dvv d, .func (.func 49) #[] #[]] w fun e w' => (∃ i, e = .returned (.tuple #[.int .i64 i, .bool (decide (d ∈ ds))])) ∧ Below w.heap.size w w' := by
  obtain ⟨p, hp⟩ : ∃ p, w.heap.size = p := ⟨_, rfl⟩
  have hb := below_new w (.cells #[.int .i64 d.1, .int .i64 d.2] 27)
  have hk := Blk.new w 27 #[.int .i64 d.1, .int .i64 d.2]
  obtain ⟨w1, hw1⟩ : ∃ w1, w.alloc (.cells #[.int .i64 d.1, .int .i64 d.2] 27) = w1 := ⟨_, rfl⟩
  rw [hw1] at hb hk
  rw [hp] at hk
  have HW1 := hid hw1; have HP := hid hp; have HB := hid hb; have HK := hid hk; have HI := hid (h.keep hb); have HL := hid h.1; have HS := hid hs
  have hE := enters_of Try.func49 (by kernel_rfl) rfl
  have HE0 := hid hE
  obtain ⟨Z, hZ⟩ : ∃ Z, decide (d ∈ ds) = Z := ⟨_, rfl⟩
  have HZ := hid hZ
  rw [hZ]
  clear h hs hb hk hw1 hp hZ hE
  show Calls Try.prog 48 #[.slice A n c, .agg #[.int .i64 d.1, .int .i64 d.2], .func (.func 49) #[] #[]] w _
  go_enter Try.func48, Try.ntmps48
  go_wp2_with fail
  rw [HW1.out, HP.out]
  go_loopw [9, 10, 11] (fun i j _ wr => ∃ la lb : Nat, i = .int .i64 (la : Int) ∧ j = .int .i64 (lb : Int) ∧ la ≤ lb ∧ lb ≤ n ∧ Hid (∀ k z, ds[k]? = some z → k < la → dLt z d) ∧ Hid (∀ k z, ds[k]? = some z → lb ≤ k → ¬ dLt z d) ∧ Hid (Below w1.heap.size w1 wr)) (fun i j _ _ => (intOf j).toNat - (intOf i).toNat)
  case atStart => exact ⟨0, n, rfl, rfl, Nat.zero_le _, Nat.le_refl _, hid (fun k z _ h => absurd h (Nat.not_lt_zero _)), hid (fun k z hk h => absurd (List.getElem?_eq_some_iff.1 hk).1 (by have := HL.out; omega)), hid (Below.refl _ _)⟩
  case round =>
    obtain ⟨la, lb, rfl, rfl, hab, hb, HA, HBB, HW⟩ := hrel
    by_cases hlt : la < lb
    · have hlt' : (la : Int) < (lb : Int) := by omega
      have hsum : IntKind.i64.wrap ((la : Int) + (lb : Int)) = ((la + lb : Nat) : Int) := by rw [IntWalk.i64_in _ (by omega)]; omega
      obtain ⟨m, hm⟩ : ∃ m, (la + lb) / 2 = m := ⟨_, rfl⟩
      have hm2 : wrap64 (IntKind.u64.wrap ((la : Int) + (lb : Int)) / 2) = (m : Int) := by
        rw [IntWalk.u64_in _ (by omega)]
        unfold wrap64
        omega
      have hm3 : ((la : Int) + (lb : Int)) / 2 = (m : Int) := by omega
      have hml : m < n := by omega
      have hm0 : (0 : Int) ≤ (m : Int) := by omega
      have hm1 : (m : Int) < (n : Int) := by omega
      have hms : IntKind.i64.wrap ((m : Int) + 1) = ((m + 1 : Nat) : Int) := by rw [IntWalk.i64_in _ (by omega)]; omega
      have Hmb := hid (show la ≤ m ∧ m < lb from by omega)
      obtain ⟨g, off, z, rfl, hz, hc1, hc2⟩ := (HI.out.keep HW.out).at_ hml
      have HZ1 := hid hz; have HC1 := hid hc1; have HC2 := hid hc2
      have HCM := hid (fun W => ocCompare_calls z d W)
      obtain ⟨cm, hcm⟩ : ∃ cm, cmpD z d = cm := ⟨_, rfl⟩
      rw [hcm] at HCM
      have HLT := hid (show cm < 0 ↔ dLt z d from by rw [← hcm]; exact cmpD_neg z d)
      obtain ⟨q, hq⟩ : ∃ q, decide (cm < 0) = q := ⟨_, rfl⟩
      have HQ := hid hq
      have KP := hid (HK.out.keep HW.out)
      clear hm hz hc1 hc2 hcm hq
      go_wp2_with fail
      refine wp_region_invG 49 () (vSrA off n m c q z d g cm) (fun _ _ W => Below wr.heap.size wr W) (by kernel_rfl) (by kernel_rfl) (by exact Nat.le_refl 49) ?_ ?_ ?_
      · exact (Below.refl _ _).drew
      · intro i o f gh a W hi hf hdep hsame hcl hval hS
        rcases i with _ | _ | _ | _ | _ | _ | _ | _ | i
        all_goals simp only [List.getElem?_cons_succ, List.getElem?_cons_zero, List.getElem?_nil, Option.some.injEq, reduceCtorEq] at hi
        all_goals subst hi
        · have E2 : a.tmps[2]? = some (.func (.func 49) #[] #[]) := (same_of hsame 2 (by rfl)).trans rfl
          refine g_plain rfl ?_
          exact does_value (w' := W) (v := .func (.func 49) #[] #[]) (by go_simp) ⟨(), .inr rfl, hS⟩
        · have E0 : a.tmps[0]? = some (.slice (some ⟨g, off, none⟩) n c) := (same_of hsame 0 (by rfl)).trans rfl
          refine g_plain rfl ?_
          exact does_value (w' := W) (v := .slice (some ⟨g, off, none⟩) n c) (by go_simp) ⟨(), .inr rfl, hS⟩
        · have E11 : a.tmps[11]? = some (.int .i64 (m : Int)) := (same_of hsame 11 (by rfl)).trans rfl
          refine g_plain rfl ?_
          exact does_value (w' := W) (v := .int .i64 (m : Int)) (by go_simp) ⟨(), .inr rfl, hS⟩
        · have E25 := hval 1 _ 25 rfl rfl (dep_of hdep 1 (by rfl))
          have E26 := hval 2 _ 26 rfl rfl (dep_of hdep 2 (by rfl))
          unfold vSrA at E25 E26
          refine g_plain rfl ?_
          exact does_value (w' := W) (v := .pointer (some ⟨g, off + m * 2, none⟩)) (by go_simp) ⟨(), .inr rfl, hS⟩
        · have E27 := hval 3 _ 27 rfl rfl (dep_of hdep 3 (by rfl))
          unfold vSrA at E27
          refine g_plain rfl ?_
          exact does_load_dotAt _ rfl g (off + m * 2) (by rw [eval_getD, E27]; rfl) (cell_keep HC1.out hS) (cell_keep HC2.out hS) ⟨(), .inr rfl, hS⟩
        · have E4 : a.tmps[4]? = some (.pointer (some ⟨p, 0, none⟩)) := (same_of hsame 4 (by rfl)).trans rfl
          refine g_plain rfl ?_
          exact does_load_dotB _ rfl p (by rw [eval_getD, E4]; rfl) (KP.out.keep hS) ⟨(), .inr rfl, hS⟩
        · have E24 := hval 0 _ 24 rfl rfl (dep_of hdep 0 (by rfl))
          have E28 := hval 4 _ 28 rfl rfl (dep_of hdep 4 (by rfl))
          have E29 := hval 5 _ 29 rfl rfl (dep_of hdep 5 (by rfl))
          unfold vSrA at E24 E28 E29
          have hE := HE0.out
          refine g_plain rfl ?_
          refine does_call 49 #[dvv z, dvv d] (by go_simp) ((HCM.out W).mono ?_)
          rintro _ W' ⟨rfl, hb⟩
          exact ⟨.int .i64 cm, rfl, (), .inr rfl, hS.trans (hb.below.mono hS.size)⟩
        · have E30 := hval 6 _ 30 rfl rfl (dep_of hdep 6 (by rfl))
          unfold vSrA at E30
          refine g_plain rfl ?_
          exact does_value (w' := W) (v := .bool q) (by go_simp; rw [← HQ.out]) ⟨(), .inr rfl, hS⟩
      · intro gh W hS
        have HW2 := hid (HW.out.trans (hS.mono HW.out.size))
        clear hS
        simp only [putAll, vSrA, Nat.reduceAdd, Nat.zero_add, Act.put, List.setIfInBounds_toArray, List.set_cons_zero, List.set_cons_succ]
        cases q with
        | true =>
          have HA2 := hid (show ∀ k y, ds[k]? = some y → k < m + 1 → dLt y d from fun k y hk hkm => by
            have hzd := HLT.out.1 (of_decide_eq_true HQ.out)
            by_cases e : k = m
            · subst e; have := HZ1.out; rw [hk] at this; cases this; exact hzd
            · have hl := (List.getElem?_eq_some_iff.1 hk)
              have hl2 := (List.getElem?_eq_some_iff.1 HZ1.out)
              have := (List.pairwise_iff_getElem.1 HS.out) k m hl.1 hl2.1 (by omega)
              rw [hl.2, hl2.2] at this
              exact dLt_trans this hzd)
          go_wp2_with fail
          go_roundw
          case rel => exact ⟨m + 1, lb, by go_num, rfl, by have := Hmb.out; omega, hb, HA2, HBB, HW2⟩
          case measure => have := Hmb.out; simp [intOf]; omega
        | false =>
          have HB2 := hid (show ∀ k y, ds[k]? = some y → m ≤ k → ¬ dLt y d from fun k y hk hkm hyd => by
            have hzd : ¬ dLt z d := fun e => absurd (HLT.out.2 e) (of_decide_eq_false HQ.out)
            by_cases e : k = m
            · subst e; have := HZ1.out; rw [hk] at this; cases this; exact hzd hyd
            · have hl := (List.getElem?_eq_some_iff.1 hk)
              have hl2 := (List.getElem?_eq_some_iff.1 HZ1.out)
              have := (List.pairwise_iff_getElem.1 HS.out) m k hl2.1 hl.1 (by omega)
              rw [hl.2, hl2.2] at this
              exact hzd (dLt_trans this hyd))
          go_wp2_with fail
          go_roundw
          case rel => exact ⟨la, m, rfl, rfl, Hmb.out.1, by omega, HA, HB2, HW2⟩
          case measure => have := Hmb.out; simp [intOf]; omega
    · obtain rfl : la = lb := by omega
      have HIN := hid (sr_in HS.out HA.out HBB.out)
      have KP := hid (HK.out.keep HW.out)
      by_cases hal : la < n
      · have hal' : (la : Int) < (n : Int) := by omega
        obtain ⟨g, off, z, rfl, hz, hc1, hc2⟩ := (HI.out.keep HW.out).at_ hal
        have HZ1 := hid hz; have HC1 := hid hc1; have HC2 := hid hc2
        have HCM := hid (fun W => ocCompare_calls z d W)
        obtain ⟨cm, hcm⟩ : ∃ cm, cmpD z d = cm := ⟨_, rfl⟩
        rw [hcm] at HCM
        obtain ⟨q, hq⟩ : ∃ q, decide (cm = 0) = q := ⟨_, rfl⟩
        have HE := hid (show q = Z from by
          rw [← hq, ← HZ.out, Bool.eq_iff_iff, decide_eq_true_iff, decide_eq_true_iff, HIN.out, hz, ← hcm, cmpD_zero]
          exact ⟨fun e => by rw [e], fun e => Option.some.inj e⟩)
        have HQ := hid hq
        clear hz hc1 hc2 hcm hq HIN hlt
        go_wp2_with fail
        refine wp_region_invG 49 () (vSrB off n c q z d g cm la) (fun _ _ W => Below wr.heap.size wr W) (by kernel_rfl) (by kernel_rfl) (by exact Nat.le_refl 49) ?_ ?_ ?_
        · exact (Below.refl _ _).drew
        · intro i o f gh a W hi hf hdep hsame hcl hval hS
          rcases i with _ | _ | _ | _ | _ | _ | _ | _ | _ | _ | _ | _ | _ | _ | _ | _ | i
          all_goals simp only [List.getElem?_cons_succ, List.getElem?_cons_zero, List.getElem?_nil, Option.some.injEq, reduceCtorEq] at hi
          all_goals subst hi
          · have E9 : a.tmps[9]? = some (.int .i64 (la : Int)) := (same_of hsame 9 (by rfl)).trans rfl
            refine g_plain rfl ?_
            exact does_value (w' := W) (v := .int .i64 (la : Int)) (by go_simp) ⟨(), .inr rfl, hS⟩
          · have E9 : a.tmps[9]? = some (.int .i64 (la : Int)) := (same_of hsame 9 (by rfl)).trans rfl
            refine g_plain rfl ?_
            exact does_value (w' := W) (v := .int .i64 (la : Int)) (by go_simp) ⟨(), .inr rfl, hS⟩
          · have E8 : a.tmps[8]? = some (.int .i64 (n : Int)) := (same_of hsame 8 (by rfl)).trans rfl
            refine g_plain rfl ?_
            exact does_value (w' := W) (v := .int .i64 (n : Int)) (by go_simp) ⟨(), .inr rfl, hS⟩
          · have E36 := hval 1 _ 36 rfl rfl (dep_of hdep 1 (by rfl))
            have E37 := hval 2 _ 37 rfl rfl (dep_of hdep 2 (by rfl))
            unfold vSrB at E36 E37
            refine g_plain rfl ?_
            exact does_value (w' := W) (v := .bool true) (by go_simp <;> omega) ⟨(), .inr rfl, hS⟩
          · have E38 := hval 3 _ 38 rfl rfl (dep_of hdep 3 (by rfl))
            unfold vSrB at E38
            refine g_plain rfl ?_
            exact does_value (w' := W) (v := .bool true) (by go_simp) ⟨(), .inr rfl, hS⟩
          · have EG := hval 4 _ 39 rfl rfl (dep_of hdep 4 (by rfl))
            have E2 : a.tmps[2]? = some (.func (.func 49) #[] #[]) := (same_of hsame 2 (by rfl)).trans rfl
            unfold vSrB at EG
            refine g_want rfl rfl rfl EG ?_
            exact does_value (w' := W) (v := .func (.func 49) #[] #[]) (by go_simp) ⟨(), .inr rfl, hS⟩
          · have EG := hval 4 _ 39 rfl rfl (dep_of hdep 4 (by rfl))
            have E0 : a.tmps[0]? = some (.slice (some ⟨g, off, none⟩) n c) := (same_of hsame 0 (by rfl)).trans rfl
            unfold vSrB at EG
            refine g_want rfl rfl rfl EG ?_
            exact does_value (w' := W) (v := .slice (some ⟨g, off, none⟩) n c) (by go_simp) ⟨(), .inr rfl, hS⟩
          · have EG := hval 4 _ 39 rfl rfl (dep_of hdep 4 (by rfl))
            have E9 : a.tmps[9]? = some (.int .i64 (la : Int)) := (same_of hsame 9 (by rfl)).trans rfl
            unfold vSrB at EG
            refine g_want rfl rfl rfl EG ?_
            exact does_value (w' := W) (v := .int .i64 (la : Int)) (by go_simp) ⟨(), .inr rfl, hS⟩
          · have EG := hval 4 _ 39 rfl rfl (dep_of hdep 4 (by rfl))
            have E41 := hval 6 _ 41 rfl rfl (dep_of hdep 6 (by rfl))
            have E42 := hval 7 _ 42 rfl rfl (dep_of hdep 7 (by rfl))
            unfold vSrB at EG E41 E42
            refine g_want rfl rfl rfl EG ?_
            exact does_value (w' := W) (v := .pointer (some ⟨g, off + la * 2, none⟩)) (by go_simp) ⟨(), .inr rfl, hS⟩
          · have EG := hval 4 _ 39 rfl rfl (dep_of hdep 4 (by rfl))
            have E43 := hval 8 _ 43 rfl rfl (dep_of hdep 8 (by rfl))
            unfold vSrB at EG E43
            refine g_want rfl rfl rfl EG ?_
            exact does_load_dotAt _ rfl g (off + la * 2) (by rw [eval_getD, E43]; rfl) (cell_keep HC1.out hS) (cell_keep HC2.out hS) ⟨(), .inr rfl, hS⟩
          · have EG := hval 4 _ 39 rfl rfl (dep_of hdep 4 (by rfl))
            have E4 : a.tmps[4]? = some (.pointer (some ⟨p, 0, none⟩)) := (same_of hsame 4 (by rfl)).trans rfl
            unfold vSrB at EG
            refine g_want rfl rfl rfl EG ?_
            exact does_load_dotB _ rfl p (by rw [eval_getD, E4]; rfl) (KP.out.keep hS) ⟨(), .inr rfl, hS⟩
          · have EG := hval 4 _ 39 rfl rfl (dep_of hdep 4 (by rfl))
            have E40 := hval 5 _ 40 rfl rfl (dep_of hdep 5 (by rfl))
            have E44 := hval 9 _ 44 rfl rfl (dep_of hdep 9 (by rfl))
            have E45 := hval 10 _ 45 rfl rfl (dep_of hdep 10 (by rfl))
            unfold vSrB at EG E40 E44 E45
            have hE := HE0.out
            refine g_want rfl rfl rfl EG ?_
            refine does_call 49 #[dvv z, dvv d] (by go_simp) ((HCM.out W).mono ?_)
            rintro _ W' ⟨rfl, hb⟩
            exact ⟨.int .i64 cm, rfl, (), .inr rfl, hS.trans (hb.below.mono hS.size)⟩
          · have EG := hval 4 _ 39 rfl rfl (dep_of hdep 4 (by rfl))
            have E46 := hval 11 _ 46 rfl rfl (dep_of hdep 11 (by rfl))
            unfold vSrB at EG E46
            refine g_want rfl rfl rfl EG ?_
            exact does_value (w' := W) (v := .bool q) (by go_simp; rw [← HQ.out, Bool.eq_iff_iff, beq_iff_eq, decide_eq_true_iff]) ⟨(), .inr rfl, hS⟩
          · have E39 := hval 4 _ 39 rfl rfl (dep_of hdep 4 (by rfl))
            have E47 := hval 12 _ 47 rfl rfl (dep_of hdep 12 (by rfl))
            unfold vSrB at E39 E47
            refine g_plain rfl ?_
            exact does_value (w' := W) (v := .bool q) (by go_simp) ⟨(), .inr rfl, hS⟩
          · have E35 := hval 0 _ 35 rfl rfl (dep_of hdep 0 (by rfl))
            unfold vSrB at E35
            refine g_plain rfl ?_
            exact does_value (w' := W) (v := .int .i64 (la : Int)) (by go_simp) ⟨(), .inr rfl, hS⟩
          · have E48 := hval 13 _ 48 rfl rfl (dep_of hdep 13 (by rfl))
            unfold vSrB at E48
            refine g_plain rfl ?_
            exact does_value (w' := W) (v := .bool q) (by go_simp) ⟨(), .inr rfl, hS⟩
        · intro gh W hS
          have HF := hid (HB.out.trans ((HW.out.trans (hS.mono HW.out.size)).mono HB.out.size))
          clear hS
          simp only [putAll, vSrB, Nat.reduceAdd, Nat.zero_add, Act.put, List.setIfInBounds_toArray, List.set_cons_zero, List.set_cons_succ]
          go_wp2_with fail
          go_ret2
          exact ⟨⟨(la : Int), by have e := HE.out; subst e; rfl⟩, HF.out⟩
      · have hal' : ¬ (la : Int) < (n : Int) := by omega
        have HE := hid (show false = Z from by
          rw [← HZ.out]; symm; rw [decide_eq_false_iff_not, HIN.out, List.getElem?_eq_none (by rw [HL.out]; omega)]
          intro e; cases e)
        clear HIN hlt hal
        go_wp2_with fail
        refine wp_region_invG 49 () (vSrC n la) (fun _ _ W => Below wr.heap.size wr W) (by kernel_rfl) (by kernel_rfl) (by exact Nat.le_refl 49) ?_ ?_ ?_
        · exact (Below.refl _ _).drew
        · intro i o f gh a W hi hf hdep hsame hcl hval hS
          rcases i with _ | _ | _ | _ | _ | _ | _ | _ | _ | _ | _ | _ | _ | _ | _ | _ | i
          all_goals simp only [List.getElem?_cons_succ, List.getElem?_cons_zero, List.getElem?_nil, Option.some.injEq, reduceCtorEq] at hi
          all_goals subst hi
          · have E9 : a.tmps[9]? = some (.int .i64 (la : Int)) := (same_of hsame 9 (by rfl)).trans rfl
            refine g_plain rfl ?_
            exact does_value (w' := W) (v := .int .i64 (la : Int)) (by go_simp) ⟨(), .inr rfl, hS⟩
          · have E9 : a.tmps[9]? = some (.int .i64 (la : Int)) := (same_of hsame 9 (by rfl)).trans rfl
            refine g_plain rfl ?_
            exact does_value (w' := W) (v := .int .i64 (la : Int)) (by go_simp) ⟨(), .inr rfl, hS⟩
          · have E8 : a.tmps[8]? = some (.int .i64 (n : Int)) := (same_of hsame 8 (by rfl)).trans rfl
            refine g_plain rfl ?_
            exact does_value (w' := W) (v := .int .i64 (n : Int)) (by go_simp) ⟨(), .inr rfl, hS⟩
          · have E36 := hval 1 _ 36 rfl rfl (dep_of hdep 1 (by rfl))
            have E37 := hval 2 _ 37 rfl rfl (dep_of hdep 2 (by rfl))
            unfold vSrC at E36 E37
            refine g_plain rfl ?_
            exact does_value (w' := W) (v := .bool false) (by go_simp <;> omega) ⟨(), .inr rfl, hS⟩
          · have E38 := hval 3 _ 38 rfl rfl (dep_of hdep 3 (by rfl))
            unfold vSrC at E38
            refine g_plain rfl ?_
            exact does_value (w' := W) (v := .bool false) (by go_simp) ⟨(), .inr rfl, hS⟩
          · have EG := hval 4 _ 39 rfl rfl (dep_of hdep 4 (by rfl))
            unfold vSrC at EG
            exact g_skip rfl rfl rfl EG rfl ⟨(), .inr rfl, hS⟩
          · have EG := hval 4 _ 39 rfl rfl (dep_of hdep 4 (by rfl))
            unfold vSrC at EG
            exact g_skip rfl rfl rfl EG rfl ⟨(), .inr rfl, hS⟩
          · have EG := hval 4 _ 39 rfl rfl (dep_of hdep 4 (by rfl))
            unfold vSrC at EG
            exact g_skip rfl rfl rfl EG rfl ⟨(), .inr rfl, hS⟩
          · have EG := hval 4 _ 39 rfl rfl (dep_of hdep 4 (by rfl))
            unfold vSrC at EG
            exact g_skip rfl rfl rfl EG rfl ⟨(), .inr rfl, hS⟩
          · have EG := hval 4 _ 39 rfl rfl (dep_of hdep 4 (by rfl))
            unfold vSrC at EG
            exact g_skip rfl rfl rfl EG rfl ⟨(), .inr rfl, hS⟩
          · have EG := hval 4 _ 39 rfl rfl (dep_of hdep 4 (by rfl))
            unfold vSrC at EG
            exact g_skip rfl rfl rfl EG rfl ⟨(), .inr rfl, hS⟩
          · have EG := hval 4 _ 39 rfl rfl (dep_of hdep 4 (by rfl))
            unfold vSrC at EG
            exact g_skip rfl rfl rfl EG rfl ⟨(), .inr rfl, hS⟩
          · have EG := hval 4 _ 39 rfl rfl (dep_of hdep 4 (by rfl))
            unfold vSrC at EG
            exact g_skip rfl rfl rfl EG rfl ⟨(), .inr rfl, hS⟩
          · have E39 := hval 4 _ 39 rfl rfl (dep_of hdep 4 (by rfl))
            have E47 := hval 12 _ 47 rfl rfl (dep_of hdep 12 (by rfl))
            unfold vSrC at E39 E47
            refine g_plain rfl ?_
            exact does_value (w' := W) (v := .bool false) (by go_simp) ⟨(), .inr rfl, hS⟩
          · have E35 := hval 0 _ 35 rfl rfl (dep_of hdep 0 (by rfl))
            unfold vSrC at E35
            refine g_plain rfl ?_
            exact does_value (w' := W) (v := .int .i64 (la : Int)) (by go_simp) ⟨(), .inr rfl, hS⟩
          · have E48 := hval 13 _ 48 rfl rfl (dep_of hdep 13 (by rfl))
            unfold vSrC at E48
            refine g_plain rfl ?_
            exact does_value (w' := W) (v := .bool false) (by go_simp) ⟨(), .inr rfl, hS⟩
        · intro gh W hS
          have HF := hid (HB.out.trans ((HW.out.trans (hS.mono HW.out.size)).mono HB.out.size))
          clear hS
          simp only [putAll, vSrC, Nat.reduceAdd, Nat.zero_add, Act.put, List.setIfInBounds_toArray, List.set_cons_zero, List.set_cons_succ]
          go_wp2_with fail
          go_ret2
          exact ⟨⟨(la : Int), by have e := HE.out; subst e; rfl⟩, HF.out⟩
set_option maxRecDepth 20000 in
set_option maxHeartbeats 1000000 in
theorem ocHas_calls (n c m e : Nat) (A B : Option Addr) (v : List Int) (ds : List Dt) (d : Dt) (w : World) (h1 : NI w A n v) (h2 : ND w B m ds) (hn : n ≤ 1000000) (hm : m ≤ 900000) (hnc : n ≤ c) :
    Calls Try.prog 20 #[cdv A n c B m e, dvv d] w fun x w' => x = .returned (.bool (hasB (v, ds) d)) ∧ Below w.heap.size w w' := by
  obtain ⟨R, N⟩ := d
  obtain ⟨w1, hw1, k1, k2, hb⟩ := two_mixed w #[.slice A n c, .slice B m e] #[.int .i64 R, .int .i64 N]
  obtain ⟨p, hp⟩ : ∃ p, w.heap.size = p := ⟨_, rfl⟩
  obtain ⟨p2, hp2⟩ : ∃ p2, w.heap.size + 1 = p2 := ⟨_, rfl⟩
  rw [hp] at k1
  rw [hp2] at k2
  have HW1 := hid hw1; have HB := hid hb; have HPP := hid hp; have HPP2 := hid hp2
  have HC := hid (ocCheck_calls n c m e A B v ds w1 (h1.keep hb) (h2.keep hb) hn hm hnc)
  have H1 := hid (h1.keep hb); have H2 := hid (h2.keep hb)
  have K1 := hid k1; have K2 := hid k2
  obtain ⟨Z, hZ⟩ : ∃ Z, hasB (v, ds) (R, N) = Z := ⟨_, rfl⟩
  have HZ := hid hZ
  rw [hZ]
  obtain ⟨ck, hck⟩ : ∃ ck, checkC (v, ds) = ck := ⟨_, rfl⟩
  rw [hck] at HC
  have HCK := hid hck
  have c0 := k1.cell 0 rfl; have c1 := k1.cell 1 rfl; have c3 := k2.cell 0 rfl; have c4 := k2.cell 1 rfl
  clear h1 h2 hw1 hb hp hp2 k1 k2 hZ hck
  unfold cdv at HC
  show Calls Try.prog 20 #[.agg #[.slice A n c, .slice B m e], .agg #[.int .i64 R, .int .i64 N]] w _
  go_enter Try.func20, Try.ntmps20
  go_wp2_with fail
  rw [← HW1.out, HPP2.out, HPP.out]
  go_wp2_with fail
  refine HC.out.mono ?_
  rintro x W2 ⟨rfl, hb2⟩
  have HB2 := hid hb2
  have K3 := hid (K1.out.keep hb2); have K4 := hid (K2.out.keep hb2)
  have H12 := hid (H1.out.keep hb2); have H22 := hid (H2.out.keep hb2)
  clear hb2 c0 c1 c3 c4 HC
  have c0 := K3.out.cell 0 rfl; have c1 := K3.out.cell 1 rfl; have c3 := K4.out.cell 0 rfl; have c4 := K4.out.cell 1 rfl
  by_cases h0 : ck = 0
  · have hok := check_ok (HCK.out.trans h0)
    have hhas : hasB (v, ds) (R, N) = (decide ((R, N) ∈ ds) || hasV v R N) := by
      rw [has_ok (HCK.out.trans h0), Bool.eq_iff_iff, decide_eq_true_iff]
      unfold isC isIn hasV
      rw [atV_frs hok.rg.2.1]
      simp only [Bool.or_eq_true, decide_eq_true_eq, Bool.and_eq_true]
      constructor
      · rintro ⟨g1, g2 | g2⟩
        · exact .inr ⟨g1, g2⟩
        · exact .inl g2
      · rintro (g | ⟨g1, g2⟩)
        · exact ⟨(hok.rg.2.2 _ g).2.2.1, .inr g⟩
        · exact ⟨g1, .inl g2⟩
    have HSE := hid (ocSearch_calls m e B ds (R, N) W2 H22.out (by omega) hok.can.sorted)
    obtain ⟨q1, hq1⟩ : ∃ q1, decide ((R, N) ∈ ds) = q1 := ⟨_, rfl⟩
    obtain ⟨q2, hq2⟩ : ∃ q2, hasV v R N = q2 := ⟨_, rfl⟩
    rw [hq1] at HSE
    have HE := hid (show (q1 || q2) = Z from by rw [← hq1, ← hq2, ← HZ.out, hhas])
    have HV := hid (fun W (hb : Below W2.heap.size W2 W) => show Calls Try.prog 50 #[.slice A n c, .agg #[.int .i64 R, .int .i64 N]] W fun e w' => e = .returned (.bool q2) ∧ Below W.heap.size W w' from by
      rw [← hq2]; exact vHas_calls n c A v R N W (H12.out.keep hb) (by omega))
    subst h0
    unfold dvv at HSE
    clear hok hhas hq1 hq2
    go_wp2_with fail
    refine HSE.out.mono ?_
    rintro x W3 ⟨⟨i, rfl⟩, hb3⟩
    have HB3 := hid hb3
    have K5 := hid (K3.out.keep hb3); have K6 := hid (K4.out.keep hb3)
    have HV3 := hid (HV.out W3 hb3)
    clear hb3 c0 c1 c3 c4 HSE HV
    have c0 := K5.out.cell 0 rfl; have c1 := K5.out.cell 1 rfl; have c3 := K6.out.cell 0 rfl; have c4 := K6.out.cell 1 rfl
    cases q1 with
    | true =>
      have HF := hid (HB.out.trans ((HB2.out.trans (HB3.out.mono HB2.out.size)).mono HB.out.size))
      go_wp2_with fail
      go_ret
      exact ⟨ret_bool (by rw [← HE.out]; rfl), HF.out⟩
    | false =>
      go_wp2_with fail
      refine HV3.out.mono ?_
      rintro x W4 ⟨rfl, hb4⟩
      have HF := hid (HB.out.trans ((HB2.out.trans ((HB3.out.trans (hb4.mono HB3.out.size)).mono HB2.out.size)).mono HB.out.size))
      clear hb4
      go_wp2_with fail
      go_ret
      exact ⟨ret_bool (by rw [← HE.out]; rfl), HF.out⟩
  · have HE := hid (show false = Z from by rw [← HZ.out]; exact (has_no (by rw [HCK.out]; exact h0)).symm)
    have HF := hid (HB.out.trans (HB2.out.mono HB.out.size))
    have hcb : (ck == 0) = false := by simpa using h0
    go_wp2_with fail
    go_ret
    exact ⟨ret_bool HE.out, HF.out⟩
end Go.Proofs.Ythjflgnoeenenaa
