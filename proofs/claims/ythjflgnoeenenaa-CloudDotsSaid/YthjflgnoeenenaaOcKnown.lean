/- The law's awake, and CloudKnown. Written by tools/mkok.py. -/
import Derived.Test.YthjflgnoeenenaaOcRun
namespace Go.Proofs.Ythjflgnoeenenaa
open Go Go.RowKit Go.Shelf Cl

def awakeT2 : List Kd := [(.ni [2]), (.v (.agg #[.int .i64 1, .int .i64 4])), (.v (.agg #[.int .i64 2, .int .i64 2])), (.nd [(1, 4), (2, 2)]), (.cl [2] [(1, 4), (2, 2)]), (.ni [1, 0]), (.v (.agg #[.int .i64 1, .int .i64 2])), (.v (.agg #[.int .i64 1, .int .i64 4])), (.v (.agg #[.int .i64 2, .int .i64 2])), (.v (.agg #[.int .i64 1, .int .i64 4])), (.nd [(1, 2), (1, 4), (2, 2), (1, 4)]), (.v (.bool true)), (.v (.bool true)), (.v (.int .i64 0)), (.v (.bool true)), (.v (.bool true)), (.v (.bool true)), (.cl [4, 1] []), (.ni [4, 1]), (.cl [4, 1] []), (.v (.bool true)), (.v (.bool true)), (.v (.bool true)), (.ni [2]), (.v (.agg #[.int .i64 1, .int .i64 4])), (.nd [(1, 4)]), (.cl [2] [(1, 4)]), (.v (.agg #[.int .i64 1, .int .i64 2])), (.v (.bool true)), (.v (.bool true)), (.v (.bool true))]
def knownT2 : List Kd := [(.ni [0, 0, 1]), (.cl [0, 0, 1] []), (.v (.agg #[.int .i64 3, .int .i64 1])), (.nd [(3, 1)]), (.v (.bool true)), (.v (.bool true)), (.cl [] []), (.ni [0, 0]), (.v (.bool true)), (.v (.bool true)), (.v (.bool true)), (.cl [2] [(1, 4)]), (.v (.agg #[.int .i64 1, .int .i64 3])), (.v (.bool false)), (.v (.bool true)), (.v (.bool true)), (.v (.bool true)), (.ni [1]), (.v (.agg #[.int .i64 1, .int .i64 3])), (.nd [(1, 3)]), (.cl [1] [(1, 3)]), (.ni [3]), (.cl [3] []), (.v (.bool true)), (.v (.bool true)), (.v (.bool true)), (.ni [3]), (.cl [3] []), (.ni [1]), (.v (.agg #[.int .i64 1, .int .i64 3])), (.nd [(1, 3)]), (.cl [1] [(1, 3)]), (.v (.bool true)), (.v (.bool true)), (.v (.bool true))]
def knownT6 : List Kd := [(.v (.agg #[.int .i64 1, .int .i64 5])), (.v (.agg #[.int .i64 1, .int .i64 5])), (.v (.bool true)), (.v (.bool true)), (.v (.int .i64 0)), (.v (.bool true)), (.v (.bool true)), (.v (.bool true)), (.v (.agg #[.int .i64 2, .int .i64 1])), (.v (.agg #[.int .i64 2, .int .i64 1])), (.v (.bool true)), (.v (.bool true)), (.v (.bool true)), (.v (.int .i64 0)), (.v (.bool true)), (.v (.bool true)), (.v (.bool true)), (.v (.int .i64 3)), (.v (.bool true)), (.v (.bool true)), (.v (.bool true)), (.cl [2] [(1, 4)]), (.v (.int .i64 3)), (.v (.bool true)), (.v (.bool true)), (.v (.bool true))]
set_option maxRecDepth 100000 in
set_option maxHeartbeats 8000000 in
theorem awake_calls (W0 : World) : Calls Try.prog 9 #[] W0 fun e w' => e = .returned (.bool true) ∧ Below W0.heap.size W0 w' := by
  have hzc := (zero_of_info info_cloud).1
  have hzd := (zero_of_info info_dot0).1
  have HB := hid (Below.refl W0.heap.size W0)
  go_enter Try.func9, Try.ntmps9
  go_wp2_with fail
  obtain ⟨W1, hW⟩ : ∃ W', W' = W0.alloc (.cells #[.int .i64 2] 3) := ⟨_, rfl⟩
  have hb : Below W0.heap.size W0 W1 := by rw [hW]; exact below_new _ _
  have hf : NI W1 (some ⟨W0.heap.size, 0, none⟩) 1 [2] := by rw [hW]; exact lit_ni [2] _ rfl
  rw [← hW]
  clear hW
  replace HB := hid (HB.out.trans (hb.mono HB.out.size))
  clear hb
  have F4 := hid hf
  clear hf
  have hc : Calls Try.prog 32 #[.int .i64 1, .int .i64 4] W1 (fun e w' => e = .returned (.agg #[.int .i64 1, .int .i64 4]) ∧ Below W1.heap.size W1 w') := by
    have h := lat_calls 1 4 W1
    exact h
  have HC := hid hc
  clear hc
  try go_wp2_with fail
  refine HC.out.mono ?_
  rintro e W2 ⟨rfl, hb⟩
  clear HC
  replace F4 := hid (F4.out.keep hb)
  replace HB := hid (HB.out.trans (hb.mono HB.out.size))
  clear hb
  go_wp2_with fail
  obtain ⟨W3, hW⟩ : ∃ W', W' = W2.alloc (.cells #[.int .i64 1, .int .i64 4] 27) := ⟨_, rfl⟩
  have hb : Below W2.heap.size W2 W3 := by rw [hW]; exact below_new _ _
  have hf : ND W3 (some ⟨W2.heap.size, 0, none⟩) 1 [(1, 4)] := by rw [hW]; exact lit_nd [(1, 4)] _ rfl (by decide)
  rw [← hW]
  clear hW
  replace F4 := hid (F4.out.keep hb)
  replace HB := hid (HB.out.trans (hb.mono HB.out.size))
  clear hb
  have F6 := hid hf
  clear hf
  have hc : Calls Try.prog 31 #[.slice (some ⟨W0.heap.size, 0, none⟩) 1 1, .slice (some ⟨W2.heap.size, 0, none⟩) 1 1] W3 (fun e w' => e = .returned (.agg #[.slice (some ⟨W0.heap.size, 0, none⟩) 1 1, .slice (some ⟨W2.heap.size, 0, none⟩) 1 1]) ∧ Below W3.heap.size W3 w') := by
    have h := lof_calls (some ⟨W0.heap.size, 0, none⟩) (some ⟨W2.heap.size, 0, none⟩) 1 1 1 1 W3
    exact h
  have HC := hid hc
  clear hc
  try go_wp2_with fail
  refine HC.out.mono ?_
  rintro e W4 ⟨rfl, hb⟩
  clear HC
  replace F4 := hid (F4.out.keep hb)
  replace F6 := hid (F6.out.keep hb)
  replace HB := hid (HB.out.trans (hb.mono HB.out.size))
  clear hb
  go_wp2_with fail
  obtain ⟨W5, hW⟩ : ∃ W', W' = W4.alloc (.cells #[.int .i64 0, .int .i64 1] 3) := ⟨_, rfl⟩
  have hb : Below W4.heap.size W4 W5 := by rw [hW]; exact below_new _ _
  have hf : NI W5 (some ⟨W4.heap.size, 0, none⟩) 2 [0, 1] := by rw [hW]; exact lit_ni [0, 1] _ rfl
  rw [← hW]
  clear hW
  replace F4 := hid (F4.out.keep hb)
  replace F6 := hid (F6.out.keep hb)
  replace HB := hid (HB.out.trans (hb.mono HB.out.size))
  clear hb
  have F8 := hid hf
  clear hf
  have hc : Calls Try.prog 32 #[.int .i64 1, .int .i64 3] W5 (fun e w' => e = .returned (.agg #[.int .i64 1, .int .i64 3]) ∧ Below W5.heap.size W5 w') := by
    have h := lat_calls 1 3 W5
    exact h
  have HC := hid hc
  clear hc
  try go_wp2_with fail
  refine HC.out.mono ?_
  rintro e W6 ⟨rfl, hb⟩
  clear HC
  replace F4 := hid (F4.out.keep hb)
  replace F6 := hid (F6.out.keep hb)
  replace F8 := hid (F8.out.keep hb)
  replace HB := hid (HB.out.trans (hb.mono HB.out.size))
  clear hb
  go_wp2_with fail
  obtain ⟨W7, hW⟩ : ∃ W', W' = W6.alloc (.cells #[.int .i64 1, .int .i64 3] 27) := ⟨_, rfl⟩
  have hb : Below W6.heap.size W6 W7 := by rw [hW]; exact below_new _ _
  have hf : ND W7 (some ⟨W6.heap.size, 0, none⟩) 1 [(1, 3)] := by rw [hW]; exact lit_nd [(1, 3)] _ rfl (by decide)
  rw [← hW]
  clear hW
  replace F4 := hid (F4.out.keep hb)
  replace F6 := hid (F6.out.keep hb)
  replace F8 := hid (F8.out.keep hb)
  replace HB := hid (HB.out.trans (hb.mono HB.out.size))
  clear hb
  have F10 := hid hf
  clear hf
  have hc : Calls Try.prog 31 #[.slice (some ⟨W4.heap.size, 0, none⟩) 2 2, .slice (some ⟨W6.heap.size, 0, none⟩) 1 1] W7 (fun e w' => e = .returned (.agg #[.slice (some ⟨W4.heap.size, 0, none⟩) 2 2, .slice (some ⟨W6.heap.size, 0, none⟩) 1 1]) ∧ Below W7.heap.size W7 w') := by
    have h := lof_calls (some ⟨W4.heap.size, 0, none⟩) (some ⟨W6.heap.size, 0, none⟩) 2 2 1 1 W7
    exact h
  have HC := hid hc
  clear hc
  try go_wp2_with fail
  refine HC.out.mono ?_
  rintro e W8 ⟨rfl, hb⟩
  clear HC
  replace F4 := hid (F4.out.keep hb)
  replace F6 := hid (F6.out.keep hb)
  replace F8 := hid (F8.out.keep hb)
  replace F10 := hid (F10.out.keep hb)
  replace HB := hid (HB.out.trans (hb.mono HB.out.size))
  clear hb
  have hc : Calls Try.prog 27 #[.agg #[.slice (some ⟨W0.heap.size, 0, none⟩) 1 1, .slice (some ⟨W2.heap.size, 0, none⟩) 1 1], .agg #[.slice (some ⟨W4.heap.size, 0, none⟩) 2 2, .slice (some ⟨W6.heap.size, 0, none⟩) 1 1]] W8 (fun e w' => ∃ V D, e = .returned (.tuple #[.agg #[V, D], .int .i64 0]) ∧ ClO W8.heap.size w' V D ([4, 1], []) ∧ Below W8.heap.size W8 w') := by
    have h := ocJoin_calls 1 1 1 1 2 2 1 1 (some ⟨W0.heap.size, 0, none⟩) (some ⟨W2.heap.size, 0, none⟩) (some ⟨W4.heap.size, 0, none⟩) (some ⟨W6.heap.size, 0, none⟩) [2] [0, 1] [(1, 4)] [(1, 3)] W8 F4.out F6.out F8.out F10.out (by decide) (by decide) (by decide) (Nat.le_refl _) (Nat.le_refl _) (Nat.le_refl _) (Nat.le_refl _)
    rw [show joinB ([2], [(1, 4)]) ([0, 1], [(1, 3)]) = (([4, 1], []), 0) from by decide +kernel] at h
    exact h
  have HC := hid hc
  clear hc
  go_wp2_with fail
  refine HC.out.mono ?_
  rintro e W9 ⟨V12, D12, rfl, ⟨ho1, ho2, _⟩, hb⟩
  clear HC
  replace F4 := hid (F4.out.keep hb)
  replace F6 := hid (F6.out.keep hb)
  replace F8 := hid (F8.out.keep hb)
  replace F10 := hid (F10.out.keep hb)
  replace HB := hid (HB.out.trans (hb.mono HB.out.size))
  clear hb
  obtain ⟨A12, c12, rfl, l12, hf, _⟩ := ho1.ni
  obtain ⟨B12, e12, rfl, k12, hg, _⟩ := ho2.nd
  have F12 : Hid (NI W9 A12 2 [4, 1]) := hf
  have G12 : Hid (ND W9 B12 0 []) := hg
  clear ho1 ho2 hf hg
  simp only [List.length_cons, List.length_nil, Nat.zero_add, Nat.reduceAdd] at l12 k12 ⊢
  have hk3 := Blk.new W9 25 #[.slice none 0 0, .slice none 0 0]
  have HK3 := hid hk3
  have HK4 := hid (hk3.setRow #[.slice A12 2 c12, .slice B12 0 e12])
  have HB4 := hid (show Below W9.heap.size W9 ((W9.alloc (.cells #[.slice none 0 0, .slice none 0 0] 25)).setRow W9.heap.size #[.slice A12 2 c12, .slice B12 0 e12]) from (below_new _ _).trans (below_of_grown (grown_setRow _ _ _) (by rw [size_new]; omega) (fun g e => by cases e; exact Nat.le_refl _)))
  clear hk3
  go_wp2_with (refine wpList_store_blk rfl _ _ _ rfl W9.heap.size #[.slice A12 2 c12, .slice B12 0 e12] rfl rfl _ _ HK3.out (by kernel_rfl) rfl (by rfl) ?_; refine Held.go ?_)
  unfold Held
  obtain ⟨W10, hW4⟩ : ∃ WX, WX = (W9.alloc (.cells #[.slice none 0 0, .slice none 0 0] 25)).setRow W9.heap.size #[.slice A12 2 c12, .slice B12 0 e12] := ⟨_, rfl⟩
  rw [← hW4] at HK4 HB4 ⊢
  clear hW4 HK3
  obtain ⟨g1, hg⟩ : ∃ g, W9.heap.size = g := ⟨_, rfl⟩
  rw [hg] at HK4 ⊢
  clear hg
  have hb := HB4.out
  clear HB4
  replace F4 := hid (F4.out.keep hb)
  replace F6 := hid (F6.out.keep hb)
  replace F8 := hid (F8.out.keep hb)
  replace F10 := hid (F10.out.keep hb)
  replace F12 := hid (F12.out.keep hb)
  replace G12 := hid (G12.out.keep hb)
  replace HB := hid (HB.out.trans (hb.mono HB.out.size))
  clear hb
  have K1 := HK4
  clear HK4
  have q0K1 := K1.out.cell 0 rfl
  have q1K1 := K1.out.cell 1 rfl
  go_wp2_with fail
  clear q0K1 q1K1
  refine wp_region_invG 45 (.pointer none) vRp (RpS W10 awakeT2) (by kernel_rfl) (by kernel_rfl) (by exact Nat.le_refl 45) ?_ ?_ ?_
  · exact RpS.start 31 rfl _
  · intro i o f gh a W hi hf hdep hsame hcl hval hS
    rcases i with _ | _ | _ | _ | _ | _ | _ | _ | _ | _ | _ | _ | _ | _ | _ | _ | _ | _ | _ | _ | _ | _ | _ | _ | _ | _ | _ | _ | _ | _ | _ | i
    all_goals simp only [List.getElem?_cons_succ, List.getElem?_cons_zero, List.getElem?_nil, Option.some.injEq, reduceCtorEq] at hi
    all_goals subst hi
    · refine g_plain rfl ?_
      exact does_value (w' := (W.alloc (.cells #[.int .i64 2] 3))) (v := .slice (some ⟨W.heap.size, 0, none⟩) 1 1) (by go_simp) ⟨_, .inr rfl, hS.step 0 _ (.ni [2]) rfl (below_new _ _) ⟨_, _, rfl, Nat.le_refl _, lit_ni [2] _ rfl⟩⟩
    · refine g_plain rfl ?_
      have hc : Calls Try.prog 32 #[.int .i64 1, .int .i64 4] W (fun e w' => e = .returned (.agg #[.int .i64 1, .int .i64 4]) ∧ Below W.heap.size W w') := by
        have h := lat_calls 1 4 W
        exact h
      refine does_call 32 #[.int .i64 1, .int .i64 4] (by go_simp) (hc.mono ?_)
      rintro _ W' ⟨rfl, hb⟩
      exact ⟨_, rfl, _, .inr rfl, hS.step 1 _ (.v (.agg #[.int .i64 1, .int .i64 4])) rfl hb rfl⟩
    · refine g_plain rfl ?_
      have hc : Calls Try.prog 32 #[.int .i64 2, .int .i64 2] W (fun e w' => e = .returned (.agg #[.int .i64 2, .int .i64 2]) ∧ Below W.heap.size W w') := by
        have h := lat_calls 2 2 W
        exact h
      refine does_call 32 #[.int .i64 2, .int .i64 2] (by go_simp) (hc.mono ?_)
      rintro _ W' ⟨rfl, hb⟩
      exact ⟨_, rfl, _, .inr rfl, hS.step 2 _ (.v (.agg #[.int .i64 2, .int .i64 2])) rfl hb rfl⟩
    · have E16 : a.tmps[16]? = some (gh 1) := hval 1 _ 16 rfl rfl (dep_of hdep 1 (by rfl))
      have e1 : gh 1 = .agg #[.int .i64 1, .int .i64 4] := hS.ok 1 (.v (.agg #[.int .i64 1, .int .i64 4])) rfl (dep_of hdep 1 (by rfl))
      rw [e1] at E16
      have E17 : a.tmps[17]? = some (gh 2) := hval 2 _ 17 rfl rfl (dep_of hdep 2 (by rfl))
      have e2 : gh 2 = .agg #[.int .i64 2, .int .i64 2] := hS.ok 2 (.v (.agg #[.int .i64 2, .int .i64 2])) rfl (dep_of hdep 2 (by rfl))
      rw [e2] at E17
      refine g_plain rfl ?_
      exact does_value (w' := (W.alloc (.cells #[.int .i64 1, .int .i64 4, .int .i64 2, .int .i64 2] 27))) (v := .slice (some ⟨W.heap.size, 0, none⟩) 2 2) (by go_simp) ⟨_, .inr rfl, hS.step 3 _ (.nd [(1, 4), (2, 2)]) rfl (below_new _ _) ⟨_, _, rfl, Nat.le_refl _, lit_nd [(1, 4), (2, 2)] _ rfl (by decide)⟩⟩
    · have E15 : a.tmps[15]? = some (gh 0) := hval 0 _ 15 rfl rfl (dep_of hdep 0 (by rfl))
      obtain ⟨A0, c0, e0, l0, n0⟩ : ∃ A c, gh 0 = .slice A 1 c ∧ 1 ≤ c ∧ NI W A 1 [2] := hS.ok 0 (.ni [2]) rfl (dep_of hdep 0 (by rfl))
      rw [e0] at E15
      have E18 : a.tmps[18]? = some (gh 3) := hval 3 _ 18 rfl rfl (dep_of hdep 3 (by rfl))
      obtain ⟨A3, c3, e3, l3, n3⟩ : ∃ A c, gh 3 = .slice A 2 c ∧ 2 ≤ c ∧ ND W A 2 [(1, 4), (2, 2)] := hS.ok 3 (.nd [(1, 4), (2, 2)]) rfl (dep_of hdep 3 (by rfl))
      rw [e3] at E18
      refine g_plain rfl ?_
      have hc : Calls Try.prog 31 #[.slice A0 1 c0, .slice A3 2 c3] W (fun e w' => e = .returned (.agg #[.slice A0 1 c0, .slice A3 2 c3]) ∧ Below W.heap.size W w') := by
        have h := lof_calls A0 A3 1 c0 2 c3 W
        exact h
      refine does_call 31 #[.slice A0 1 c0, .slice A3 2 c3] (by go_simp) (hc.mono ?_)
      rintro _ W' ⟨rfl, hb⟩
      exact ⟨_, rfl, _, .inr rfl, hS.step 4 _ (.cl [2] [(1, 4), (2, 2)]) rfl hb ⟨_, _, _, _, rfl, l0, l3, n0.keep hb, n3.keep hb⟩⟩
    · refine g_plain rfl ?_
      exact does_value (w' := (W.alloc (.cells #[.int .i64 1, .int .i64 0] 3))) (v := .slice (some ⟨W.heap.size, 0, none⟩) 2 2) (by go_simp) ⟨_, .inr rfl, hS.step 5 _ (.ni [1, 0]) rfl (below_new _ _) ⟨_, _, rfl, Nat.le_refl _, lit_ni [1, 0] _ rfl⟩⟩
    · refine g_plain rfl ?_
      have hc : Calls Try.prog 32 #[.int .i64 1, .int .i64 2] W (fun e w' => e = .returned (.agg #[.int .i64 1, .int .i64 2]) ∧ Below W.heap.size W w') := by
        have h := lat_calls 1 2 W
        exact h
      refine does_call 32 #[.int .i64 1, .int .i64 2] (by go_simp) (hc.mono ?_)
      rintro _ W' ⟨rfl, hb⟩
      exact ⟨_, rfl, _, .inr rfl, hS.step 6 _ (.v (.agg #[.int .i64 1, .int .i64 2])) rfl hb rfl⟩
    · refine g_plain rfl ?_
      have hc : Calls Try.prog 32 #[.int .i64 1, .int .i64 4] W (fun e w' => e = .returned (.agg #[.int .i64 1, .int .i64 4]) ∧ Below W.heap.size W w') := by
        have h := lat_calls 1 4 W
        exact h
      refine does_call 32 #[.int .i64 1, .int .i64 4] (by go_simp) (hc.mono ?_)
      rintro _ W' ⟨rfl, hb⟩
      exact ⟨_, rfl, _, .inr rfl, hS.step 7 _ (.v (.agg #[.int .i64 1, .int .i64 4])) rfl hb rfl⟩
    · refine g_plain rfl ?_
      have hc : Calls Try.prog 32 #[.int .i64 2, .int .i64 2] W (fun e w' => e = .returned (.agg #[.int .i64 2, .int .i64 2]) ∧ Below W.heap.size W w') := by
        have h := lat_calls 2 2 W
        exact h
      refine does_call 32 #[.int .i64 2, .int .i64 2] (by go_simp) (hc.mono ?_)
      rintro _ W' ⟨rfl, hb⟩
      exact ⟨_, rfl, _, .inr rfl, hS.step 8 _ (.v (.agg #[.int .i64 2, .int .i64 2])) rfl hb rfl⟩
    · refine g_plain rfl ?_
      have hc : Calls Try.prog 32 #[.int .i64 1, .int .i64 4] W (fun e w' => e = .returned (.agg #[.int .i64 1, .int .i64 4]) ∧ Below W.heap.size W w') := by
        have h := lat_calls 1 4 W
        exact h
      refine does_call 32 #[.int .i64 1, .int .i64 4] (by go_simp) (hc.mono ?_)
      rintro _ W' ⟨rfl, hb⟩
      exact ⟨_, rfl, _, .inr rfl, hS.step 9 _ (.v (.agg #[.int .i64 1, .int .i64 4])) rfl hb rfl⟩
    · have E21 : a.tmps[21]? = some (gh 6) := hval 6 _ 21 rfl rfl (dep_of hdep 6 (by rfl))
      have e6 : gh 6 = .agg #[.int .i64 1, .int .i64 2] := hS.ok 6 (.v (.agg #[.int .i64 1, .int .i64 2])) rfl (dep_of hdep 6 (by rfl))
      rw [e6] at E21
      have E22 : a.tmps[22]? = some (gh 7) := hval 7 _ 22 rfl rfl (dep_of hdep 7 (by rfl))
      have e7 : gh 7 = .agg #[.int .i64 1, .int .i64 4] := hS.ok 7 (.v (.agg #[.int .i64 1, .int .i64 4])) rfl (dep_of hdep 7 (by rfl))
      rw [e7] at E22
      have E23 : a.tmps[23]? = some (gh 8) := hval 8 _ 23 rfl rfl (dep_of hdep 8 (by rfl))
      have e8 : gh 8 = .agg #[.int .i64 2, .int .i64 2] := hS.ok 8 (.v (.agg #[.int .i64 2, .int .i64 2])) rfl (dep_of hdep 8 (by rfl))
      rw [e8] at E23
      have E24 : a.tmps[24]? = some (gh 9) := hval 9 _ 24 rfl rfl (dep_of hdep 9 (by rfl))
      have e9 : gh 9 = .agg #[.int .i64 1, .int .i64 4] := hS.ok 9 (.v (.agg #[.int .i64 1, .int .i64 4])) rfl (dep_of hdep 9 (by rfl))
      rw [e9] at E24
      refine g_plain rfl ?_
      exact does_value (w' := (W.alloc (.cells #[.int .i64 1, .int .i64 2, .int .i64 1, .int .i64 4, .int .i64 2, .int .i64 2, .int .i64 1, .int .i64 4] 27))) (v := .slice (some ⟨W.heap.size, 0, none⟩) 4 4) (by go_simp) ⟨_, .inr rfl, hS.step 10 _ (.nd [(1, 2), (1, 4), (2, 2), (1, 4)]) rfl (below_new _ _) ⟨_, _, rfl, Nat.le_refl _, lit_nd [(1, 2), (1, 4), (2, 2), (1, 4)] _ rfl (by decide)⟩⟩
    · have E19 : a.tmps[19]? = some (gh 4) := hval 4 _ 19 rfl rfl (dep_of hdep 4 (by rfl))
      obtain ⟨A4, c4, B4, d4, e4, l4, k4, n4, m4⟩ : ∃ A c B d, gh 4 = .agg #[.slice A 1 c, .slice B 2 d] ∧ 1 ≤ c ∧ 2 ≤ d ∧ NI W A 1 [2] ∧ ND W B 2 [(1, 4), (2, 2)] := hS.ok 4 (.cl [2] [(1, 4), (2, 2)]) rfl (dep_of hdep 4 (by rfl))
      rw [e4] at E19
      have E20 : a.tmps[20]? = some (gh 5) := hval 5 _ 20 rfl rfl (dep_of hdep 5 (by rfl))
      obtain ⟨A5, c5, e5, l5, n5⟩ : ∃ A c, gh 5 = .slice A 2 c ∧ 2 ≤ c ∧ NI W A 2 [1, 0] := hS.ok 5 (.ni [1, 0]) rfl (dep_of hdep 5 (by rfl))
      rw [e5] at E20
      have E25 : a.tmps[25]? = some (gh 10) := hval 10 _ 25 rfl rfl (dep_of hdep 10 (by rfl))
      obtain ⟨A10, c10, e10, l10, n10⟩ : ∃ A c, gh 10 = .slice A 4 c ∧ 4 ≤ c ∧ ND W A 4 [(1, 2), (1, 4), (2, 2), (1, 4)] := hS.ok 10 (.nd [(1, 2), (1, 4), (2, 2), (1, 4)]) rfl (dep_of hdep 10 (by rfl))
      rw [e10] at E25
      refine g_plain rfl ?_
      have hc : Calls Try.prog 33 #[.agg #[.slice A4 1 c4, .slice B4 2 d4], .slice A5 2 c5, .slice A10 4 c10] W (fun e w' => e = .returned (.bool true) ∧ Below W.heap.size W w') := by
        have h := lmakes_calls 1 c4 2 d4 2 c5 4 c10 A4 B4 A5 A10 [2] [1, 0] [(1, 4), (2, 2)] [(1, 2), (1, 4), (2, 2), (1, 4)] W n4 m4 n5 n10 (by decide) (by decide) (by decide) (by decide) (by decide +kernel) (by decide +kernel)
        rw [show (decide ((makeC [1, 0] [(1, 2), (1, 4), (2, 2), (1, 4)]).2 = 0) && decide ((makeC [1, 0] [(1, 2), (1, 4), (2, 2), (1, 4)]).1 = ([2], [(1, 4), (2, 2)]))) = true from by decide +kernel] at h
        exact h
      refine does_call 33 #[.agg #[.slice A4 1 c4, .slice B4 2 d4], .slice A5 2 c5, .slice A10 4 c10] (by go_simp) (hc.mono ?_)
      rintro _ W' ⟨rfl, hb⟩
      exact ⟨_, rfl, _, .inr rfl, hS.step 11 _ (.v (.bool true)) rfl hb rfl⟩
    · have E26 : a.tmps[26]? = some (gh 11) := hval 11 _ 26 rfl rfl (dep_of hdep 11 (by rfl))
      have e11 : gh 11 = .bool true := hS.ok 11 (.v (.bool true)) rfl (dep_of hdep 11 (by rfl))
      rw [e11] at E26
      refine g_plain rfl ?_
      exact does_value (w' := W) (v := .bool true) (by go_simp) ⟨_, .inr rfl, hS.same 12 _ (.v (.bool true)) rfl rfl⟩
    · have EG : a.tmps[27]? = some (.bool true) := (hval 12 _ 27 rfl rfl (dep_of hdep 12 (by rfl))).trans (congrArg some (hS.ok 12 (.v (.bool true)) rfl (dep_of hdep 12 (by rfl))))
      have E2 : a.tmps[2]? = some (.int .i64 0) := (same_of hsame 2 (by rfl)).trans rfl
      refine g_want rfl rfl rfl EG ?_
      exact does_value (w' := W) (v := .int .i64 0) (by go_simp) ⟨_, .inr rfl, hS.same 13 _ (.v (.int .i64 0)) rfl rfl⟩
    · have EG : a.tmps[27]? = some (.bool true) := (hval 12 _ 27 rfl rfl (dep_of hdep 12 (by rfl))).trans (congrArg some (hS.ok 12 (.v (.bool true)) rfl (dep_of hdep 12 (by rfl))))
      have E28 : a.tmps[28]? = some (gh 13) := hval 13 _ 28 rfl rfl (dep_of hdep 13 (by rfl))
      have e13 : gh 13 = .int .i64 0 := hS.ok 13 (.v (.int .i64 0)) rfl (dep_of hdep 13 (by rfl))
      rw [e13] at E28
      refine g_want rfl rfl rfl EG ?_
      exact does_value (w' := W) (v := .bool true) (by go_simp) ⟨_, .inr rfl, hS.same 14 _ (.v (.bool true)) rfl rfl⟩
    · have E27 : a.tmps[27]? = some (gh 12) := hval 12 _ 27 rfl rfl (dep_of hdep 12 (by rfl))
      have e12 : gh 12 = .bool true := hS.ok 12 (.v (.bool true)) rfl (dep_of hdep 12 (by rfl))
      rw [e12] at E27
      have E29 : a.tmps[29]? = some (gh 14) := hval 14 _ 29 rfl rfl (dep_of hdep 14 (by rfl))
      have e14 : gh 14 = .bool true := hS.ok 14 (.v (.bool true)) rfl (dep_of hdep 14 (by rfl))
      rw [e14] at E29
      refine g_plain rfl ?_
      exact does_value (w' := W) (v := .bool true) (by go_simp) ⟨_, .inr rfl, hS.same 15 _ (.v (.bool true)) rfl rfl⟩
    · have E30 : a.tmps[30]? = some (gh 15) := hval 15 _ 30 rfl rfl (dep_of hdep 15 (by rfl))
      have e15 : gh 15 = .bool true := hS.ok 15 (.v (.bool true)) rfl (dep_of hdep 15 (by rfl))
      rw [e15] at E30
      refine g_plain rfl ?_
      exact does_value (w' := W) (v := .bool true) (by go_simp) ⟨_, .inr rfl, hS.same 16 _ (.v (.bool true)) rfl rfl⟩
    · have EG : a.tmps[31]? = some (.bool true) := (hval 16 _ 31 rfl rfl (dep_of hdep 16 (by rfl))).trans (congrArg some (hS.ok 16 (.v (.bool true)) rfl (dep_of hdep 16 (by rfl))))
      have E1 : a.tmps[1]? = some (.pointer (some ⟨g1, 0, none⟩)) := (same_of hsame 1 (by rfl)).trans rfl
      refine g_want rfl rfl rfl EG ?_
      exact does_load_cloud _ rfl _ rfl (by rw [eval_getD, E1]; rfl) (K1.out.keep hS.bel) ⟨_, .inr rfl, hS.same 17 _ (.cl [4, 1] []) rfl ⟨_, _, _, _, rfl, l12, k12, F12.out.keep hS.bel, G12.out.keep hS.bel⟩⟩
    · have EG : a.tmps[31]? = some (.bool true) := (hval 16 _ 31 rfl rfl (dep_of hdep 16 (by rfl))).trans (congrArg some (hS.ok 16 (.v (.bool true)) rfl (dep_of hdep 16 (by rfl))))
      refine g_want rfl rfl rfl EG ?_
      exact does_value (w' := (W.alloc (.cells #[.int .i64 4, .int .i64 1] 3))) (v := .slice (some ⟨W.heap.size, 0, none⟩) 2 2) (by go_simp) ⟨_, .inr rfl, hS.step 18 _ (.ni [4, 1]) rfl (below_new _ _) ⟨_, _, rfl, Nat.le_refl _, lit_ni [4, 1] _ rfl⟩⟩
    · have EG : a.tmps[31]? = some (.bool true) := (hval 16 _ 31 rfl rfl (dep_of hdep 16 (by rfl))).trans (congrArg some (hS.ok 16 (.v (.bool true)) rfl (dep_of hdep 16 (by rfl))))
      have E33 : a.tmps[33]? = some (gh 18) := hval 18 _ 33 rfl rfl (dep_of hdep 18 (by rfl))
      obtain ⟨A18, c18, e18, l18, n18⟩ : ∃ A c, gh 18 = .slice A 2 c ∧ 2 ≤ c ∧ NI W A 2 [4, 1] := hS.ok 18 (.ni [4, 1]) rfl (dep_of hdep 18 (by rfl))
      rw [e18] at E33
      refine g_want rfl rfl rfl EG ?_
      have hc : Calls Try.prog 31 #[.slice A18 2 c18, .slice none 0 0] W (fun e w' => e = .returned (.agg #[.slice A18 2 c18, .slice none 0 0]) ∧ Below W.heap.size W w') := by
        have h := lof_calls A18 none 2 c18 0 0 W
        exact h
      refine does_call 31 #[.slice A18 2 c18, .slice none 0 0] (by go_simp) (hc.mono ?_)
      rintro _ W' ⟨rfl, hb⟩
      exact ⟨_, rfl, _, .inr rfl, hS.step 19 _ (.cl [4, 1] []) rfl hb ⟨_, _, _, _, rfl, l18, (Nat.le_refl _), n18.keep hb, (ND.nil _ _).keep hb⟩⟩
    · have EG : a.tmps[31]? = some (.bool true) := (hval 16 _ 31 rfl rfl (dep_of hdep 16 (by rfl))).trans (congrArg some (hS.ok 16 (.v (.bool true)) rfl (dep_of hdep 16 (by rfl))))
      have E32 : a.tmps[32]? = some (gh 17) := hval 17 _ 32 rfl rfl (dep_of hdep 17 (by rfl))
      obtain ⟨A17, c17, B17, d17, e17, l17, k17, n17, m17⟩ : ∃ A c B d, gh 17 = .agg #[.slice A 2 c, .slice B 0 d] ∧ 2 ≤ c ∧ 0 ≤ d ∧ NI W A 2 [4, 1] ∧ ND W B 0 [] := hS.ok 17 (.cl [4, 1] []) rfl (dep_of hdep 17 (by rfl))
      rw [e17] at E32
      have E34 : a.tmps[34]? = some (gh 19) := hval 19 _ 34 rfl rfl (dep_of hdep 19 (by rfl))
      obtain ⟨A19, c19, B19, d19, e19, l19, k19, n19, m19⟩ : ∃ A c B d, gh 19 = .agg #[.slice A 2 c, .slice B 0 d] ∧ 2 ≤ c ∧ 0 ≤ d ∧ NI W A 2 [4, 1] ∧ ND W B 0 [] := hS.ok 19 (.cl [4, 1] []) rfl (dep_of hdep 19 (by rfl))
      rw [e19] at E34
      refine g_want rfl rfl rfl EG ?_
      have hc : Calls Try.prog 17 #[.agg #[.slice A17 2 c17, .slice B17 0 d17], .agg #[.slice A19 2 c19, .slice B19 0 d19]] W (fun e w' => e = .returned (.bool true) ∧ Below W.heap.size W w') := by
        have h := sameC_calls 2 c17 0 d17 2 c19 0 d19 A17 B17 A19 B19 [4, 1] [4, 1] [] [] W n17 m17 n19 m19 (by decide) (by decide) (by decide) (by decide)
        rw [show decide ((([4, 1], []) : List Int × List Dt) = ([4, 1], [])) = true from by decide +kernel] at h
        exact h
      refine does_call 17 #[.agg #[.slice A17 2 c17, .slice B17 0 d17], .agg #[.slice A19 2 c19, .slice B19 0 d19]] (by go_simp) (hc.mono ?_)
      rintro _ W' ⟨rfl, hb⟩
      exact ⟨_, rfl, _, .inr rfl, hS.step 20 _ (.v (.bool true)) rfl hb rfl⟩
    · have E31 : a.tmps[31]? = some (gh 16) := hval 16 _ 31 rfl rfl (dep_of hdep 16 (by rfl))
      have e16 : gh 16 = .bool true := hS.ok 16 (.v (.bool true)) rfl (dep_of hdep 16 (by rfl))
      rw [e16] at E31
      have E35 : a.tmps[35]? = some (gh 20) := hval 20 _ 35 rfl rfl (dep_of hdep 20 (by rfl))
      have e20 : gh 20 = .bool true := hS.ok 20 (.v (.bool true)) rfl (dep_of hdep 20 (by rfl))
      rw [e20] at E35
      refine g_plain rfl ?_
      exact does_value (w' := W) (v := .bool true) (by go_simp) ⟨_, .inr rfl, hS.same 21 _ (.v (.bool true)) rfl rfl⟩
    · have E36 : a.tmps[36]? = some (gh 21) := hval 21 _ 36 rfl rfl (dep_of hdep 21 (by rfl))
      have e21 : gh 21 = .bool true := hS.ok 21 (.v (.bool true)) rfl (dep_of hdep 21 (by rfl))
      rw [e21] at E36
      refine g_plain rfl ?_
      exact does_value (w' := W) (v := .bool true) (by go_simp) ⟨_, .inr rfl, hS.same 22 _ (.v (.bool true)) rfl rfl⟩
    · have EG : a.tmps[37]? = some (.bool true) := (hval 22 _ 37 rfl rfl (dep_of hdep 22 (by rfl))).trans (congrArg some (hS.ok 22 (.v (.bool true)) rfl (dep_of hdep 22 (by rfl))))
      refine g_want rfl rfl rfl EG ?_
      exact does_value (w' := (W.alloc (.cells #[.int .i64 2] 3))) (v := .slice (some ⟨W.heap.size, 0, none⟩) 1 1) (by go_simp) ⟨_, .inr rfl, hS.step 23 _ (.ni [2]) rfl (below_new _ _) ⟨_, _, rfl, Nat.le_refl _, lit_ni [2] _ rfl⟩⟩
    · have EG : a.tmps[37]? = some (.bool true) := (hval 22 _ 37 rfl rfl (dep_of hdep 22 (by rfl))).trans (congrArg some (hS.ok 22 (.v (.bool true)) rfl (dep_of hdep 22 (by rfl))))
      refine g_want rfl rfl rfl EG ?_
      have hc : Calls Try.prog 32 #[.int .i64 1, .int .i64 4] W (fun e w' => e = .returned (.agg #[.int .i64 1, .int .i64 4]) ∧ Below W.heap.size W w') := by
        have h := lat_calls 1 4 W
        exact h
      refine does_call 32 #[.int .i64 1, .int .i64 4] (by go_simp) (hc.mono ?_)
      rintro _ W' ⟨rfl, hb⟩
      exact ⟨_, rfl, _, .inr rfl, hS.step 24 _ (.v (.agg #[.int .i64 1, .int .i64 4])) rfl hb rfl⟩
    · have EG : a.tmps[37]? = some (.bool true) := (hval 22 _ 37 rfl rfl (dep_of hdep 22 (by rfl))).trans (congrArg some (hS.ok 22 (.v (.bool true)) rfl (dep_of hdep 22 (by rfl))))
      have E39 : a.tmps[39]? = some (gh 24) := hval 24 _ 39 rfl rfl (dep_of hdep 24 (by rfl))
      have e24 : gh 24 = .agg #[.int .i64 1, .int .i64 4] := hS.ok 24 (.v (.agg #[.int .i64 1, .int .i64 4])) rfl (dep_of hdep 24 (by rfl))
      rw [e24] at E39
      refine g_want rfl rfl rfl EG ?_
      exact does_value (w' := (W.alloc (.cells #[.int .i64 1, .int .i64 4] 27))) (v := .slice (some ⟨W.heap.size, 0, none⟩) 1 1) (by go_simp) ⟨_, .inr rfl, hS.step 25 _ (.nd [(1, 4)]) rfl (below_new _ _) ⟨_, _, rfl, Nat.le_refl _, lit_nd [(1, 4)] _ rfl (by decide)⟩⟩
    · have EG : a.tmps[37]? = some (.bool true) := (hval 22 _ 37 rfl rfl (dep_of hdep 22 (by rfl))).trans (congrArg some (hS.ok 22 (.v (.bool true)) rfl (dep_of hdep 22 (by rfl))))
      have E38 : a.tmps[38]? = some (gh 23) := hval 23 _ 38 rfl rfl (dep_of hdep 23 (by rfl))
      obtain ⟨A23, c23, e23, l23, n23⟩ : ∃ A c, gh 23 = .slice A 1 c ∧ 1 ≤ c ∧ NI W A 1 [2] := hS.ok 23 (.ni [2]) rfl (dep_of hdep 23 (by rfl))
      rw [e23] at E38
      have E40 : a.tmps[40]? = some (gh 25) := hval 25 _ 40 rfl rfl (dep_of hdep 25 (by rfl))
      obtain ⟨A25, c25, e25, l25, n25⟩ : ∃ A c, gh 25 = .slice A 1 c ∧ 1 ≤ c ∧ ND W A 1 [(1, 4)] := hS.ok 25 (.nd [(1, 4)]) rfl (dep_of hdep 25 (by rfl))
      rw [e25] at E40
      refine g_want rfl rfl rfl EG ?_
      have hc : Calls Try.prog 31 #[.slice A23 1 c23, .slice A25 1 c25] W (fun e w' => e = .returned (.agg #[.slice A23 1 c23, .slice A25 1 c25]) ∧ Below W.heap.size W w') := by
        have h := lof_calls A23 A25 1 c23 1 c25 W
        exact h
      refine does_call 31 #[.slice A23 1 c23, .slice A25 1 c25] (by go_simp) (hc.mono ?_)
      rintro _ W' ⟨rfl, hb⟩
      exact ⟨_, rfl, _, .inr rfl, hS.step 26 _ (.cl [2] [(1, 4)]) rfl hb ⟨_, _, _, _, rfl, l23, l25, n23.keep hb, n25.keep hb⟩⟩
    · have EG : a.tmps[37]? = some (.bool true) := (hval 22 _ 37 rfl rfl (dep_of hdep 22 (by rfl))).trans (congrArg some (hS.ok 22 (.v (.bool true)) rfl (dep_of hdep 22 (by rfl))))
      refine g_want rfl rfl rfl EG ?_
      have hc : Calls Try.prog 32 #[.int .i64 1, .int .i64 2] W (fun e w' => e = .returned (.agg #[.int .i64 1, .int .i64 2]) ∧ Below W.heap.size W w') := by
        have h := lat_calls 1 2 W
        exact h
      refine does_call 32 #[.int .i64 1, .int .i64 2] (by go_simp) (hc.mono ?_)
      rintro _ W' ⟨rfl, hb⟩
      exact ⟨_, rfl, _, .inr rfl, hS.step 27 _ (.v (.agg #[.int .i64 1, .int .i64 2])) rfl hb rfl⟩
    · have EG : a.tmps[37]? = some (.bool true) := (hval 22 _ 37 rfl rfl (dep_of hdep 22 (by rfl))).trans (congrArg some (hS.ok 22 (.v (.bool true)) rfl (dep_of hdep 22 (by rfl))))
      have E41 : a.tmps[41]? = some (gh 26) := hval 26 _ 41 rfl rfl (dep_of hdep 26 (by rfl))
      obtain ⟨A26, c26, B26, d26, e26, l26, k26, n26, m26⟩ : ∃ A c B d, gh 26 = .agg #[.slice A 1 c, .slice B 1 d] ∧ 1 ≤ c ∧ 1 ≤ d ∧ NI W A 1 [2] ∧ ND W B 1 [(1, 4)] := hS.ok 26 (.cl [2] [(1, 4)]) rfl (dep_of hdep 26 (by rfl))
      rw [e26] at E41
      have E42 : a.tmps[42]? = some (gh 27) := hval 27 _ 42 rfl rfl (dep_of hdep 27 (by rfl))
      have e27 : gh 27 = .agg #[.int .i64 1, .int .i64 2] := hS.ok 27 (.v (.agg #[.int .i64 1, .int .i64 2])) rfl (dep_of hdep 27 (by rfl))
      rw [e27] at E42
      refine g_want rfl rfl rfl EG ?_
      have hc : Calls Try.prog 20 #[.agg #[.slice A26 1 c26, .slice B26 1 d26], .agg #[.int .i64 1, .int .i64 2]] W (fun e w' => e = .returned (.bool true) ∧ Below W.heap.size W w') := by
        have h := ocHas_calls 1 c26 1 d26 A26 B26 [2] [(1, 4)] (1, 2) W n26 m26 (by decide) (by decide) l26
        rw [show hasB ([2], [(1, 4)]) (1, 2) = true from by decide +kernel] at h
        exact h
      refine does_call 20 #[.agg #[.slice A26 1 c26, .slice B26 1 d26], .agg #[.int .i64 1, .int .i64 2]] (by go_simp) (hc.mono ?_)
      rintro _ W' ⟨rfl, hb⟩
      exact ⟨_, rfl, _, .inr rfl, hS.step 28 _ (.v (.bool true)) rfl hb rfl⟩
    · have E37 : a.tmps[37]? = some (gh 22) := hval 22 _ 37 rfl rfl (dep_of hdep 22 (by rfl))
      have e22 : gh 22 = .bool true := hS.ok 22 (.v (.bool true)) rfl (dep_of hdep 22 (by rfl))
      rw [e22] at E37
      have E43 : a.tmps[43]? = some (gh 28) := hval 28 _ 43 rfl rfl (dep_of hdep 28 (by rfl))
      have e28 : gh 28 = .bool true := hS.ok 28 (.v (.bool true)) rfl (dep_of hdep 28 (by rfl))
      rw [e28] at E43
      refine g_plain rfl ?_
      exact does_value (w' := W) (v := .bool true) (by go_simp) ⟨_, .inr rfl, hS.same 29 _ (.v (.bool true)) rfl rfl⟩
    · have E44 : a.tmps[44]? = some (gh 29) := hval 29 _ 44 rfl rfl (dep_of hdep 29 (by rfl))
      have e29 : gh 29 = .bool true := hS.ok 29 (.v (.bool true)) rfl (dep_of hdep 29 (by rfl))
      rw [e29] at E44
      refine g_plain rfl ?_
      exact does_value (w' := W) (v := .bool true) (by go_simp) ⟨_, .inr rfl, hS.same 30 _ (.v (.bool true)) rfl rfl⟩
  intro gh W11 hS
  have hb := hS.bel
  have e30 : gh 30 = .bool true := hS.ok 30 (.v (.bool true)) rfl rfl
  clear hS
  replace F4 := hid (F4.out.keep hb)
  replace F6 := hid (F6.out.keep hb)
  replace F8 := hid (F8.out.keep hb)
  replace F10 := hid (F10.out.keep hb)
  replace F12 := hid (F12.out.keep hb)
  replace G12 := hid (G12.out.keep hb)
  replace K1 := hid (K1.out.keep hb)
  replace HB := hid (HB.out.trans (hb.mono HB.out.size))
  clear hb
  simp only [putAll, vRp, Nat.reduceAdd, Nat.zero_add, Act.put, List.setIfInBounds_toArray, List.set_cons_zero, List.set_cons_succ]
  rw [e30]
  clear e30
  go_wp2_with fail
  go_ret
  exact ⟨rfl, HB.out⟩
set_option maxRecDepth 100000 in
set_option maxHeartbeats 8000000 in
theorem known_calls (W0 : World) : Calls Try.prog 5 #[] W0 fun e w' => e = .returned (.bool true) ∧ Below W0.heap.size W0 w' := by
  have hzc := (zero_of_info info_cloud).1
  have hzd := (zero_of_info info_dot0).1
  have HB := hid (Below.refl W0.heap.size W0)
  go_enter Try.func5, Try.ntmps5
  go_wp2_with fail
  obtain ⟨W1, hW⟩ : ∃ W', W' = W0.alloc (.cells #[.int .i64 2] 3) := ⟨_, rfl⟩
  have hb : Below W0.heap.size W0 W1 := by rw [hW]; exact below_new _ _
  have hf : NI W1 (some ⟨W0.heap.size, 0, none⟩) 1 [2] := by rw [hW]; exact lit_ni [2] _ rfl
  rw [← hW]
  clear hW
  replace HB := hid (HB.out.trans (hb.mono HB.out.size))
  clear hb
  have F10 := hid hf
  clear hf
  have hc : Calls Try.prog 32 #[.int .i64 1, .int .i64 4] W1 (fun e w' => e = .returned (.agg #[.int .i64 1, .int .i64 4]) ∧ Below W1.heap.size W1 w') := by
    have h := lat_calls 1 4 W1
    exact h
  have HC := hid hc
  clear hc
  try go_wp2_with fail
  refine HC.out.mono ?_
  rintro e W2 ⟨rfl, hb⟩
  clear HC
  replace F10 := hid (F10.out.keep hb)
  replace HB := hid (HB.out.trans (hb.mono HB.out.size))
  clear hb
  go_wp2_with fail
  obtain ⟨W3, hW⟩ : ∃ W', W' = W2.alloc (.cells #[.int .i64 1, .int .i64 4] 27) := ⟨_, rfl⟩
  have hb : Below W2.heap.size W2 W3 := by rw [hW]; exact below_new _ _
  have hf : ND W3 (some ⟨W2.heap.size, 0, none⟩) 1 [(1, 4)] := by rw [hW]; exact lit_nd [(1, 4)] _ rfl (by decide)
  rw [← hW]
  clear hW
  replace F10 := hid (F10.out.keep hb)
  replace HB := hid (HB.out.trans (hb.mono HB.out.size))
  clear hb
  have F12 := hid hf
  clear hf
  have hc : Calls Try.prog 31 #[.slice (some ⟨W0.heap.size, 0, none⟩) 1 1, .slice (some ⟨W2.heap.size, 0, none⟩) 1 1] W3 (fun e w' => e = .returned (.agg #[.slice (some ⟨W0.heap.size, 0, none⟩) 1 1, .slice (some ⟨W2.heap.size, 0, none⟩) 1 1]) ∧ Below W3.heap.size W3 w') := by
    have h := lof_calls (some ⟨W0.heap.size, 0, none⟩) (some ⟨W2.heap.size, 0, none⟩) 1 1 1 1 W3
    exact h
  have HC := hid hc
  clear hc
  try go_wp2_with fail
  refine HC.out.mono ?_
  rintro e W4 ⟨rfl, hb⟩
  clear HC
  replace F10 := hid (F10.out.keep hb)
  replace F12 := hid (F12.out.keep hb)
  replace HB := hid (HB.out.trans (hb.mono HB.out.size))
  clear hb
  have hk3 := Blk.new W4 25 #[.slice none 0 0, .slice none 0 0]
  have HK3 := hid hk3
  have HK4 := hid (hk3.setRow #[.slice (some ⟨W0.heap.size, 0, none⟩) 1 1, .slice (some ⟨W2.heap.size, 0, none⟩) 1 1])
  have HB4 := hid (show Below W4.heap.size W4 ((W4.alloc (.cells #[.slice none 0 0, .slice none 0 0] 25)).setRow W4.heap.size #[.slice (some ⟨W0.heap.size, 0, none⟩) 1 1, .slice (some ⟨W2.heap.size, 0, none⟩) 1 1]) from (below_new _ _).trans (below_of_grown (grown_setRow _ _ _) (by rw [size_new]; omega) (fun g e => by cases e; exact Nat.le_refl _)))
  clear hk3
  go_wp2_with (refine wpList_store_blk rfl _ _ _ rfl W4.heap.size #[.slice (some ⟨W0.heap.size, 0, none⟩) 1 1, .slice (some ⟨W2.heap.size, 0, none⟩) 1 1] rfl rfl _ _ HK3.out (by kernel_rfl) rfl (by rfl) ?_; refine Held.go ?_)
  unfold Held
  obtain ⟨W5, hW4⟩ : ∃ WX, WX = (W4.alloc (.cells #[.slice none 0 0, .slice none 0 0] 25)).setRow W4.heap.size #[.slice (some ⟨W0.heap.size, 0, none⟩) 1 1, .slice (some ⟨W2.heap.size, 0, none⟩) 1 1] := ⟨_, rfl⟩
  rw [← hW4] at HK4 HB4 ⊢
  clear hW4 HK3
  obtain ⟨g1, hg⟩ : ∃ g, W4.heap.size = g := ⟨_, rfl⟩
  rw [hg] at HK4 ⊢
  clear hg
  have hb := HB4.out
  clear HB4
  replace F10 := hid (F10.out.keep hb)
  replace F12 := hid (F12.out.keep hb)
  replace HB := hid (HB.out.trans (hb.mono HB.out.size))
  clear hb
  have K1 := HK4
  clear HK4
  have q0K1 := K1.out.cell 0 rfl
  have q1K1 := K1.out.cell 1 rfl
  go_wp2_with fail
  clear q0K1 q1K1
  refine wp_region_invG 123 (.pointer none) vRp (RpS W5 knownT2) (by kernel_rfl) (by kernel_rfl) (by exact Nat.le_refl 123) ?_ ?_ ?_
  · exact RpS.start 35 rfl _
  · intro i o f gh a W hi hf hdep hsame hcl hval hS
    rcases i with _ | _ | _ | _ | _ | _ | _ | _ | _ | _ | _ | _ | _ | _ | _ | _ | _ | _ | _ | _ | _ | _ | _ | _ | _ | _ | _ | _ | _ | _ | _ | _ | _ | _ | _ | i
    all_goals simp only [List.getElem?_cons_succ, List.getElem?_cons_zero, List.getElem?_nil, Option.some.injEq, reduceCtorEq] at hi
    all_goals subst hi
    · refine g_plain rfl ?_
      exact does_value (w' := (W.alloc (.cells #[.int .i64 0, .int .i64 0, .int .i64 1] 3))) (v := .slice (some ⟨W.heap.size, 0, none⟩) 3 3) (by go_simp) ⟨_, .inr rfl, hS.step 0 _ (.ni [0, 0, 1]) rfl (below_new _ _) ⟨_, _, rfl, Nat.le_refl _, lit_ni [0, 0, 1] _ rfl⟩⟩
    · have E14 : a.tmps[14]? = some (gh 0) := hval 0 _ 14 rfl rfl (dep_of hdep 0 (by rfl))
      obtain ⟨A0, c0, e0, l0, n0⟩ : ∃ A c, gh 0 = .slice A 3 c ∧ 3 ≤ c ∧ NI W A 3 [0, 0, 1] := hS.ok 0 (.ni [0, 0, 1]) rfl (dep_of hdep 0 (by rfl))
      rw [e0] at E14
      refine g_plain rfl ?_
      have hc : Calls Try.prog 31 #[.slice A0 3 c0, .slice none 0 0] W (fun e w' => e = .returned (.agg #[.slice A0 3 c0, .slice none 0 0]) ∧ Below W.heap.size W w') := by
        have h := lof_calls A0 none 3 c0 0 0 W
        exact h
      refine does_call 31 #[.slice A0 3 c0, .slice none 0 0] (by go_simp) (hc.mono ?_)
      rintro _ W' ⟨rfl, hb⟩
      exact ⟨_, rfl, _, .inr rfl, hS.step 1 _ (.cl [0, 0, 1] []) rfl hb ⟨_, _, _, _, rfl, l0, (Nat.le_refl _), n0.keep hb, (ND.nil _ _).keep hb⟩⟩
    · refine g_plain rfl ?_
      have hc : Calls Try.prog 32 #[.int .i64 3, .int .i64 1] W (fun e w' => e = .returned (.agg #[.int .i64 3, .int .i64 1]) ∧ Below W.heap.size W w') := by
        have h := lat_calls 3 1 W
        exact h
      refine does_call 32 #[.int .i64 3, .int .i64 1] (by go_simp) (hc.mono ?_)
      rintro _ W' ⟨rfl, hb⟩
      exact ⟨_, rfl, _, .inr rfl, hS.step 2 _ (.v (.agg #[.int .i64 3, .int .i64 1])) rfl hb rfl⟩
    · have E16 : a.tmps[16]? = some (gh 2) := hval 2 _ 16 rfl rfl (dep_of hdep 2 (by rfl))
      have e2 : gh 2 = .agg #[.int .i64 3, .int .i64 1] := hS.ok 2 (.v (.agg #[.int .i64 3, .int .i64 1])) rfl (dep_of hdep 2 (by rfl))
      rw [e2] at E16
      refine g_plain rfl ?_
      exact does_value (w' := (W.alloc (.cells #[.int .i64 3, .int .i64 1] 27))) (v := .slice (some ⟨W.heap.size, 0, none⟩) 1 1) (by go_simp) ⟨_, .inr rfl, hS.step 3 _ (.nd [(3, 1)]) rfl (below_new _ _) ⟨_, _, rfl, Nat.le_refl _, lit_nd [(3, 1)] _ rfl (by decide)⟩⟩
    · have E15 : a.tmps[15]? = some (gh 1) := hval 1 _ 15 rfl rfl (dep_of hdep 1 (by rfl))
      obtain ⟨A1, c1, B1, d1, e1, l1, k1, n1, m1⟩ : ∃ A c B d, gh 1 = .agg #[.slice A 3 c, .slice B 0 d] ∧ 3 ≤ c ∧ 0 ≤ d ∧ NI W A 3 [0, 0, 1] ∧ ND W B 0 [] := hS.ok 1 (.cl [0, 0, 1] []) rfl (dep_of hdep 1 (by rfl))
      rw [e1] at E15
      have E17 : a.tmps[17]? = some (gh 3) := hval 3 _ 17 rfl rfl (dep_of hdep 3 (by rfl))
      obtain ⟨A3, c3, e3, l3, n3⟩ : ∃ A c, gh 3 = .slice A 1 c ∧ 1 ≤ c ∧ ND W A 1 [(3, 1)] := hS.ok 3 (.nd [(3, 1)]) rfl (dep_of hdep 3 (by rfl))
      rw [e3] at E17
      refine g_plain rfl ?_
      have hc : Calls Try.prog 33 #[.agg #[.slice A1 3 c1, .slice B1 0 d1], .slice none 0 0, .slice A3 1 c3] W (fun e w' => e = .returned (.bool true) ∧ Below W.heap.size W w') := by
        have h := lmakes_calls 3 c1 0 d1 0 0 1 c3 A1 B1 none A3 [0, 0, 1] [] [] [(3, 1)] W n1 m1 (NI.nil _ _) n3 (by decide) (by decide) (by decide) (by decide) (by decide +kernel) (by decide +kernel)
        rw [show (decide ((makeC [] [(3, 1)]).2 = 0) && decide ((makeC [] [(3, 1)]).1 = ([0, 0, 1], []))) = true from by decide +kernel] at h
        exact h
      refine does_call 33 #[.agg #[.slice A1 3 c1, .slice B1 0 d1], .slice none 0 0, .slice A3 1 c3] (by go_simp) (hc.mono ?_)
      rintro _ W' ⟨rfl, hb⟩
      exact ⟨_, rfl, _, .inr rfl, hS.step 4 _ (.v (.bool true)) rfl hb rfl⟩
    · have E18 : a.tmps[18]? = some (gh 4) := hval 4 _ 18 rfl rfl (dep_of hdep 4 (by rfl))
      have e4 : gh 4 = .bool true := hS.ok 4 (.v (.bool true)) rfl (dep_of hdep 4 (by rfl))
      rw [e4] at E18
      refine g_plain rfl ?_
      exact does_value (w' := W) (v := .bool true) (by go_simp) ⟨_, .inr rfl, hS.same 5 _ (.v (.bool true)) rfl rfl⟩
    · have EG : a.tmps[19]? = some (.bool true) := (hval 5 _ 19 rfl rfl (dep_of hdep 5 (by rfl))).trans (congrArg some (hS.ok 5 (.v (.bool true)) rfl (dep_of hdep 5 (by rfl))))
      refine g_want rfl rfl rfl EG ?_
      have hc : Calls Try.prog 31 #[.slice none 0 0, .slice none 0 0] W (fun e w' => e = .returned (.agg #[.slice none 0 0, .slice none 0 0]) ∧ Below W.heap.size W w') := by
        have h := lof_calls none none 0 0 0 0 W
        exact h
      refine does_call 31 #[.slice none 0 0, .slice none 0 0] (by go_simp) (hc.mono ?_)
      rintro _ W' ⟨rfl, hb⟩
      exact ⟨_, rfl, _, .inr rfl, hS.step 6 _ (.cl [] []) rfl hb ⟨_, _, _, _, rfl, (Nat.le_refl _), (Nat.le_refl _), (NI.nil _ _).keep hb, (ND.nil _ _).keep hb⟩⟩
    · have EG : a.tmps[19]? = some (.bool true) := (hval 5 _ 19 rfl rfl (dep_of hdep 5 (by rfl))).trans (congrArg some (hS.ok 5 (.v (.bool true)) rfl (dep_of hdep 5 (by rfl))))
      refine g_want rfl rfl rfl EG ?_
      exact does_value (w' := (W.alloc (.cells #[.int .i64 0, .int .i64 0] 3))) (v := .slice (some ⟨W.heap.size, 0, none⟩) 2 2) (by go_simp) ⟨_, .inr rfl, hS.step 7 _ (.ni [0, 0]) rfl (below_new _ _) ⟨_, _, rfl, Nat.le_refl _, lit_ni [0, 0] _ rfl⟩⟩
    · have EG : a.tmps[19]? = some (.bool true) := (hval 5 _ 19 rfl rfl (dep_of hdep 5 (by rfl))).trans (congrArg some (hS.ok 5 (.v (.bool true)) rfl (dep_of hdep 5 (by rfl))))
      have E20 : a.tmps[20]? = some (gh 6) := hval 6 _ 20 rfl rfl (dep_of hdep 6 (by rfl))
      obtain ⟨A6, c6, B6, d6, e6, l6, k6, n6, m6⟩ : ∃ A c B d, gh 6 = .agg #[.slice A 0 c, .slice B 0 d] ∧ 0 ≤ c ∧ 0 ≤ d ∧ NI W A 0 [] ∧ ND W B 0 [] := hS.ok 6 (.cl [] []) rfl (dep_of hdep 6 (by rfl))
      rw [e6] at E20
      have E21 : a.tmps[21]? = some (gh 7) := hval 7 _ 21 rfl rfl (dep_of hdep 7 (by rfl))
      obtain ⟨A7, c7, e7, l7, n7⟩ : ∃ A c, gh 7 = .slice A 2 c ∧ 2 ≤ c ∧ NI W A 2 [0, 0] := hS.ok 7 (.ni [0, 0]) rfl (dep_of hdep 7 (by rfl))
      rw [e7] at E21
      refine g_want rfl rfl rfl EG ?_
      have hc : Calls Try.prog 33 #[.agg #[.slice A6 0 c6, .slice B6 0 d6], .slice A7 2 c7, .slice none 0 0] W (fun e w' => e = .returned (.bool true) ∧ Below W.heap.size W w') := by
        have h := lmakes_calls 0 c6 0 d6 2 c7 0 0 A6 B6 A7 none [] [0, 0] [] [] W n6 m6 n7 (ND.nil _ _) (by decide) (by decide) (by decide) (by decide) (by decide +kernel) (by decide +kernel)
        rw [show (decide ((makeC [0, 0] []).2 = 0) && decide ((makeC [0, 0] []).1 = ([], []))) = true from by decide +kernel] at h
        exact h
      refine does_call 33 #[.agg #[.slice A6 0 c6, .slice B6 0 d6], .slice A7 2 c7, .slice none 0 0] (by go_simp) (hc.mono ?_)
      rintro _ W' ⟨rfl, hb⟩
      exact ⟨_, rfl, _, .inr rfl, hS.step 8 _ (.v (.bool true)) rfl hb rfl⟩
    · have E19 : a.tmps[19]? = some (gh 5) := hval 5 _ 19 rfl rfl (dep_of hdep 5 (by rfl))
      have e5 : gh 5 = .bool true := hS.ok 5 (.v (.bool true)) rfl (dep_of hdep 5 (by rfl))
      rw [e5] at E19
      have E22 : a.tmps[22]? = some (gh 8) := hval 8 _ 22 rfl rfl (dep_of hdep 8 (by rfl))
      have e8 : gh 8 = .bool true := hS.ok 8 (.v (.bool true)) rfl (dep_of hdep 8 (by rfl))
      rw [e8] at E22
      refine g_plain rfl ?_
      exact does_value (w' := W) (v := .bool true) (by go_simp) ⟨_, .inr rfl, hS.same 9 _ (.v (.bool true)) rfl rfl⟩
    · have E23 : a.tmps[23]? = some (gh 9) := hval 9 _ 23 rfl rfl (dep_of hdep 9 (by rfl))
      have e9 : gh 9 = .bool true := hS.ok 9 (.v (.bool true)) rfl (dep_of hdep 9 (by rfl))
      rw [e9] at E23
      refine g_plain rfl ?_
      exact does_value (w' := W) (v := .bool true) (by go_simp) ⟨_, .inr rfl, hS.same 10 _ (.v (.bool true)) rfl rfl⟩
    · have EG : a.tmps[24]? = some (.bool true) := (hval 10 _ 24 rfl rfl (dep_of hdep 10 (by rfl))).trans (congrArg some (hS.ok 10 (.v (.bool true)) rfl (dep_of hdep 10 (by rfl))))
      have E1 : a.tmps[1]? = some (.pointer (some ⟨g1, 0, none⟩)) := (same_of hsame 1 (by rfl)).trans rfl
      refine g_want rfl rfl rfl EG ?_
      exact does_load_cloud _ rfl _ rfl (by rw [eval_getD, E1]; rfl) (K1.out.keep hS.bel) ⟨_, .inr rfl, hS.same 11 _ (.cl [2] [(1, 4)]) rfl ⟨_, _, _, _, rfl, (Nat.le_refl _), (Nat.le_refl _), F10.out.keep hS.bel, F12.out.keep hS.bel⟩⟩
    · have EG : a.tmps[24]? = some (.bool true) := (hval 10 _ 24 rfl rfl (dep_of hdep 10 (by rfl))).trans (congrArg some (hS.ok 10 (.v (.bool true)) rfl (dep_of hdep 10 (by rfl))))
      refine g_want rfl rfl rfl EG ?_
      have hc : Calls Try.prog 32 #[.int .i64 1, .int .i64 3] W (fun e w' => e = .returned (.agg #[.int .i64 1, .int .i64 3]) ∧ Below W.heap.size W w') := by
        have h := lat_calls 1 3 W
        exact h
      refine does_call 32 #[.int .i64 1, .int .i64 3] (by go_simp) (hc.mono ?_)
      rintro _ W' ⟨rfl, hb⟩
      exact ⟨_, rfl, _, .inr rfl, hS.step 12 _ (.v (.agg #[.int .i64 1, .int .i64 3])) rfl hb rfl⟩
    · have EG : a.tmps[24]? = some (.bool true) := (hval 10 _ 24 rfl rfl (dep_of hdep 10 (by rfl))).trans (congrArg some (hS.ok 10 (.v (.bool true)) rfl (dep_of hdep 10 (by rfl))))
      have E25 : a.tmps[25]? = some (gh 11) := hval 11 _ 25 rfl rfl (dep_of hdep 11 (by rfl))
      obtain ⟨A11, c11, B11, d11, e11, l11, k11, n11, m11⟩ : ∃ A c B d, gh 11 = .agg #[.slice A 1 c, .slice B 1 d] ∧ 1 ≤ c ∧ 1 ≤ d ∧ NI W A 1 [2] ∧ ND W B 1 [(1, 4)] := hS.ok 11 (.cl [2] [(1, 4)]) rfl (dep_of hdep 11 (by rfl))
      rw [e11] at E25
      have E26 : a.tmps[26]? = some (gh 12) := hval 12 _ 26 rfl rfl (dep_of hdep 12 (by rfl))
      have e12 : gh 12 = .agg #[.int .i64 1, .int .i64 3] := hS.ok 12 (.v (.agg #[.int .i64 1, .int .i64 3])) rfl (dep_of hdep 12 (by rfl))
      rw [e12] at E26
      refine g_want rfl rfl rfl EG ?_
      have hc : Calls Try.prog 20 #[.agg #[.slice A11 1 c11, .slice B11 1 d11], .agg #[.int .i64 1, .int .i64 3]] W (fun e w' => e = .returned (.bool false) ∧ Below W.heap.size W w') := by
        have h := ocHas_calls 1 c11 1 d11 A11 B11 [2] [(1, 4)] (1, 3) W n11 m11 (by decide) (by decide) l11
        rw [show hasB ([2], [(1, 4)]) (1, 3) = false from by decide +kernel] at h
        exact h
      refine does_call 20 #[.agg #[.slice A11 1 c11, .slice B11 1 d11], .agg #[.int .i64 1, .int .i64 3]] (by go_simp) (hc.mono ?_)
      rintro _ W' ⟨rfl, hb⟩
      exact ⟨_, rfl, _, .inr rfl, hS.step 13 _ (.v (.bool false)) rfl hb rfl⟩
    · have EG : a.tmps[24]? = some (.bool true) := (hval 10 _ 24 rfl rfl (dep_of hdep 10 (by rfl))).trans (congrArg some (hS.ok 10 (.v (.bool true)) rfl (dep_of hdep 10 (by rfl))))
      have E27 : a.tmps[27]? = some (gh 13) := hval 13 _ 27 rfl rfl (dep_of hdep 13 (by rfl))
      have e13 : gh 13 = .bool false := hS.ok 13 (.v (.bool false)) rfl (dep_of hdep 13 (by rfl))
      rw [e13] at E27
      refine g_want rfl rfl rfl EG ?_
      exact does_value (w' := W) (v := .bool true) (by go_simp) ⟨_, .inr rfl, hS.same 14 _ (.v (.bool true)) rfl rfl⟩
    · have E24 : a.tmps[24]? = some (gh 10) := hval 10 _ 24 rfl rfl (dep_of hdep 10 (by rfl))
      have e10 : gh 10 = .bool true := hS.ok 10 (.v (.bool true)) rfl (dep_of hdep 10 (by rfl))
      rw [e10] at E24
      have E28 : a.tmps[28]? = some (gh 14) := hval 14 _ 28 rfl rfl (dep_of hdep 14 (by rfl))
      have e14 : gh 14 = .bool true := hS.ok 14 (.v (.bool true)) rfl (dep_of hdep 14 (by rfl))
      rw [e14] at E28
      refine g_plain rfl ?_
      exact does_value (w' := W) (v := .bool true) (by go_simp) ⟨_, .inr rfl, hS.same 15 _ (.v (.bool true)) rfl rfl⟩
    · have E29 : a.tmps[29]? = some (gh 15) := hval 15 _ 29 rfl rfl (dep_of hdep 15 (by rfl))
      have e15 : gh 15 = .bool true := hS.ok 15 (.v (.bool true)) rfl (dep_of hdep 15 (by rfl))
      rw [e15] at E29
      refine g_plain rfl ?_
      exact does_value (w' := W) (v := .bool true) (by go_simp) ⟨_, .inr rfl, hS.same 16 _ (.v (.bool true)) rfl rfl⟩
    · have EG : a.tmps[30]? = some (.bool true) := (hval 16 _ 30 rfl rfl (dep_of hdep 16 (by rfl))).trans (congrArg some (hS.ok 16 (.v (.bool true)) rfl (dep_of hdep 16 (by rfl))))
      refine g_want rfl rfl rfl EG ?_
      exact does_value (w' := (W.alloc (.cells #[.int .i64 1] 3))) (v := .slice (some ⟨W.heap.size, 0, none⟩) 1 1) (by go_simp) ⟨_, .inr rfl, hS.step 17 _ (.ni [1]) rfl (below_new _ _) ⟨_, _, rfl, Nat.le_refl _, lit_ni [1] _ rfl⟩⟩
    · have EG : a.tmps[30]? = some (.bool true) := (hval 16 _ 30 rfl rfl (dep_of hdep 16 (by rfl))).trans (congrArg some (hS.ok 16 (.v (.bool true)) rfl (dep_of hdep 16 (by rfl))))
      refine g_want rfl rfl rfl EG ?_
      have hc : Calls Try.prog 32 #[.int .i64 1, .int .i64 3] W (fun e w' => e = .returned (.agg #[.int .i64 1, .int .i64 3]) ∧ Below W.heap.size W w') := by
        have h := lat_calls 1 3 W
        exact h
      refine does_call 32 #[.int .i64 1, .int .i64 3] (by go_simp) (hc.mono ?_)
      rintro _ W' ⟨rfl, hb⟩
      exact ⟨_, rfl, _, .inr rfl, hS.step 18 _ (.v (.agg #[.int .i64 1, .int .i64 3])) rfl hb rfl⟩
    · have EG : a.tmps[30]? = some (.bool true) := (hval 16 _ 30 rfl rfl (dep_of hdep 16 (by rfl))).trans (congrArg some (hS.ok 16 (.v (.bool true)) rfl (dep_of hdep 16 (by rfl))))
      have E32 : a.tmps[32]? = some (gh 18) := hval 18 _ 32 rfl rfl (dep_of hdep 18 (by rfl))
      have e18 : gh 18 = .agg #[.int .i64 1, .int .i64 3] := hS.ok 18 (.v (.agg #[.int .i64 1, .int .i64 3])) rfl (dep_of hdep 18 (by rfl))
      rw [e18] at E32
      refine g_want rfl rfl rfl EG ?_
      exact does_value (w' := (W.alloc (.cells #[.int .i64 1, .int .i64 3] 27))) (v := .slice (some ⟨W.heap.size, 0, none⟩) 1 1) (by go_simp) ⟨_, .inr rfl, hS.step 19 _ (.nd [(1, 3)]) rfl (below_new _ _) ⟨_, _, rfl, Nat.le_refl _, lit_nd [(1, 3)] _ rfl (by decide)⟩⟩
    · have EG : a.tmps[30]? = some (.bool true) := (hval 16 _ 30 rfl rfl (dep_of hdep 16 (by rfl))).trans (congrArg some (hS.ok 16 (.v (.bool true)) rfl (dep_of hdep 16 (by rfl))))
      have E31 : a.tmps[31]? = some (gh 17) := hval 17 _ 31 rfl rfl (dep_of hdep 17 (by rfl))
      obtain ⟨A17, c17, e17, l17, n17⟩ : ∃ A c, gh 17 = .slice A 1 c ∧ 1 ≤ c ∧ NI W A 1 [1] := hS.ok 17 (.ni [1]) rfl (dep_of hdep 17 (by rfl))
      rw [e17] at E31
      have E33 : a.tmps[33]? = some (gh 19) := hval 19 _ 33 rfl rfl (dep_of hdep 19 (by rfl))
      obtain ⟨A19, c19, e19, l19, n19⟩ : ∃ A c, gh 19 = .slice A 1 c ∧ 1 ≤ c ∧ ND W A 1 [(1, 3)] := hS.ok 19 (.nd [(1, 3)]) rfl (dep_of hdep 19 (by rfl))
      rw [e19] at E33
      refine g_want rfl rfl rfl EG ?_
      have hc : Calls Try.prog 31 #[.slice A17 1 c17, .slice A19 1 c19] W (fun e w' => e = .returned (.agg #[.slice A17 1 c17, .slice A19 1 c19]) ∧ Below W.heap.size W w') := by
        have h := lof_calls A17 A19 1 c17 1 c19 W
        exact h
      refine does_call 31 #[.slice A17 1 c17, .slice A19 1 c19] (by go_simp) (hc.mono ?_)
      rintro _ W' ⟨rfl, hb⟩
      exact ⟨_, rfl, _, .inr rfl, hS.step 20 _ (.cl [1] [(1, 3)]) rfl hb ⟨_, _, _, _, rfl, l17, l19, n17.keep hb, n19.keep hb⟩⟩
    · have EG : a.tmps[30]? = some (.bool true) := (hval 16 _ 30 rfl rfl (dep_of hdep 16 (by rfl))).trans (congrArg some (hS.ok 16 (.v (.bool true)) rfl (dep_of hdep 16 (by rfl))))
      refine g_want rfl rfl rfl EG ?_
      exact does_value (w' := (W.alloc (.cells #[.int .i64 3] 3))) (v := .slice (some ⟨W.heap.size, 0, none⟩) 1 1) (by go_simp) ⟨_, .inr rfl, hS.step 21 _ (.ni [3]) rfl (below_new _ _) ⟨_, _, rfl, Nat.le_refl _, lit_ni [3] _ rfl⟩⟩
    · have EG : a.tmps[30]? = some (.bool true) := (hval 16 _ 30 rfl rfl (dep_of hdep 16 (by rfl))).trans (congrArg some (hS.ok 16 (.v (.bool true)) rfl (dep_of hdep 16 (by rfl))))
      have E35 : a.tmps[35]? = some (gh 21) := hval 21 _ 35 rfl rfl (dep_of hdep 21 (by rfl))
      obtain ⟨A21, c21, e21, l21, n21⟩ : ∃ A c, gh 21 = .slice A 1 c ∧ 1 ≤ c ∧ NI W A 1 [3] := hS.ok 21 (.ni [3]) rfl (dep_of hdep 21 (by rfl))
      rw [e21] at E35
      refine g_want rfl rfl rfl EG ?_
      have hc : Calls Try.prog 31 #[.slice A21 1 c21, .slice none 0 0] W (fun e w' => e = .returned (.agg #[.slice A21 1 c21, .slice none 0 0]) ∧ Below W.heap.size W w') := by
        have h := lof_calls A21 none 1 c21 0 0 W
        exact h
      refine does_call 31 #[.slice A21 1 c21, .slice none 0 0] (by go_simp) (hc.mono ?_)
      rintro _ W' ⟨rfl, hb⟩
      exact ⟨_, rfl, _, .inr rfl, hS.step 22 _ (.cl [3] []) rfl hb ⟨_, _, _, _, rfl, l21, (Nat.le_refl _), n21.keep hb, (ND.nil _ _).keep hb⟩⟩
    · have EG : a.tmps[30]? = some (.bool true) := (hval 16 _ 30 rfl rfl (dep_of hdep 16 (by rfl))).trans (congrArg some (hS.ok 16 (.v (.bool true)) rfl (dep_of hdep 16 (by rfl))))
      have E34 : a.tmps[34]? = some (gh 20) := hval 20 _ 34 rfl rfl (dep_of hdep 20 (by rfl))
      obtain ⟨A20, c20, B20, d20, e20, l20, k20, n20, m20⟩ : ∃ A c B d, gh 20 = .agg #[.slice A 1 c, .slice B 1 d] ∧ 1 ≤ c ∧ 1 ≤ d ∧ NI W A 1 [1] ∧ ND W B 1 [(1, 3)] := hS.ok 20 (.cl [1] [(1, 3)]) rfl (dep_of hdep 20 (by rfl))
      rw [e20] at E34
      have E36 : a.tmps[36]? = some (gh 22) := hval 22 _ 36 rfl rfl (dep_of hdep 22 (by rfl))
      obtain ⟨A22, c22, B22, d22, e22, l22, k22, n22, m22⟩ : ∃ A c B d, gh 22 = .agg #[.slice A 1 c, .slice B 0 d] ∧ 1 ≤ c ∧ 0 ≤ d ∧ NI W A 1 [3] ∧ ND W B 0 [] := hS.ok 22 (.cl [3] []) rfl (dep_of hdep 22 (by rfl))
      rw [e22] at E36
      refine g_want rfl rfl rfl EG ?_
      have hc : Calls Try.prog 34 #[.agg #[.slice A20 1 c20, .slice B20 1 d20], .agg #[.slice A22 1 c22, .slice B22 0 d22], .bool true] W (fun e w' => e = .returned (.bool true) ∧ Below W.heap.size W w') := by
        have h := lleq_calls 1 c20 1 d20 1 c22 0 d22 A20 B20 A22 B22 [1] [3] [(1, 3)] [] true W n20 m20 n22 m22 (by decide) (by decide) (by decide) l20 l22 k20 k22
        rw [show (decide ((leqB ([1], [(1, 3)]) ([3], [])).2 = 0) && ((leqB ([1], [(1, 3)]) ([3], [])).1 == true)) = true from by decide +kernel] at h
        exact h
      refine does_call 34 #[.agg #[.slice A20 1 c20, .slice B20 1 d20], .agg #[.slice A22 1 c22, .slice B22 0 d22], .bool true] (by go_simp) (hc.mono ?_)
      rintro _ W' ⟨rfl, hb⟩
      exact ⟨_, rfl, _, .inr rfl, hS.step 23 _ (.v (.bool true)) rfl hb rfl⟩
    · have E30 : a.tmps[30]? = some (gh 16) := hval 16 _ 30 rfl rfl (dep_of hdep 16 (by rfl))
      have e16 : gh 16 = .bool true := hS.ok 16 (.v (.bool true)) rfl (dep_of hdep 16 (by rfl))
      rw [e16] at E30
      have E37 : a.tmps[37]? = some (gh 23) := hval 23 _ 37 rfl rfl (dep_of hdep 23 (by rfl))
      have e23 : gh 23 = .bool true := hS.ok 23 (.v (.bool true)) rfl (dep_of hdep 23 (by rfl))
      rw [e23] at E37
      refine g_plain rfl ?_
      exact does_value (w' := W) (v := .bool true) (by go_simp) ⟨_, .inr rfl, hS.same 24 _ (.v (.bool true)) rfl rfl⟩
    · have E38 : a.tmps[38]? = some (gh 24) := hval 24 _ 38 rfl rfl (dep_of hdep 24 (by rfl))
      have e24 : gh 24 = .bool true := hS.ok 24 (.v (.bool true)) rfl (dep_of hdep 24 (by rfl))
      rw [e24] at E38
      refine g_plain rfl ?_
      exact does_value (w' := W) (v := .bool true) (by go_simp) ⟨_, .inr rfl, hS.same 25 _ (.v (.bool true)) rfl rfl⟩
    · have EG : a.tmps[39]? = some (.bool true) := (hval 25 _ 39 rfl rfl (dep_of hdep 25 (by rfl))).trans (congrArg some (hS.ok 25 (.v (.bool true)) rfl (dep_of hdep 25 (by rfl))))
      refine g_want rfl rfl rfl EG ?_
      exact does_value (w' := (W.alloc (.cells #[.int .i64 3] 3))) (v := .slice (some ⟨W.heap.size, 0, none⟩) 1 1) (by go_simp) ⟨_, .inr rfl, hS.step 26 _ (.ni [3]) rfl (below_new _ _) ⟨_, _, rfl, Nat.le_refl _, lit_ni [3] _ rfl⟩⟩
    · have EG : a.tmps[39]? = some (.bool true) := (hval 25 _ 39 rfl rfl (dep_of hdep 25 (by rfl))).trans (congrArg some (hS.ok 25 (.v (.bool true)) rfl (dep_of hdep 25 (by rfl))))
      have E40 : a.tmps[40]? = some (gh 26) := hval 26 _ 40 rfl rfl (dep_of hdep 26 (by rfl))
      obtain ⟨A26, c26, e26, l26, n26⟩ : ∃ A c, gh 26 = .slice A 1 c ∧ 1 ≤ c ∧ NI W A 1 [3] := hS.ok 26 (.ni [3]) rfl (dep_of hdep 26 (by rfl))
      rw [e26] at E40
      refine g_want rfl rfl rfl EG ?_
      have hc : Calls Try.prog 31 #[.slice A26 1 c26, .slice none 0 0] W (fun e w' => e = .returned (.agg #[.slice A26 1 c26, .slice none 0 0]) ∧ Below W.heap.size W w') := by
        have h := lof_calls A26 none 1 c26 0 0 W
        exact h
      refine does_call 31 #[.slice A26 1 c26, .slice none 0 0] (by go_simp) (hc.mono ?_)
      rintro _ W' ⟨rfl, hb⟩
      exact ⟨_, rfl, _, .inr rfl, hS.step 27 _ (.cl [3] []) rfl hb ⟨_, _, _, _, rfl, l26, (Nat.le_refl _), n26.keep hb, (ND.nil _ _).keep hb⟩⟩
    · have EG : a.tmps[39]? = some (.bool true) := (hval 25 _ 39 rfl rfl (dep_of hdep 25 (by rfl))).trans (congrArg some (hS.ok 25 (.v (.bool true)) rfl (dep_of hdep 25 (by rfl))))
      refine g_want rfl rfl rfl EG ?_
      exact does_value (w' := (W.alloc (.cells #[.int .i64 1] 3))) (v := .slice (some ⟨W.heap.size, 0, none⟩) 1 1) (by go_simp) ⟨_, .inr rfl, hS.step 28 _ (.ni [1]) rfl (below_new _ _) ⟨_, _, rfl, Nat.le_refl _, lit_ni [1] _ rfl⟩⟩
    · have EG : a.tmps[39]? = some (.bool true) := (hval 25 _ 39 rfl rfl (dep_of hdep 25 (by rfl))).trans (congrArg some (hS.ok 25 (.v (.bool true)) rfl (dep_of hdep 25 (by rfl))))
      refine g_want rfl rfl rfl EG ?_
      have hc : Calls Try.prog 32 #[.int .i64 1, .int .i64 3] W (fun e w' => e = .returned (.agg #[.int .i64 1, .int .i64 3]) ∧ Below W.heap.size W w') := by
        have h := lat_calls 1 3 W
        exact h
      refine does_call 32 #[.int .i64 1, .int .i64 3] (by go_simp) (hc.mono ?_)
      rintro _ W' ⟨rfl, hb⟩
      exact ⟨_, rfl, _, .inr rfl, hS.step 29 _ (.v (.agg #[.int .i64 1, .int .i64 3])) rfl hb rfl⟩
    · have EG : a.tmps[39]? = some (.bool true) := (hval 25 _ 39 rfl rfl (dep_of hdep 25 (by rfl))).trans (congrArg some (hS.ok 25 (.v (.bool true)) rfl (dep_of hdep 25 (by rfl))))
      have E43 : a.tmps[43]? = some (gh 29) := hval 29 _ 43 rfl rfl (dep_of hdep 29 (by rfl))
      have e29 : gh 29 = .agg #[.int .i64 1, .int .i64 3] := hS.ok 29 (.v (.agg #[.int .i64 1, .int .i64 3])) rfl (dep_of hdep 29 (by rfl))
      rw [e29] at E43
      refine g_want rfl rfl rfl EG ?_
      exact does_value (w' := (W.alloc (.cells #[.int .i64 1, .int .i64 3] 27))) (v := .slice (some ⟨W.heap.size, 0, none⟩) 1 1) (by go_simp) ⟨_, .inr rfl, hS.step 30 _ (.nd [(1, 3)]) rfl (below_new _ _) ⟨_, _, rfl, Nat.le_refl _, lit_nd [(1, 3)] _ rfl (by decide)⟩⟩
    · have EG : a.tmps[39]? = some (.bool true) := (hval 25 _ 39 rfl rfl (dep_of hdep 25 (by rfl))).trans (congrArg some (hS.ok 25 (.v (.bool true)) rfl (dep_of hdep 25 (by rfl))))
      have E42 : a.tmps[42]? = some (gh 28) := hval 28 _ 42 rfl rfl (dep_of hdep 28 (by rfl))
      obtain ⟨A28, c28, e28, l28, n28⟩ : ∃ A c, gh 28 = .slice A 1 c ∧ 1 ≤ c ∧ NI W A 1 [1] := hS.ok 28 (.ni [1]) rfl (dep_of hdep 28 (by rfl))
      rw [e28] at E42
      have E44 : a.tmps[44]? = some (gh 30) := hval 30 _ 44 rfl rfl (dep_of hdep 30 (by rfl))
      obtain ⟨A30, c30, e30, l30, n30⟩ : ∃ A c, gh 30 = .slice A 1 c ∧ 1 ≤ c ∧ ND W A 1 [(1, 3)] := hS.ok 30 (.nd [(1, 3)]) rfl (dep_of hdep 30 (by rfl))
      rw [e30] at E44
      refine g_want rfl rfl rfl EG ?_
      have hc : Calls Try.prog 31 #[.slice A28 1 c28, .slice A30 1 c30] W (fun e w' => e = .returned (.agg #[.slice A28 1 c28, .slice A30 1 c30]) ∧ Below W.heap.size W w') := by
        have h := lof_calls A28 A30 1 c28 1 c30 W
        exact h
      refine does_call 31 #[.slice A28 1 c28, .slice A30 1 c30] (by go_simp) (hc.mono ?_)
      rintro _ W' ⟨rfl, hb⟩
      exact ⟨_, rfl, _, .inr rfl, hS.step 31 _ (.cl [1] [(1, 3)]) rfl hb ⟨_, _, _, _, rfl, l28, l30, n28.keep hb, n30.keep hb⟩⟩
    · have EG : a.tmps[39]? = some (.bool true) := (hval 25 _ 39 rfl rfl (dep_of hdep 25 (by rfl))).trans (congrArg some (hS.ok 25 (.v (.bool true)) rfl (dep_of hdep 25 (by rfl))))
      have E41 : a.tmps[41]? = some (gh 27) := hval 27 _ 41 rfl rfl (dep_of hdep 27 (by rfl))
      obtain ⟨A27, c27, B27, d27, e27, l27, k27, n27, m27⟩ : ∃ A c B d, gh 27 = .agg #[.slice A 1 c, .slice B 0 d] ∧ 1 ≤ c ∧ 0 ≤ d ∧ NI W A 1 [3] ∧ ND W B 0 [] := hS.ok 27 (.cl [3] []) rfl (dep_of hdep 27 (by rfl))
      rw [e27] at E41
      have E45 : a.tmps[45]? = some (gh 31) := hval 31 _ 45 rfl rfl (dep_of hdep 31 (by rfl))
      obtain ⟨A31, c31, B31, d31, e31, l31, k31, n31, m31⟩ : ∃ A c B d, gh 31 = .agg #[.slice A 1 c, .slice B 1 d] ∧ 1 ≤ c ∧ 1 ≤ d ∧ NI W A 1 [1] ∧ ND W B 1 [(1, 3)] := hS.ok 31 (.cl [1] [(1, 3)]) rfl (dep_of hdep 31 (by rfl))
      rw [e31] at E45
      refine g_want rfl rfl rfl EG ?_
      have hc : Calls Try.prog 34 #[.agg #[.slice A27 1 c27, .slice B27 0 d27], .agg #[.slice A31 1 c31, .slice B31 1 d31], .bool false] W (fun e w' => e = .returned (.bool true) ∧ Below W.heap.size W w') := by
        have h := lleq_calls 1 c27 0 d27 1 c31 1 d31 A27 B27 A31 B31 [3] [1] [] [(1, 3)] false W n27 m27 n31 m31 (by decide) (by decide) (by decide) l27 l31 k27 k31
        rw [show (decide ((leqB ([3], []) ([1], [(1, 3)])).2 = 0) && ((leqB ([3], []) ([1], [(1, 3)])).1 == false)) = true from by decide +kernel] at h
        exact h
      refine does_call 34 #[.agg #[.slice A27 1 c27, .slice B27 0 d27], .agg #[.slice A31 1 c31, .slice B31 1 d31], .bool false] (by go_simp) (hc.mono ?_)
      rintro _ W' ⟨rfl, hb⟩
      exact ⟨_, rfl, _, .inr rfl, hS.step 32 _ (.v (.bool true)) rfl hb rfl⟩
    · have E39 : a.tmps[39]? = some (gh 25) := hval 25 _ 39 rfl rfl (dep_of hdep 25 (by rfl))
      have e25 : gh 25 = .bool true := hS.ok 25 (.v (.bool true)) rfl (dep_of hdep 25 (by rfl))
      rw [e25] at E39
      have E46 : a.tmps[46]? = some (gh 32) := hval 32 _ 46 rfl rfl (dep_of hdep 32 (by rfl))
      have e32 : gh 32 = .bool true := hS.ok 32 (.v (.bool true)) rfl (dep_of hdep 32 (by rfl))
      rw [e32] at E46
      refine g_plain rfl ?_
      exact does_value (w' := W) (v := .bool true) (by go_simp) ⟨_, .inr rfl, hS.same 33 _ (.v (.bool true)) rfl rfl⟩
    · have E47 : a.tmps[47]? = some (gh 33) := hval 33 _ 47 rfl rfl (dep_of hdep 33 (by rfl))
      have e33 : gh 33 = .bool true := hS.ok 33 (.v (.bool true)) rfl (dep_of hdep 33 (by rfl))
      rw [e33] at E47
      refine g_plain rfl ?_
      exact does_value (w' := W) (v := .bool true) (by go_simp) ⟨_, .inr rfl, hS.same 34 _ (.v (.bool true)) rfl rfl⟩
  intro gh W6 hS
  have hb := hS.bel
  have e34 : gh 34 = .bool true := hS.ok 34 (.v (.bool true)) rfl rfl
  clear hS
  replace F10 := hid (F10.out.keep hb)
  replace F12 := hid (F12.out.keep hb)
  replace K1 := hid (K1.out.keep hb)
  replace HB := hid (HB.out.trans (hb.mono HB.out.size))
  clear hb
  simp only [putAll, vRp, Nat.reduceAdd, Nat.zero_add, Act.put, List.setIfInBounds_toArray, List.set_cons_zero, List.set_cons_succ]
  rw [e34]
  clear e34
  have hc : Calls Try.prog 15 #[.agg #[.slice (some ⟨W0.heap.size, 0, none⟩) 1 1, .slice (some ⟨W2.heap.size, 0, none⟩) 1 1], .int .i64 1] W6 (fun e w' => e = .returned (.tuple #[.agg #[.int .i64 1, .int .i64 5], .int .i64 0]) ∧ Below W6.heap.size W6 w') := by
    have h := ocNext_calls 1 1 1 1 (some ⟨W0.heap.size, 0, none⟩) (some ⟨W2.heap.size, 0, none⟩) [2] [(1, 4)] 1 W6 F10.out F12.out (by decide) (by decide) (Nat.le_refl _)
    rw [show nextC ([2], [(1, 4)]) 1 = ((1, 5), 0) from by decide +kernel] at h
    exact h
  have HC := hid hc
  clear hc
  have q0K1 := K1.out.cell 0 rfl
  have q1K1 := K1.out.cell 1 rfl
  go_wp2_with fail
  clear q0K1 q1K1
  refine HC.out.mono ?_
  rintro e W7 ⟨rfl, hb⟩
  clear HC
  replace F10 := hid (F10.out.keep hb)
  replace F12 := hid (F12.out.keep hb)
  replace K1 := hid (K1.out.keep hb)
  replace HB := hid (HB.out.trans (hb.mono HB.out.size))
  clear hb
  have hk3 := Blk.new W7 27 #[.int .i64 0, .int .i64 0]
  have HK3 := hid hk3
  have HK4 := hid (hk3.setRow #[.int .i64 1, .int .i64 5])
  have HB4 := hid (show Below W7.heap.size W7 ((W7.alloc (.cells #[.int .i64 0, .int .i64 0] 27)).setRow W7.heap.size #[.int .i64 1, .int .i64 5]) from (below_new _ _).trans (below_of_grown (grown_setRow _ _ _) (by rw [size_new]; omega) (fun g e => by cases e; exact Nat.le_refl _)))
  clear hk3
  have q0K1 := K1.out.cell 0 rfl
  have q1K1 := K1.out.cell 1 rfl
  go_wp2_with (refine wpList_store_blk rfl _ _ _ rfl W7.heap.size #[.int .i64 1, .int .i64 5] rfl rfl _ _ HK3.out (by kernel_rfl) rfl (by rfl) ?_; refine Held.go ?_)
  unfold Held
  clear q0K1 q1K1
  obtain ⟨W8, hW4⟩ : ∃ WX, WX = (W7.alloc (.cells #[.int .i64 0, .int .i64 0] 27)).setRow W7.heap.size #[.int .i64 1, .int .i64 5] := ⟨_, rfl⟩
  rw [← hW4] at HK4 HB4 ⊢
  clear hW4 HK3
  obtain ⟨g3, hg⟩ : ∃ g, W7.heap.size = g := ⟨_, rfl⟩
  rw [hg] at HK4 ⊢
  clear hg
  have hb := HB4.out
  clear HB4
  replace F10 := hid (F10.out.keep hb)
  replace F12 := hid (F12.out.keep hb)
  replace K1 := hid (K1.out.keep hb)
  replace HB := hid (HB.out.trans (hb.mono HB.out.size))
  clear hb
  have K3 := HK4
  clear HK4
  have hc : Calls Try.prog 15 #[.agg #[.slice (some ⟨W0.heap.size, 0, none⟩) 1 1, .slice (some ⟨W2.heap.size, 0, none⟩) 1 1], .int .i64 2] W8 (fun e w' => e = .returned (.tuple #[.agg #[.int .i64 2, .int .i64 1], .int .i64 0]) ∧ Below W8.heap.size W8 w') := by
    have h := ocNext_calls 1 1 1 1 (some ⟨W0.heap.size, 0, none⟩) (some ⟨W2.heap.size, 0, none⟩) [2] [(1, 4)] 2 W8 F10.out F12.out (by decide) (by decide) (Nat.le_refl _)
    rw [show nextC ([2], [(1, 4)]) 2 = ((2, 1), 0) from by decide +kernel] at h
    exact h
  have HC := hid hc
  clear hc
  have q0K1 := K1.out.cell 0 rfl
  have q1K1 := K1.out.cell 1 rfl
  have q0K3 := K3.out.cell 0 rfl
  have q1K3 := K3.out.cell 1 rfl
  go_wp2_with fail
  clear q0K1 q1K1 q0K3 q1K3
  refine HC.out.mono ?_
  rintro e W9 ⟨rfl, hb⟩
  clear HC
  replace F10 := hid (F10.out.keep hb)
  replace F12 := hid (F12.out.keep hb)
  replace K1 := hid (K1.out.keep hb)
  replace K3 := hid (K3.out.keep hb)
  replace HB := hid (HB.out.trans (hb.mono HB.out.size))
  clear hb
  have hk3 := Blk.new W9 27 #[.int .i64 0, .int .i64 0]
  have HK3 := hid hk3
  have HK4 := hid (hk3.setRow #[.int .i64 2, .int .i64 1])
  have HB4 := hid (show Below W9.heap.size W9 ((W9.alloc (.cells #[.int .i64 0, .int .i64 0] 27)).setRow W9.heap.size #[.int .i64 2, .int .i64 1]) from (below_new _ _).trans (below_of_grown (grown_setRow _ _ _) (by rw [size_new]; omega) (fun g e => by cases e; exact Nat.le_refl _)))
  clear hk3
  have q0K1 := K1.out.cell 0 rfl
  have q1K1 := K1.out.cell 1 rfl
  have q0K3 := K3.out.cell 0 rfl
  have q1K3 := K3.out.cell 1 rfl
  go_wp2_with (refine wpList_store_blk rfl _ _ _ rfl W9.heap.size #[.int .i64 2, .int .i64 1] rfl rfl _ _ HK3.out (by kernel_rfl) rfl (by rfl) ?_; refine Held.go ?_)
  unfold Held
  clear q0K1 q1K1 q0K3 q1K3
  obtain ⟨W10, hW4⟩ : ∃ WX, WX = (W9.alloc (.cells #[.int .i64 0, .int .i64 0] 27)).setRow W9.heap.size #[.int .i64 2, .int .i64 1] := ⟨_, rfl⟩
  rw [← hW4] at HK4 HB4 ⊢
  clear hW4 HK3
  obtain ⟨g5, hg⟩ : ∃ g, W9.heap.size = g := ⟨_, rfl⟩
  rw [hg] at HK4 ⊢
  clear hg
  have hb := HB4.out
  clear HB4
  replace F10 := hid (F10.out.keep hb)
  replace F12 := hid (F12.out.keep hb)
  replace K1 := hid (K1.out.keep hb)
  replace K3 := hid (K3.out.keep hb)
  replace HB := hid (HB.out.trans (hb.mono HB.out.size))
  clear hb
  have K5 := HK4
  clear HK4
  have hc : Calls Try.prog 31 #[.slice none 0 0, .slice none 0 0] W10 (fun e w' => e = .returned (.agg #[.slice none 0 0, .slice none 0 0]) ∧ Below W10.heap.size W10 w') := by
    have h := lof_calls none none 0 0 0 0 W10
    exact h
  have HC := hid hc
  clear hc
  have q0K1 := K1.out.cell 0 rfl
  have q1K1 := K1.out.cell 1 rfl
  have q0K3 := K3.out.cell 0 rfl
  have q1K3 := K3.out.cell 1 rfl
  have q0K5 := K5.out.cell 0 rfl
  have q1K5 := K5.out.cell 1 rfl
  go_wp2_with fail
  clear q0K1 q1K1 q0K3 q1K3 q0K5 q1K5
  refine HC.out.mono ?_
  rintro e W11 ⟨rfl, hb⟩
  clear HC
  replace F10 := hid (F10.out.keep hb)
  replace F12 := hid (F12.out.keep hb)
  replace K1 := hid (K1.out.keep hb)
  replace K3 := hid (K3.out.keep hb)
  replace K5 := hid (K5.out.keep hb)
  replace HB := hid (HB.out.trans (hb.mono HB.out.size))
  clear hb
  have hc : Calls Try.prog 15 #[.agg #[.slice none 0 0, .slice none 0 0], .int .i64 17] W11 (fun e w' => e = .returned (.tuple #[.agg #[.int .i64 0, .int .i64 0], .int .i64 3]) ∧ Below W11.heap.size W11 w') := by
    have h := ocNext_calls 0 0 0 0 none none [] [] 17 W11 (NI.nil _ _) (ND.nil _ _) (by decide) (by decide) (Nat.le_refl _)
    rw [show nextC ([], []) 17 = ((0, 0), 3) from by decide +kernel] at h
    exact h
  have HC := hid hc
  clear hc
  have q0K1 := K1.out.cell 0 rfl
  have q1K1 := K1.out.cell 1 rfl
  have q0K3 := K3.out.cell 0 rfl
  have q1K3 := K3.out.cell 1 rfl
  have q0K5 := K5.out.cell 0 rfl
  have q1K5 := K5.out.cell 1 rfl
  go_wp2_with fail
  clear q0K1 q1K1 q0K3 q1K3 q0K5 q1K5
  refine HC.out.mono ?_
  rintro e W12 ⟨rfl, hb⟩
  clear HC
  replace F10 := hid (F10.out.keep hb)
  replace F12 := hid (F12.out.keep hb)
  replace K1 := hid (K1.out.keep hb)
  replace K3 := hid (K3.out.keep hb)
  replace K5 := hid (K5.out.keep hb)
  replace HB := hid (HB.out.trans (hb.mono HB.out.size))
  clear hb
  have hk3 := Blk.new W12 27 #[.int .i64 0, .int .i64 0]
  have HK3 := hid hk3
  have HK4 := hid (hk3.setRow #[.int .i64 0, .int .i64 0])
  have HB4 := hid (show Below W12.heap.size W12 ((W12.alloc (.cells #[.int .i64 0, .int .i64 0] 27)).setRow W12.heap.size #[.int .i64 0, .int .i64 0]) from (below_new _ _).trans (below_of_grown (grown_setRow _ _ _) (by rw [size_new]; omega) (fun g e => by cases e; exact Nat.le_refl _)))
  clear hk3
  have q0K1 := K1.out.cell 0 rfl
  have q1K1 := K1.out.cell 1 rfl
  have q0K3 := K3.out.cell 0 rfl
  have q1K3 := K3.out.cell 1 rfl
  have q0K5 := K5.out.cell 0 rfl
  have q1K5 := K5.out.cell 1 rfl
  go_wp2_with (refine wpList_store_blk rfl _ _ _ rfl W12.heap.size #[.int .i64 0, .int .i64 0] rfl rfl _ _ HK3.out (by kernel_rfl) rfl (by rfl) ?_; refine Held.go ?_)
  unfold Held
  clear q0K1 q1K1 q0K3 q1K3 q0K5 q1K5
  obtain ⟨W13, hW4⟩ : ∃ WX, WX = (W12.alloc (.cells #[.int .i64 0, .int .i64 0] 27)).setRow W12.heap.size #[.int .i64 0, .int .i64 0] := ⟨_, rfl⟩
  rw [← hW4] at HK4 HB4 ⊢
  clear hW4 HK3
  obtain ⟨g7, hg⟩ : ∃ g, W12.heap.size = g := ⟨_, rfl⟩
  rw [hg] at HK4 ⊢
  clear hg
  have hb := HB4.out
  clear HB4
  replace F10 := hid (F10.out.keep hb)
  replace F12 := hid (F12.out.keep hb)
  replace K1 := hid (K1.out.keep hb)
  replace K3 := hid (K3.out.keep hb)
  replace K5 := hid (K5.out.keep hb)
  replace HB := hid (HB.out.trans (hb.mono HB.out.size))
  clear hb
  have K7 := HK4
  clear HK4
  have q0K1 := K1.out.cell 0 rfl
  have q1K1 := K1.out.cell 1 rfl
  have q0K3 := K3.out.cell 0 rfl
  have q1K3 := K3.out.cell 1 rfl
  have q0K5 := K5.out.cell 0 rfl
  have q1K5 := K5.out.cell 1 rfl
  have q0K7 := K7.out.cell 0 rfl
  have q1K7 := K7.out.cell 1 rfl
  go_wp2_with fail
  clear q0K1 q1K1 q0K3 q1K3 q0K5 q1K5 q0K7 q1K7
  refine wp_region_invG 123 (.pointer none) vRp (RpS W13 knownT6) (by kernel_rfl) (by kernel_rfl) (by exact Nat.le_refl 123) ?_ ?_ ?_
  · exact RpS.start 26 rfl _
  · intro i o f gh a W hi hf hdep hsame hcl hval hS
    rcases i with _ | _ | _ | _ | _ | _ | _ | _ | _ | _ | _ | _ | _ | _ | _ | _ | _ | _ | _ | _ | _ | _ | _ | _ | _ | _ | i
    all_goals simp only [List.getElem?_cons_succ, List.getElem?_cons_zero, List.getElem?_nil, Option.some.injEq, reduceCtorEq] at hi
    all_goals subst hi
    · have E3 : a.tmps[3]? = some (.pointer (some ⟨g3, 0, none⟩)) := (same_of hsame 3 (by rfl)).trans rfl
      refine g_plain rfl ?_
      exact does_load_dotB (d := (1, 5)) _ rfl _ (by rw [eval_getD, E3]; rfl) (K3.out.keep hS.bel) ⟨_, .inr rfl, hS.same 0 _ (.v (.agg #[.int .i64 1, .int .i64 5])) rfl rfl⟩
    · refine g_plain rfl ?_
      have hc : Calls Try.prog 32 #[.int .i64 1, .int .i64 5] W (fun e w' => e = .returned (.agg #[.int .i64 1, .int .i64 5]) ∧ Below W.heap.size W w') := by
        have h := lat_calls 1 5 W
        exact h
      refine does_call 32 #[.int .i64 1, .int .i64 5] (by go_simp) (hc.mono ?_)
      rintro _ W' ⟨rfl, hb⟩
      exact ⟨_, rfl, _, .inr rfl, hS.step 1 _ (.v (.agg #[.int .i64 1, .int .i64 5])) rfl hb rfl⟩
    · have E63 : a.tmps[63]? = some (gh 0) := hval 0 _ 63 rfl rfl (dep_of hdep 0 (by rfl))
      have e0 : gh 0 = .agg #[.int .i64 1, .int .i64 5] := hS.ok 0 (.v (.agg #[.int .i64 1, .int .i64 5])) rfl (dep_of hdep 0 (by rfl))
      rw [e0] at E63
      have E64 : a.tmps[64]? = some (gh 1) := hval 1 _ 64 rfl rfl (dep_of hdep 1 (by rfl))
      have e1 : gh 1 = .agg #[.int .i64 1, .int .i64 5] := hS.ok 1 (.v (.agg #[.int .i64 1, .int .i64 5])) rfl (dep_of hdep 1 (by rfl))
      rw [e1] at E64
      refine g_plain rfl ?_
      exact does_value (w' := W) (v := .bool true) (by go_simp) ⟨_, .inr rfl, hS.same 2 _ (.v (.bool true)) rfl rfl⟩
    · have E65 : a.tmps[65]? = some (gh 2) := hval 2 _ 65 rfl rfl (dep_of hdep 2 (by rfl))
      have e2 : gh 2 = .bool true := hS.ok 2 (.v (.bool true)) rfl (dep_of hdep 2 (by rfl))
      rw [e2] at E65
      refine g_plain rfl ?_
      exact does_value (w' := W) (v := .bool true) (by go_simp) ⟨_, .inr rfl, hS.same 3 _ (.v (.bool true)) rfl rfl⟩
    · have EG : a.tmps[66]? = some (.bool true) := (hval 3 _ 66 rfl rfl (dep_of hdep 3 (by rfl))).trans (congrArg some (hS.ok 3 (.v (.bool true)) rfl (dep_of hdep 3 (by rfl))))
      have E4 : a.tmps[4]? = some (.int .i64 0) := (same_of hsame 4 (by rfl)).trans rfl
      refine g_want rfl rfl rfl EG ?_
      exact does_value (w' := W) (v := .int .i64 0) (by go_simp) ⟨_, .inr rfl, hS.same 4 _ (.v (.int .i64 0)) rfl rfl⟩
    · have EG : a.tmps[66]? = some (.bool true) := (hval 3 _ 66 rfl rfl (dep_of hdep 3 (by rfl))).trans (congrArg some (hS.ok 3 (.v (.bool true)) rfl (dep_of hdep 3 (by rfl))))
      have E67 : a.tmps[67]? = some (gh 4) := hval 4 _ 67 rfl rfl (dep_of hdep 4 (by rfl))
      have e4 : gh 4 = .int .i64 0 := hS.ok 4 (.v (.int .i64 0)) rfl (dep_of hdep 4 (by rfl))
      rw [e4] at E67
      refine g_want rfl rfl rfl EG ?_
      exact does_value (w' := W) (v := .bool true) (by go_simp) ⟨_, .inr rfl, hS.same 5 _ (.v (.bool true)) rfl rfl⟩
    · have E66 : a.tmps[66]? = some (gh 3) := hval 3 _ 66 rfl rfl (dep_of hdep 3 (by rfl))
      have e3 : gh 3 = .bool true := hS.ok 3 (.v (.bool true)) rfl (dep_of hdep 3 (by rfl))
      rw [e3] at E66
      have E68 : a.tmps[68]? = some (gh 5) := hval 5 _ 68 rfl rfl (dep_of hdep 5 (by rfl))
      have e5 : gh 5 = .bool true := hS.ok 5 (.v (.bool true)) rfl (dep_of hdep 5 (by rfl))
      rw [e5] at E68
      refine g_plain rfl ?_
      exact does_value (w' := W) (v := .bool true) (by go_simp) ⟨_, .inr rfl, hS.same 6 _ (.v (.bool true)) rfl rfl⟩
    · have E69 : a.tmps[69]? = some (gh 6) := hval 6 _ 69 rfl rfl (dep_of hdep 6 (by rfl))
      have e6 : gh 6 = .bool true := hS.ok 6 (.v (.bool true)) rfl (dep_of hdep 6 (by rfl))
      rw [e6] at E69
      refine g_plain rfl ?_
      exact does_value (w' := W) (v := .bool true) (by go_simp) ⟨_, .inr rfl, hS.same 7 _ (.v (.bool true)) rfl rfl⟩
    · have EG : a.tmps[70]? = some (.bool true) := (hval 7 _ 70 rfl rfl (dep_of hdep 7 (by rfl))).trans (congrArg some (hS.ok 7 (.v (.bool true)) rfl (dep_of hdep 7 (by rfl))))
      have E5 : a.tmps[5]? = some (.pointer (some ⟨g5, 0, none⟩)) := (same_of hsame 5 (by rfl)).trans rfl
      refine g_want rfl rfl rfl EG ?_
      exact does_load_dotB (d := (2, 1)) _ rfl _ (by rw [eval_getD, E5]; rfl) (K5.out.keep hS.bel) ⟨_, .inr rfl, hS.same 8 _ (.v (.agg #[.int .i64 2, .int .i64 1])) rfl rfl⟩
    · have EG : a.tmps[70]? = some (.bool true) := (hval 7 _ 70 rfl rfl (dep_of hdep 7 (by rfl))).trans (congrArg some (hS.ok 7 (.v (.bool true)) rfl (dep_of hdep 7 (by rfl))))
      refine g_want rfl rfl rfl EG ?_
      have hc : Calls Try.prog 32 #[.int .i64 2, .int .i64 1] W (fun e w' => e = .returned (.agg #[.int .i64 2, .int .i64 1]) ∧ Below W.heap.size W w') := by
        have h := lat_calls 2 1 W
        exact h
      refine does_call 32 #[.int .i64 2, .int .i64 1] (by go_simp) (hc.mono ?_)
      rintro _ W' ⟨rfl, hb⟩
      exact ⟨_, rfl, _, .inr rfl, hS.step 9 _ (.v (.agg #[.int .i64 2, .int .i64 1])) rfl hb rfl⟩
    · have EG : a.tmps[70]? = some (.bool true) := (hval 7 _ 70 rfl rfl (dep_of hdep 7 (by rfl))).trans (congrArg some (hS.ok 7 (.v (.bool true)) rfl (dep_of hdep 7 (by rfl))))
      have E71 : a.tmps[71]? = some (gh 8) := hval 8 _ 71 rfl rfl (dep_of hdep 8 (by rfl))
      have e8 : gh 8 = .agg #[.int .i64 2, .int .i64 1] := hS.ok 8 (.v (.agg #[.int .i64 2, .int .i64 1])) rfl (dep_of hdep 8 (by rfl))
      rw [e8] at E71
      have E72 : a.tmps[72]? = some (gh 9) := hval 9 _ 72 rfl rfl (dep_of hdep 9 (by rfl))
      have e9 : gh 9 = .agg #[.int .i64 2, .int .i64 1] := hS.ok 9 (.v (.agg #[.int .i64 2, .int .i64 1])) rfl (dep_of hdep 9 (by rfl))
      rw [e9] at E72
      refine g_want rfl rfl rfl EG ?_
      exact does_value (w' := W) (v := .bool true) (by go_simp) ⟨_, .inr rfl, hS.same 10 _ (.v (.bool true)) rfl rfl⟩
    · have E70 : a.tmps[70]? = some (gh 7) := hval 7 _ 70 rfl rfl (dep_of hdep 7 (by rfl))
      have e7 : gh 7 = .bool true := hS.ok 7 (.v (.bool true)) rfl (dep_of hdep 7 (by rfl))
      rw [e7] at E70
      have E73 : a.tmps[73]? = some (gh 10) := hval 10 _ 73 rfl rfl (dep_of hdep 10 (by rfl))
      have e10 : gh 10 = .bool true := hS.ok 10 (.v (.bool true)) rfl (dep_of hdep 10 (by rfl))
      rw [e10] at E73
      refine g_plain rfl ?_
      exact does_value (w' := W) (v := .bool true) (by go_simp) ⟨_, .inr rfl, hS.same 11 _ (.v (.bool true)) rfl rfl⟩
    · have E74 : a.tmps[74]? = some (gh 11) := hval 11 _ 74 rfl rfl (dep_of hdep 11 (by rfl))
      have e11 : gh 11 = .bool true := hS.ok 11 (.v (.bool true)) rfl (dep_of hdep 11 (by rfl))
      rw [e11] at E74
      refine g_plain rfl ?_
      exact does_value (w' := W) (v := .bool true) (by go_simp) ⟨_, .inr rfl, hS.same 12 _ (.v (.bool true)) rfl rfl⟩
    · have EG : a.tmps[75]? = some (.bool true) := (hval 12 _ 75 rfl rfl (dep_of hdep 12 (by rfl))).trans (congrArg some (hS.ok 12 (.v (.bool true)) rfl (dep_of hdep 12 (by rfl))))
      have E6 : a.tmps[6]? = some (.int .i64 0) := (same_of hsame 6 (by rfl)).trans rfl
      refine g_want rfl rfl rfl EG ?_
      exact does_value (w' := W) (v := .int .i64 0) (by go_simp) ⟨_, .inr rfl, hS.same 13 _ (.v (.int .i64 0)) rfl rfl⟩
    · have EG : a.tmps[75]? = some (.bool true) := (hval 12 _ 75 rfl rfl (dep_of hdep 12 (by rfl))).trans (congrArg some (hS.ok 12 (.v (.bool true)) rfl (dep_of hdep 12 (by rfl))))
      have E76 : a.tmps[76]? = some (gh 13) := hval 13 _ 76 rfl rfl (dep_of hdep 13 (by rfl))
      have e13 : gh 13 = .int .i64 0 := hS.ok 13 (.v (.int .i64 0)) rfl (dep_of hdep 13 (by rfl))
      rw [e13] at E76
      refine g_want rfl rfl rfl EG ?_
      exact does_value (w' := W) (v := .bool true) (by go_simp) ⟨_, .inr rfl, hS.same 14 _ (.v (.bool true)) rfl rfl⟩
    · have E75 : a.tmps[75]? = some (gh 12) := hval 12 _ 75 rfl rfl (dep_of hdep 12 (by rfl))
      have e12 : gh 12 = .bool true := hS.ok 12 (.v (.bool true)) rfl (dep_of hdep 12 (by rfl))
      rw [e12] at E75
      have E77 : a.tmps[77]? = some (gh 14) := hval 14 _ 77 rfl rfl (dep_of hdep 14 (by rfl))
      have e14 : gh 14 = .bool true := hS.ok 14 (.v (.bool true)) rfl (dep_of hdep 14 (by rfl))
      rw [e14] at E77
      refine g_plain rfl ?_
      exact does_value (w' := W) (v := .bool true) (by go_simp) ⟨_, .inr rfl, hS.same 15 _ (.v (.bool true)) rfl rfl⟩
    · have E78 : a.tmps[78]? = some (gh 15) := hval 15 _ 78 rfl rfl (dep_of hdep 15 (by rfl))
      have e15 : gh 15 = .bool true := hS.ok 15 (.v (.bool true)) rfl (dep_of hdep 15 (by rfl))
      rw [e15] at E78
      refine g_plain rfl ?_
      exact does_value (w' := W) (v := .bool true) (by go_simp) ⟨_, .inr rfl, hS.same 16 _ (.v (.bool true)) rfl rfl⟩
    · have EG : a.tmps[79]? = some (.bool true) := (hval 16 _ 79 rfl rfl (dep_of hdep 16 (by rfl))).trans (congrArg some (hS.ok 16 (.v (.bool true)) rfl (dep_of hdep 16 (by rfl))))
      have E8 : a.tmps[8]? = some (.int .i64 3) := (same_of hsame 8 (by rfl)).trans rfl
      refine g_want rfl rfl rfl EG ?_
      exact does_value (w' := W) (v := .int .i64 3) (by go_simp) ⟨_, .inr rfl, hS.same 17 _ (.v (.int .i64 3)) rfl rfl⟩
    · have EG : a.tmps[79]? = some (.bool true) := (hval 16 _ 79 rfl rfl (dep_of hdep 16 (by rfl))).trans (congrArg some (hS.ok 16 (.v (.bool true)) rfl (dep_of hdep 16 (by rfl))))
      have E80 : a.tmps[80]? = some (gh 17) := hval 17 _ 80 rfl rfl (dep_of hdep 17 (by rfl))
      have e17 : gh 17 = .int .i64 3 := hS.ok 17 (.v (.int .i64 3)) rfl (dep_of hdep 17 (by rfl))
      rw [e17] at E80
      refine g_want rfl rfl rfl EG ?_
      exact does_value (w' := W) (v := .bool true) (by go_simp) ⟨_, .inr rfl, hS.same 18 _ (.v (.bool true)) rfl rfl⟩
    · have E79 : a.tmps[79]? = some (gh 16) := hval 16 _ 79 rfl rfl (dep_of hdep 16 (by rfl))
      have e16 : gh 16 = .bool true := hS.ok 16 (.v (.bool true)) rfl (dep_of hdep 16 (by rfl))
      rw [e16] at E79
      have E81 : a.tmps[81]? = some (gh 18) := hval 18 _ 81 rfl rfl (dep_of hdep 18 (by rfl))
      have e18 : gh 18 = .bool true := hS.ok 18 (.v (.bool true)) rfl (dep_of hdep 18 (by rfl))
      rw [e18] at E81
      refine g_plain rfl ?_
      exact does_value (w' := W) (v := .bool true) (by go_simp) ⟨_, .inr rfl, hS.same 19 _ (.v (.bool true)) rfl rfl⟩
    · have E82 : a.tmps[82]? = some (gh 19) := hval 19 _ 82 rfl rfl (dep_of hdep 19 (by rfl))
      have e19 : gh 19 = .bool true := hS.ok 19 (.v (.bool true)) rfl (dep_of hdep 19 (by rfl))
      rw [e19] at E82
      refine g_plain rfl ?_
      exact does_value (w' := W) (v := .bool true) (by go_simp) ⟨_, .inr rfl, hS.same 20 _ (.v (.bool true)) rfl rfl⟩
    · have EG : a.tmps[83]? = some (.bool true) := (hval 20 _ 83 rfl rfl (dep_of hdep 20 (by rfl))).trans (congrArg some (hS.ok 20 (.v (.bool true)) rfl (dep_of hdep 20 (by rfl))))
      have E1 : a.tmps[1]? = some (.pointer (some ⟨g1, 0, none⟩)) := (same_of hsame 1 (by rfl)).trans rfl
      refine g_want rfl rfl rfl EG ?_
      exact does_load_cloud _ rfl _ rfl (by rw [eval_getD, E1]; rfl) (K1.out.keep hS.bel) ⟨_, .inr rfl, hS.same 21 _ (.cl [2] [(1, 4)]) rfl ⟨_, _, _, _, rfl, (Nat.le_refl _), (Nat.le_refl _), F10.out.keep hS.bel, F12.out.keep hS.bel⟩⟩
    · have EG : a.tmps[83]? = some (.bool true) := (hval 20 _ 83 rfl rfl (dep_of hdep 20 (by rfl))).trans (congrArg some (hS.ok 20 (.v (.bool true)) rfl (dep_of hdep 20 (by rfl))))
      have E84 : a.tmps[84]? = some (gh 21) := hval 21 _ 84 rfl rfl (dep_of hdep 21 (by rfl))
      obtain ⟨A21, c21, B21, d21, e21, l21, k21, n21, m21⟩ : ∃ A c B d, gh 21 = .agg #[.slice A 1 c, .slice B 1 d] ∧ 1 ≤ c ∧ 1 ≤ d ∧ NI W A 1 [2] ∧ ND W B 1 [(1, 4)] := hS.ok 21 (.cl [2] [(1, 4)]) rfl (dep_of hdep 21 (by rfl))
      rw [e21] at E84
      refine g_want rfl rfl rfl EG ?_
      have hc : Calls Try.prog 22 #[.agg #[.slice A21 1 c21, .slice B21 1 d21]] W (fun e w' => e = .returned (.int .i64 3) ∧ Below W.heap.size W w') := by
        have h := ocCount_calls 1 c21 1 d21 A21 B21 [2] [(1, 4)] W n21 m21 (by decide) (by decide) l21
        rw [show countB ([2], [(1, 4)]) = 3 from by decide +kernel] at h
        exact h
      refine does_call 22 #[.agg #[.slice A21 1 c21, .slice B21 1 d21]] (by go_simp) (hc.mono ?_)
      rintro _ W' ⟨rfl, hb⟩
      exact ⟨_, rfl, _, .inr rfl, hS.step 22 _ (.v (.int .i64 3)) rfl hb rfl⟩
    · have EG : a.tmps[83]? = some (.bool true) := (hval 20 _ 83 rfl rfl (dep_of hdep 20 (by rfl))).trans (congrArg some (hS.ok 20 (.v (.bool true)) rfl (dep_of hdep 20 (by rfl))))
      have E85 : a.tmps[85]? = some (gh 22) := hval 22 _ 85 rfl rfl (dep_of hdep 22 (by rfl))
      have e22 : gh 22 = .int .i64 3 := hS.ok 22 (.v (.int .i64 3)) rfl (dep_of hdep 22 (by rfl))
      rw [e22] at E85
      refine g_want rfl rfl rfl EG ?_
      exact does_value (w' := W) (v := .bool true) (by go_simp) ⟨_, .inr rfl, hS.same 23 _ (.v (.bool true)) rfl rfl⟩
    · have E83 : a.tmps[83]? = some (gh 20) := hval 20 _ 83 rfl rfl (dep_of hdep 20 (by rfl))
      have e20 : gh 20 = .bool true := hS.ok 20 (.v (.bool true)) rfl (dep_of hdep 20 (by rfl))
      rw [e20] at E83
      have E86 : a.tmps[86]? = some (gh 23) := hval 23 _ 86 rfl rfl (dep_of hdep 23 (by rfl))
      have e23 : gh 23 = .bool true := hS.ok 23 (.v (.bool true)) rfl (dep_of hdep 23 (by rfl))
      rw [e23] at E86
      refine g_plain rfl ?_
      exact does_value (w' := W) (v := .bool true) (by go_simp) ⟨_, .inr rfl, hS.same 24 _ (.v (.bool true)) rfl rfl⟩
    · have E87 : a.tmps[87]? = some (gh 24) := hval 24 _ 87 rfl rfl (dep_of hdep 24 (by rfl))
      have e24 : gh 24 = .bool true := hS.ok 24 (.v (.bool true)) rfl (dep_of hdep 24 (by rfl))
      rw [e24] at E87
      refine g_plain rfl ?_
      exact does_value (w' := W) (v := .bool true) (by go_simp) ⟨_, .inr rfl, hS.same 25 _ (.v (.bool true)) rfl rfl⟩
  intro gh W14 hS
  have hb := hS.bel
  have e25 : gh 25 = .bool true := hS.ok 25 (.v (.bool true)) rfl rfl
  clear hS
  replace F10 := hid (F10.out.keep hb)
  replace F12 := hid (F12.out.keep hb)
  replace K1 := hid (K1.out.keep hb)
  replace K3 := hid (K3.out.keep hb)
  replace K5 := hid (K5.out.keep hb)
  replace K7 := hid (K7.out.keep hb)
  replace HB := hid (HB.out.trans (hb.mono HB.out.size))
  clear hb
  simp only [putAll, vRp, Nat.reduceAdd, Nat.zero_add, Act.put, List.setIfInBounds_toArray, List.set_cons_zero, List.set_cons_succ]
  rw [e25]
  clear e25
  have hc : Calls Try.prog 9 #[] W14 (fun e w' => e = .returned (.bool true) ∧ Below W14.heap.size W14 w') := by
    have h := awake_calls W14
    exact h
  have HC := hid hc
  clear hc
  have q0K1 := K1.out.cell 0 rfl
  have q1K1 := K1.out.cell 1 rfl
  have q0K3 := K3.out.cell 0 rfl
  have q1K3 := K3.out.cell 1 rfl
  have q0K5 := K5.out.cell 0 rfl
  have q1K5 := K5.out.cell 1 rfl
  have q0K7 := K7.out.cell 0 rfl
  have q1K7 := K7.out.cell 1 rfl
  go_wp2_with fail
  clear q0K1 q1K1 q0K3 q1K3 q0K5 q1K5 q0K7 q1K7
  refine HC.out.mono ?_
  rintro e W15 ⟨rfl, hb⟩
  clear HC
  replace F10 := hid (F10.out.keep hb)
  replace F12 := hid (F12.out.keep hb)
  replace K1 := hid (K1.out.keep hb)
  replace K3 := hid (K3.out.keep hb)
  replace K5 := hid (K5.out.keep hb)
  replace K7 := hid (K7.out.keep hb)
  replace HB := hid (HB.out.trans (hb.mono HB.out.size))
  clear hb
  have q0K1 := K1.out.cell 0 rfl
  have q1K1 := K1.out.cell 1 rfl
  have q0K3 := K3.out.cell 0 rfl
  have q1K3 := K3.out.cell 1 rfl
  have q0K5 := K5.out.cell 0 rfl
  have q1K5 := K5.out.cell 1 rfl
  have q0K7 := K7.out.cell 0 rfl
  have q1K7 := K7.out.cell 1 rfl
  go_wp2_with fail
  clear q0K1 q1K1 q0K3 q1K3 q0K5 q1K5 q0K7 q1K7
  obtain ⟨W16, hW⟩ : ∃ W', W' = W15.alloc (.cells #[.int .i64 0] 3) := ⟨_, rfl⟩
  have hb : Below W15.heap.size W15 W16 := by rw [hW]; exact below_new _ _
  have hf : NI W16 (some ⟨W15.heap.size, 0, none⟩) 1 [0] := by rw [hW]; exact lit_ni [0] _ rfl
  rw [← hW]
  clear hW
  replace F10 := hid (F10.out.keep hb)
  replace F12 := hid (F12.out.keep hb)
  replace K1 := hid (K1.out.keep hb)
  replace K3 := hid (K3.out.keep hb)
  replace K5 := hid (K5.out.keep hb)
  replace K7 := hid (K7.out.keep hb)
  replace HB := hid (HB.out.trans (hb.mono HB.out.size))
  clear hb
  have F96 := hid hf
  clear hf
  have hc : Calls Try.prog 31 #[.slice (some ⟨W15.heap.size, 0, none⟩) 1 1, .slice none 0 0] W16 (fun e w' => e = .returned (.agg #[.slice (some ⟨W15.heap.size, 0, none⟩) 1 1, .slice none 0 0]) ∧ Below W16.heap.size W16 w') := by
    have h := lof_calls (some ⟨W15.heap.size, 0, none⟩) none 1 1 0 0 W16
    exact h
  have HC := hid hc
  clear hc
  try go_wp2_with fail
  refine HC.out.mono ?_
  rintro e W17 ⟨rfl, hb⟩
  clear HC
  replace F10 := hid (F10.out.keep hb)
  replace F12 := hid (F12.out.keep hb)
  replace F96 := hid (F96.out.keep hb)
  replace K1 := hid (K1.out.keep hb)
  replace K3 := hid (K3.out.keep hb)
  replace K5 := hid (K5.out.keep hb)
  replace K7 := hid (K7.out.keep hb)
  replace HB := hid (HB.out.trans (hb.mono HB.out.size))
  clear hb
  have hc : Calls Try.prog 18 #[.agg #[.slice (some ⟨W15.heap.size, 0, none⟩) 1 1, .slice none 0 0]] W17 (fun e w' => e = .returned (.int .i64 2) ∧ Below W17.heap.size W17 w') := by
    have h := ocCheck_calls 1 1 0 0 (some ⟨W15.heap.size, 0, none⟩) none [0] [] W17 F96.out (ND.nil _ _) (by decide) (by decide) (Nat.le_refl _)
    rw [show checkC ([0], []) = 2 from by decide +kernel] at h
    exact h
  have HC := hid hc
  clear hc
  have q0K1 := K1.out.cell 0 rfl
  have q1K1 := K1.out.cell 1 rfl
  have q0K3 := K3.out.cell 0 rfl
  have q1K3 := K3.out.cell 1 rfl
  have q0K5 := K5.out.cell 0 rfl
  have q1K5 := K5.out.cell 1 rfl
  have q0K7 := K7.out.cell 0 rfl
  have q1K7 := K7.out.cell 1 rfl
  go_wp2_with fail
  clear q0K1 q1K1 q0K3 q1K3 q0K5 q1K5 q0K7 q1K7
  refine HC.out.mono ?_
  rintro e W18 ⟨rfl, hb⟩
  clear HC
  replace F10 := hid (F10.out.keep hb)
  replace F12 := hid (F12.out.keep hb)
  replace F96 := hid (F96.out.keep hb)
  replace K1 := hid (K1.out.keep hb)
  replace K3 := hid (K3.out.keep hb)
  replace K5 := hid (K5.out.keep hb)
  replace K7 := hid (K7.out.keep hb)
  replace HB := hid (HB.out.trans (hb.mono HB.out.size))
  clear hb
  have hc : Calls Try.prog 32 #[.int .i64 1, .int .i64 1] W18 (fun e w' => e = .returned (.agg #[.int .i64 1, .int .i64 1]) ∧ Below W18.heap.size W18 w') := by
    have h := lat_calls 1 1 W18
    exact h
  have HC := hid hc
  clear hc
  have q0K1 := K1.out.cell 0 rfl
  have q1K1 := K1.out.cell 1 rfl
  have q0K3 := K3.out.cell 0 rfl
  have q1K3 := K3.out.cell 1 rfl
  have q0K5 := K5.out.cell 0 rfl
  have q1K5 := K5.out.cell 1 rfl
  have q0K7 := K7.out.cell 0 rfl
  have q1K7 := K7.out.cell 1 rfl
  go_wp2_with fail
  clear q0K1 q1K1 q0K3 q1K3 q0K5 q1K5 q0K7 q1K7
  refine HC.out.mono ?_
  rintro e W19 ⟨rfl, hb⟩
  clear HC
  replace F10 := hid (F10.out.keep hb)
  replace F12 := hid (F12.out.keep hb)
  replace F96 := hid (F96.out.keep hb)
  replace K1 := hid (K1.out.keep hb)
  replace K3 := hid (K3.out.keep hb)
  replace K5 := hid (K5.out.keep hb)
  replace K7 := hid (K7.out.keep hb)
  replace HB := hid (HB.out.trans (hb.mono HB.out.size))
  clear hb
  have q0K1 := K1.out.cell 0 rfl
  have q1K1 := K1.out.cell 1 rfl
  have q0K3 := K3.out.cell 0 rfl
  have q1K3 := K3.out.cell 1 rfl
  have q0K5 := K5.out.cell 0 rfl
  have q1K5 := K5.out.cell 1 rfl
  have q0K7 := K7.out.cell 0 rfl
  have q1K7 := K7.out.cell 1 rfl
  go_wp2_with fail
  clear q0K1 q1K1 q0K3 q1K3 q0K5 q1K5 q0K7 q1K7
  obtain ⟨W20, hW⟩ : ∃ W', W' = W19.alloc (.cells #[.int .i64 1, .int .i64 1] 27) := ⟨_, rfl⟩
  have hb : Below W19.heap.size W19 W20 := by rw [hW]; exact below_new _ _
  have hf : ND W20 (some ⟨W19.heap.size, 0, none⟩) 1 [(1, 1)] := by rw [hW]; exact lit_nd [(1, 1)] _ rfl (by decide)
  rw [← hW]
  clear hW
  replace F10 := hid (F10.out.keep hb)
  replace F12 := hid (F12.out.keep hb)
  replace F96 := hid (F96.out.keep hb)
  replace K1 := hid (K1.out.keep hb)
  replace K3 := hid (K3.out.keep hb)
  replace K5 := hid (K5.out.keep hb)
  replace K7 := hid (K7.out.keep hb)
  replace HB := hid (HB.out.trans (hb.mono HB.out.size))
  clear hb
  have F103 := hid hf
  clear hf
  have hc : Calls Try.prog 31 #[.slice none 0 0, .slice (some ⟨W19.heap.size, 0, none⟩) 1 1] W20 (fun e w' => e = .returned (.agg #[.slice none 0 0, .slice (some ⟨W19.heap.size, 0, none⟩) 1 1]) ∧ Below W20.heap.size W20 w') := by
    have h := lof_calls none (some ⟨W19.heap.size, 0, none⟩) 0 0 1 1 W20
    exact h
  have HC := hid hc
  clear hc
  try go_wp2_with fail
  refine HC.out.mono ?_
  rintro e W21 ⟨rfl, hb⟩
  clear HC
  replace F10 := hid (F10.out.keep hb)
  replace F12 := hid (F12.out.keep hb)
  replace F96 := hid (F96.out.keep hb)
  replace F103 := hid (F103.out.keep hb)
  replace K1 := hid (K1.out.keep hb)
  replace K3 := hid (K3.out.keep hb)
  replace K5 := hid (K5.out.keep hb)
  replace K7 := hid (K7.out.keep hb)
  replace HB := hid (HB.out.trans (hb.mono HB.out.size))
  clear hb
  have hc : Calls Try.prog 18 #[.agg #[.slice none 0 0, .slice (some ⟨W19.heap.size, 0, none⟩) 1 1]] W21 (fun e w' => e = .returned (.int .i64 2) ∧ Below W21.heap.size W21 w') := by
    have h := ocCheck_calls 0 0 1 1 none (some ⟨W19.heap.size, 0, none⟩) [] [(1, 1)] W21 (NI.nil _ _) F103.out (by decide) (by decide) (Nat.le_refl _)
    rw [show checkC ([], [(1, 1)]) = 2 from by decide +kernel] at h
    exact h
  have HC := hid hc
  clear hc
  have q0K1 := K1.out.cell 0 rfl
  have q1K1 := K1.out.cell 1 rfl
  have q0K3 := K3.out.cell 0 rfl
  have q1K3 := K3.out.cell 1 rfl
  have q0K5 := K5.out.cell 0 rfl
  have q1K5 := K5.out.cell 1 rfl
  have q0K7 := K7.out.cell 0 rfl
  have q1K7 := K7.out.cell 1 rfl
  go_wp2_with fail
  clear q0K1 q1K1 q0K3 q1K3 q0K5 q1K5 q0K7 q1K7
  refine HC.out.mono ?_
  rintro e W22 ⟨rfl, hb⟩
  clear HC
  replace F10 := hid (F10.out.keep hb)
  replace F12 := hid (F12.out.keep hb)
  replace F96 := hid (F96.out.keep hb)
  replace F103 := hid (F103.out.keep hb)
  replace K1 := hid (K1.out.keep hb)
  replace K3 := hid (K3.out.keep hb)
  replace K5 := hid (K5.out.keep hb)
  replace K7 := hid (K7.out.keep hb)
  replace HB := hid (HB.out.trans (hb.mono HB.out.size))
  clear hb
  have hc : Calls Try.prog 32 #[.int .i64 1, .int .i64 3] W22 (fun e w' => e = .returned (.agg #[.int .i64 1, .int .i64 3]) ∧ Below W22.heap.size W22 w') := by
    have h := lat_calls 1 3 W22
    exact h
  have HC := hid hc
  clear hc
  have q0K1 := K1.out.cell 0 rfl
  have q1K1 := K1.out.cell 1 rfl
  have q0K3 := K3.out.cell 0 rfl
  have q1K3 := K3.out.cell 1 rfl
  have q0K5 := K5.out.cell 0 rfl
  have q1K5 := K5.out.cell 1 rfl
  have q0K7 := K7.out.cell 0 rfl
  have q1K7 := K7.out.cell 1 rfl
  go_wp2_with fail
  clear q0K1 q1K1 q0K3 q1K3 q0K5 q1K5 q0K7 q1K7
  refine HC.out.mono ?_
  rintro e W23 ⟨rfl, hb⟩
  clear HC
  replace F10 := hid (F10.out.keep hb)
  replace F12 := hid (F12.out.keep hb)
  replace F96 := hid (F96.out.keep hb)
  replace F103 := hid (F103.out.keep hb)
  replace K1 := hid (K1.out.keep hb)
  replace K3 := hid (K3.out.keep hb)
  replace K5 := hid (K5.out.keep hb)
  replace K7 := hid (K7.out.keep hb)
  replace HB := hid (HB.out.trans (hb.mono HB.out.size))
  clear hb
  have hc : Calls Try.prog 32 #[.int .i64 1, .int .i64 2] W23 (fun e w' => e = .returned (.agg #[.int .i64 1, .int .i64 2]) ∧ Below W23.heap.size W23 w') := by
    have h := lat_calls 1 2 W23
    exact h
  have HC := hid hc
  clear hc
  have q0K1 := K1.out.cell 0 rfl
  have q1K1 := K1.out.cell 1 rfl
  have q0K3 := K3.out.cell 0 rfl
  have q1K3 := K3.out.cell 1 rfl
  have q0K5 := K5.out.cell 0 rfl
  have q1K5 := K5.out.cell 1 rfl
  have q0K7 := K7.out.cell 0 rfl
  have q1K7 := K7.out.cell 1 rfl
  go_wp2_with fail
  clear q0K1 q1K1 q0K3 q1K3 q0K5 q1K5 q0K7 q1K7
  refine HC.out.mono ?_
  rintro e W24 ⟨rfl, hb⟩
  clear HC
  replace F10 := hid (F10.out.keep hb)
  replace F12 := hid (F12.out.keep hb)
  replace F96 := hid (F96.out.keep hb)
  replace F103 := hid (F103.out.keep hb)
  replace K1 := hid (K1.out.keep hb)
  replace K3 := hid (K3.out.keep hb)
  replace K5 := hid (K5.out.keep hb)
  replace K7 := hid (K7.out.keep hb)
  replace HB := hid (HB.out.trans (hb.mono HB.out.size))
  clear hb
  have q0K1 := K1.out.cell 0 rfl
  have q1K1 := K1.out.cell 1 rfl
  have q0K3 := K3.out.cell 0 rfl
  have q1K3 := K3.out.cell 1 rfl
  have q0K5 := K5.out.cell 0 rfl
  have q1K5 := K5.out.cell 1 rfl
  have q0K7 := K7.out.cell 0 rfl
  have q1K7 := K7.out.cell 1 rfl
  go_wp2_with fail
  clear q0K1 q1K1 q0K3 q1K3 q0K5 q1K5 q0K7 q1K7
  obtain ⟨W25, hW⟩ : ∃ W', W' = W24.alloc (.cells #[.int .i64 1, .int .i64 3, .int .i64 1, .int .i64 2] 27) := ⟨_, rfl⟩
  have hb : Below W24.heap.size W24 W25 := by rw [hW]; exact below_new _ _
  have hf : ND W25 (some ⟨W24.heap.size, 0, none⟩) 2 [(1, 3), (1, 2)] := by rw [hW]; exact lit_nd [(1, 3), (1, 2)] _ rfl (by decide)
  rw [← hW]
  clear hW
  replace F10 := hid (F10.out.keep hb)
  replace F12 := hid (F12.out.keep hb)
  replace F96 := hid (F96.out.keep hb)
  replace F103 := hid (F103.out.keep hb)
  replace K1 := hid (K1.out.keep hb)
  replace K3 := hid (K3.out.keep hb)
  replace K5 := hid (K5.out.keep hb)
  replace K7 := hid (K7.out.keep hb)
  replace HB := hid (HB.out.trans (hb.mono HB.out.size))
  clear hb
  have F111 := hid hf
  clear hf
  have hc : Calls Try.prog 31 #[.slice none 0 0, .slice (some ⟨W24.heap.size, 0, none⟩) 2 2] W25 (fun e w' => e = .returned (.agg #[.slice none 0 0, .slice (some ⟨W24.heap.size, 0, none⟩) 2 2]) ∧ Below W25.heap.size W25 w') := by
    have h := lof_calls none (some ⟨W24.heap.size, 0, none⟩) 0 0 2 2 W25
    exact h
  have HC := hid hc
  clear hc
  try go_wp2_with fail
  refine HC.out.mono ?_
  rintro e W26 ⟨rfl, hb⟩
  clear HC
  replace F10 := hid (F10.out.keep hb)
  replace F12 := hid (F12.out.keep hb)
  replace F96 := hid (F96.out.keep hb)
  replace F103 := hid (F103.out.keep hb)
  replace F111 := hid (F111.out.keep hb)
  replace K1 := hid (K1.out.keep hb)
  replace K3 := hid (K3.out.keep hb)
  replace K5 := hid (K5.out.keep hb)
  replace K7 := hid (K7.out.keep hb)
  replace HB := hid (HB.out.trans (hb.mono HB.out.size))
  clear hb
  have hc : Calls Try.prog 18 #[.agg #[.slice none 0 0, .slice (some ⟨W24.heap.size, 0, none⟩) 2 2]] W26 (fun e w' => e = .returned (.int .i64 2) ∧ Below W26.heap.size W26 w') := by
    have h := ocCheck_calls 0 0 2 2 none (some ⟨W24.heap.size, 0, none⟩) [] [(1, 3), (1, 2)] W26 (NI.nil _ _) F111.out (by decide) (by decide) (Nat.le_refl _)
    rw [show checkC ([], [(1, 3), (1, 2)]) = 2 from by decide +kernel] at h
    exact h
  have HC := hid hc
  clear hc
  have q0K1 := K1.out.cell 0 rfl
  have q1K1 := K1.out.cell 1 rfl
  have q0K3 := K3.out.cell 0 rfl
  have q1K3 := K3.out.cell 1 rfl
  have q0K5 := K5.out.cell 0 rfl
  have q1K5 := K5.out.cell 1 rfl
  have q0K7 := K7.out.cell 0 rfl
  have q1K7 := K7.out.cell 1 rfl
  go_wp2_with fail
  clear q0K1 q1K1 q0K3 q1K3 q0K5 q1K5 q0K7 q1K7
  refine HC.out.mono ?_
  rintro e W27 ⟨rfl, hb⟩
  clear HC
  replace F10 := hid (F10.out.keep hb)
  replace F12 := hid (F12.out.keep hb)
  replace F96 := hid (F96.out.keep hb)
  replace F103 := hid (F103.out.keep hb)
  replace F111 := hid (F111.out.keep hb)
  replace K1 := hid (K1.out.keep hb)
  replace K3 := hid (K3.out.keep hb)
  replace K5 := hid (K5.out.keep hb)
  replace K7 := hid (K7.out.keep hb)
  replace HB := hid (HB.out.trans (hb.mono HB.out.size))
  clear hb
  have hc : Calls Try.prog 32 #[.int .i64 17, .int .i64 1] W27 (fun e w' => e = .returned (.agg #[.int .i64 17, .int .i64 1]) ∧ Below W27.heap.size W27 w') := by
    have h := lat_calls 17 1 W27
    exact h
  have HC := hid hc
  clear hc
  have q0K1 := K1.out.cell 0 rfl
  have q1K1 := K1.out.cell 1 rfl
  have q0K3 := K3.out.cell 0 rfl
  have q1K3 := K3.out.cell 1 rfl
  have q0K5 := K5.out.cell 0 rfl
  have q1K5 := K5.out.cell 1 rfl
  have q0K7 := K7.out.cell 0 rfl
  have q1K7 := K7.out.cell 1 rfl
  go_wp2_with fail
  clear q0K1 q1K1 q0K3 q1K3 q0K5 q1K5 q0K7 q1K7
  refine HC.out.mono ?_
  rintro e W28 ⟨rfl, hb⟩
  clear HC
  replace F10 := hid (F10.out.keep hb)
  replace F12 := hid (F12.out.keep hb)
  replace F96 := hid (F96.out.keep hb)
  replace F103 := hid (F103.out.keep hb)
  replace F111 := hid (F111.out.keep hb)
  replace K1 := hid (K1.out.keep hb)
  replace K3 := hid (K3.out.keep hb)
  replace K5 := hid (K5.out.keep hb)
  replace K7 := hid (K7.out.keep hb)
  replace HB := hid (HB.out.trans (hb.mono HB.out.size))
  clear hb
  have q0K1 := K1.out.cell 0 rfl
  have q1K1 := K1.out.cell 1 rfl
  have q0K3 := K3.out.cell 0 rfl
  have q1K3 := K3.out.cell 1 rfl
  have q0K5 := K5.out.cell 0 rfl
  have q1K5 := K5.out.cell 1 rfl
  have q0K7 := K7.out.cell 0 rfl
  have q1K7 := K7.out.cell 1 rfl
  go_wp2_with fail
  clear q0K1 q1K1 q0K3 q1K3 q0K5 q1K5 q0K7 q1K7
  obtain ⟨W29, hW⟩ : ∃ W', W' = W28.alloc (.cells #[.int .i64 17, .int .i64 1] 27) := ⟨_, rfl⟩
  have hb : Below W28.heap.size W28 W29 := by rw [hW]; exact below_new _ _
  have hf : ND W29 (some ⟨W28.heap.size, 0, none⟩) 1 [(17, 1)] := by rw [hW]; exact lit_nd [(17, 1)] _ rfl (by decide)
  rw [← hW]
  clear hW
  replace F10 := hid (F10.out.keep hb)
  replace F12 := hid (F12.out.keep hb)
  replace F96 := hid (F96.out.keep hb)
  replace F103 := hid (F103.out.keep hb)
  replace F111 := hid (F111.out.keep hb)
  replace K1 := hid (K1.out.keep hb)
  replace K3 := hid (K3.out.keep hb)
  replace K5 := hid (K5.out.keep hb)
  replace K7 := hid (K7.out.keep hb)
  replace HB := hid (HB.out.trans (hb.mono HB.out.size))
  clear hb
  have F118 := hid hf
  clear hf
  have hc : Calls Try.prog 31 #[.slice none 0 0, .slice (some ⟨W28.heap.size, 0, none⟩) 1 1] W29 (fun e w' => e = .returned (.agg #[.slice none 0 0, .slice (some ⟨W28.heap.size, 0, none⟩) 1 1]) ∧ Below W29.heap.size W29 w') := by
    have h := lof_calls none (some ⟨W28.heap.size, 0, none⟩) 0 0 1 1 W29
    exact h
  have HC := hid hc
  clear hc
  try go_wp2_with fail
  refine HC.out.mono ?_
  rintro e W30 ⟨rfl, hb⟩
  clear HC
  replace F10 := hid (F10.out.keep hb)
  replace F12 := hid (F12.out.keep hb)
  replace F96 := hid (F96.out.keep hb)
  replace F103 := hid (F103.out.keep hb)
  replace F111 := hid (F111.out.keep hb)
  replace F118 := hid (F118.out.keep hb)
  replace K1 := hid (K1.out.keep hb)
  replace K3 := hid (K3.out.keep hb)
  replace K5 := hid (K5.out.keep hb)
  replace K7 := hid (K7.out.keep hb)
  replace HB := hid (HB.out.trans (hb.mono HB.out.size))
  clear hb
  have hc : Calls Try.prog 18 #[.agg #[.slice none 0 0, .slice (some ⟨W28.heap.size, 0, none⟩) 1 1]] W30 (fun e w' => e = .returned (.int .i64 3) ∧ Below W30.heap.size W30 w') := by
    have h := ocCheck_calls 0 0 1 1 none (some ⟨W28.heap.size, 0, none⟩) [] [(17, 1)] W30 (NI.nil _ _) F118.out (by decide) (by decide) (Nat.le_refl _)
    rw [show checkC ([], [(17, 1)]) = 3 from by decide +kernel] at h
    exact h
  have HC := hid hc
  clear hc
  have q0K1 := K1.out.cell 0 rfl
  have q1K1 := K1.out.cell 1 rfl
  have q0K3 := K3.out.cell 0 rfl
  have q1K3 := K3.out.cell 1 rfl
  have q0K5 := K5.out.cell 0 rfl
  have q1K5 := K5.out.cell 1 rfl
  have q0K7 := K7.out.cell 0 rfl
  have q1K7 := K7.out.cell 1 rfl
  go_wp2_with fail
  clear q0K1 q1K1 q0K3 q1K3 q0K5 q1K5 q0K7 q1K7
  refine HC.out.mono ?_
  rintro e W31 ⟨rfl, hb⟩
  clear HC
  replace F10 := hid (F10.out.keep hb)
  replace F12 := hid (F12.out.keep hb)
  replace F96 := hid (F96.out.keep hb)
  replace F103 := hid (F103.out.keep hb)
  replace F111 := hid (F111.out.keep hb)
  replace F118 := hid (F118.out.keep hb)
  replace K1 := hid (K1.out.keep hb)
  replace K3 := hid (K3.out.keep hb)
  replace K5 := hid (K5.out.keep hb)
  replace K7 := hid (K7.out.keep hb)
  replace HB := hid (HB.out.trans (hb.mono HB.out.size))
  clear hb
  go_wp2_with fail
  go_ret
  exact ⟨rfl, HB.out⟩
end Go.Proofs.Ythjflgnoeenenaa
