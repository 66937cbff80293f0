/- Contract: With of the reference. Written by tools/mkvd.py. -/
import Derived.Test.YtfcildpigkobcaaVcWith
import Derived.Test.YtfcildpigkobcaaVcRefJ
namespace Go.Proofs.Ytfcildpigkobcaa
open Go Go.RowKit Go.Shelf

theorem OwnN.set {w : World} {base g n c k : Nat} {zs : List Int} (h : OwnN w base (.slice (some ⟨g, 0, none⟩) n c) n zs) (_ : k < n) (z : Int) : OwnN (w.setCell ⟨g, k, none⟩ (.int .i64 z)) base (.slice (some ⟨g, 0, none⟩) n c) n (zs.set k z) := by
  have hl := h.len
  rcases h.2 with ⟨e, _⟩ | ⟨g2, cap, cur, e, hb, hg, hnc, hcm, hcs, ht⟩
  · cases e
  · cases e
    refine ⟨by simp [hl], .inr ⟨g, c, cur.setIfInBounds k (.int .i64 z), rfl, hb, ?_, hnc, hcm, by simpa using hcs, ?_⟩⟩
    · have : Blk w g 3 cur := hg
      exact this.set_ k _
    · rw [Array.toList_setIfInBounds, List.map_set, ← ht, Nat.mul_one, List.take_set]
      rfl
theorem own_ne {w : World} {base n p : Nat} {v : Value} {zs : List Int} {t : TypeId} {cs : Array Value} (h : OwnN w base v n zs) (hp : Blk w p t cs) (ht : t ≠ 3) : v.ownBlock ≠ some p := fun e => by
  rcases h.2 with ⟨rfl, _⟩ | ⟨g, cap, cur, rfl, _, hg, _⟩
  · cases e
  · cases e
    unfold Blk at hp
    rw [hg] at hp
    cases hp
    exact ht rfl
theorem aloneV_length (R N : Int) : (aloneV R N).length = R.toNat := by unfold aloneV; simp
theorem nth_alone {R N : Int} {i : Nat} (hR : 1 ≤ R) (hN : 0 ≤ N) : nth (aloneV R N) i = if i = (R - 1).toNat then N else 0 := by
  unfold nth aloneV
  rw [List.getD_eq_getElem?_getD, List.getElem?_set]
  by_cases h : i = (R - 1).toNat
  · subst h
    rw [if_pos rfl, if_pos (by rw [List.length_replicate]; omega), if_pos rfl]
    show max N 0 = N
    omega
  · rw [if_neg (fun e => h e.symm), if_neg h, List.getElem?_replicate]
    split <;> rfl
theorem with_eq {zs : List Int} {R N : Int} (hR : 1 ≤ R) (hN : atV zs R < N) : (joinV zs [] ++ List.replicate (R.toNat - zs.length) 0).set (R - 1).toNat N = joinV zs (aloneV R N) := by
  have h0 := nth_nonneg zs (R - 1).toNat
  rw [atV_at (by omega)] at hN
  refine List.ext_getElem? fun i => ?_
  rw [List.getElem?_set]
  have hlj : (joinV zs (aloneV R N))[i]? = if i < max zs.length R.toNat then some (max (nth zs i) (nth (aloneV R N) i)) else none := by
    unfold joinV
    rw [List.getElem?_map, aloneV_length]
    by_cases hi : i < max zs.length R.toNat
    · rw [List.getElem?_range hi, if_pos hi]; rfl
    · rw [List.getElem?_eq_none (by rw [List.length_range]; omega), if_neg hi]; rfl
  rw [hlj]
  have hlen : (joinV zs [] ++ List.replicate (R.toNat - zs.length) 0).length = max zs.length R.toNat := by
    rw [List.length_append, joinV_length, List.length_replicate]; simp; omega
  rw [hlen, nth_alone hR (by omega)]
  by_cases hi : (R - 1).toNat = i
  · subst hi
    rw [if_pos rfl, if_pos (by omega), if_pos (by omega), if_pos rfl]
    congr 1
    omega
  · have hi2 : ¬ i = (R - 1).toNat := fun e => hi e.symm
    rw [if_neg hi, if_neg hi2]
    by_cases hb : i < max zs.length R.toNat
    · rw [if_pos hb]
      have hz := nth_nonneg zs i
      rw [show max (nth zs i) 0 = nth zs i by omega]
      by_cases hz2 : i < zs.length
      · rw [List.getElem?_append_left (by rw [joinV_length]; simp; exact hz2)]
        unfold joinV
        rw [List.getElem?_map, List.getElem?_range (by simp; exact hz2)]
        exact congrArg some (max_nth zs i)
      · rw [List.getElem?_append_right (by rw [joinV_length]; simp; omega), List.getElem?_replicate, joinV_length, nth_far (by omega)]
        rw [if_pos (by simp; omega)]
    · rw [if_neg hb, List.getElem?_eq_none (by rw [hlen]; omega)]
def vVitA (R : Int) (p : Nat) : Nat → Unit → Value
  | 0, _ => .pointer (some ⟨p, 0, none⟩)
  | 1, _ => .int .i64 R
  | 2, _ => .bool true
  | 3, _ => .bool true
  | 4, _ => undef
  | 5, _ => undef
  | 6, _ => undef
  | 7, _ => .bool true
  | 8, _ => .bool true
  | 9, _ => undef
  | 10, _ => undef
  | 11, _ => undef
  | 12, _ => undef
  | 13, _ => undef
  | 14, _ => undef
  | 15, _ => undef
  | 16, _ => .bool true
  | _, _ => undef
def vVitB (R : Int) (p : Nat) : Nat → Unit → Value
  | 0, _ => .pointer (some ⟨p, 0, none⟩)
  | 1, _ => .int .i64 R
  | 2, _ => .bool false
  | 3, _ => .bool false
  | 4, _ => .pointer (some ⟨p, 0, none⟩)
  | 5, _ => .int .i64 R
  | 6, _ => .bool true
  | 7, _ => .bool true
  | 8, _ => .bool true
  | 9, _ => undef
  | 10, _ => undef
  | 11, _ => undef
  | 12, _ => undef
  | 13, _ => undef
  | 14, _ => undef
  | 15, _ => undef
  | 16, _ => .bool true
  | _, _ => undef
def vVitC (A : Option Addr) (n : Nat) (c : Nat) (R : Int) (N : Int) (p : Nat) (x : Int) (q : Bool) : Nat → Unit → Value
  | 0, _ => .pointer (some ⟨p, 0, none⟩)
  | 1, _ => .int .i64 R
  | 2, _ => .bool false
  | 3, _ => .bool false
  | 4, _ => .pointer (some ⟨p, 0, none⟩)
  | 5, _ => .int .i64 R
  | 6, _ => .bool false
  | 7, _ => .bool false
  | 8, _ => .bool false
  | 9, _ => .pointer (some ⟨p, 1, none⟩)
  | 10, _ => .int .i64 N
  | 11, _ => .slice A n c
  | 12, _ => .pointer (some ⟨p, 0, none⟩)
  | 13, _ => .int .i64 R
  | 14, _ => .int .i64 x
  | 15, _ => .bool q
  | 16, _ => .bool q
  | _, _ => undef
set_option maxRecDepth 20000 in
set_option maxHeartbeats 1000000 in
theorem rWith_calls (n c : Nat) (A : Option Addr) (zs : List Int) (R N : Int) (w : World) (h : NI w A n zs) (hn : n ≤ 1000000) :
    Calls Try.prog 17 #[.slice A n c, .agg #[.int .i64 R, .int .i64 N]] w fun e w' => ∃ v, e = .returned v ∧ OwnN w' w.heap.size v (withV zs R N).length (withV zs R N) ∧ Below w.heap.size w w' := by
  obtain ⟨p, hp⟩ : ∃ p, w.heap.size = p := ⟨_, rfl⟩
  obtain ⟨w0, hw0⟩ : ∃ w0, w0 = w.alloc (.cells #[.int .i64 R, .int .i64 N] 24) := ⟨_, rfl⟩
  have hb0 : Below w.heap.size w w0 := by rw [hw0]; exact below_new w _
  have hk0 : Blk w0 p 24 #[.int .i64 R, .int .i64 N] := by rw [hw0, ← hp]; exact Blk.new w _ _
  obtain ⟨x, hx⟩ : ∃ x, atV zs R = x := ⟨_, rfl⟩
  have hlen := h.1
  have HJ := hid (rJoin_calls n c 0 0 A none zs [] w0 (h.keep hb0) (NI.nil _ _) hn (by omega))
  have HH := hid h
  have HB0 := hid hb0; have HW0 := hid hw0; have HPP := hid hp; have HX := hid hx; have HK0 := hid hk0
  obtain ⟨ws, hws⟩ : ∃ ws, withV zs R N = ws := ⟨_, rfl⟩
  rw [hws]
  have HQ := hid (show ws = if R < 1 ∨ 16 < R ∨ N ≤ x then joinV zs [] else joinV zs (aloneV R N) from by rw [← hws]; unfold withV; rw [hx])
  clear h hb0 hw0 hp hx hws hk0
  go_enter Try.func17, Try.ntmps17
  go_wp2_with fail
  rw [← HW0.out, HPP.out]
  refine HJ.out.mono ?_
  rintro e w1 ⟨o1, rfl, ho1, hb1⟩
  have hn0 : max n 0 = n := by omega
  rw [hn0] at ho1
  have HO1 := hid (show OwnN w1 w.heap.size o1 n (joinV zs []) from ho1.lower HB0.out.size)
  have HB1 := hid (HB0.out.trans (hb1.mono HB0.out.size))
  have HP := hid (HK0.out.keep hb1)
  have HAT := hid (fun (W : World) (hb : Below w1.heap.size w1 W) => show Calls Try.prog 20 #[.slice A n c, .int .i64 R] W fun e w' => e = .returned (.int .i64 x) ∧ W = w' from by
    rw [← HX.out]; exact rAt_calls n c A zs R W ((HH.out.keep HB1.out).keep hb) (by omega))
  clear ho1 hb1 HJ HK0 HW0 hn0
  have hj0 : (joinV zs []).length = n := by rw [joinV_length, hlen]; simp
  have HJ0 := hid hj0
  clear hj0
  by_cases hR : R < 1
  · rw [if_pos (.inl hR)] at HQ
    go_wp2_with fail
    refine wp_region_invG 42 () (vVitA R p) (fun _ _ W => Below w1.heap.size w1 W) (by kernel_rfl) (by kernel_rfl) (by exact Nat.le_refl 42) ?_ ?_ ?_
    · exact (Below.refl _ _).drew
    · intro i o f gh a W hi hf hdep hsame hcl hval hS
      rcases i with _ | _ | _ | _ | _ | _ | _ | _ | _ | _ | _ | _ | _ | _ | _ | _ | _ | i
      all_goals simp only [List.getElem?_cons_succ, List.getElem?_cons_zero, List.getElem?_nil, Option.some.injEq, reduceCtorEq] at hi
      all_goals subst hi
      · have E3 : a.tmps[3]? = some (.pointer (some ⟨p, 0, none⟩)) := (same_of hsame 3 (by rfl)).trans rfl
        refine g_plain rfl ?_
        exact does_value (w' := W) (v := .pointer (some ⟨p, 0, none⟩)) (by go_simp) ⟨(), .inr rfl, hS⟩
      · have E8 := hval 0 _ 8 rfl rfl (dep_of hdep 0 (by rfl))
        unfold vVitA at E8
        have kp := HP.out.keep hS
        have c0 := kp.cell 0 rfl
        have c1 := kp.cell 1 rfl
        refine g_plain rfl ?_
        exact does_value (w' := W) (v := .int .i64 R) (by go_simp) ⟨(), .inr rfl, hS⟩
      · have E9 := hval 1 _ 9 rfl rfl (dep_of hdep 1 (by rfl))
        unfold vVitA at E9
        refine g_plain rfl ?_
        exact does_value (w' := W) (v := .bool true) (by go_simp) ⟨(), .inr rfl, hS⟩
      · have E10 := hval 2 _ 10 rfl rfl (dep_of hdep 2 (by rfl))
        unfold vVitA at E10
        refine g_plain rfl ?_
        exact does_value (w' := W) (v := .bool true) (by go_simp) ⟨(), .inr rfl, hS⟩
      · have EG := hval 3 _ 11 rfl rfl (dep_of hdep 3 (by rfl))
        unfold vVitA at EG
        exact g_skip rfl rfl rfl EG rfl ⟨(), .inr rfl, hS⟩
      · have EG := hval 3 _ 11 rfl rfl (dep_of hdep 3 (by rfl))
        unfold vVitA at EG
        exact g_skip rfl rfl rfl EG rfl ⟨(), .inr rfl, hS⟩
      · have EG := hval 3 _ 11 rfl rfl (dep_of hdep 3 (by rfl))
        unfold vVitA at EG
        exact g_skip rfl rfl rfl EG rfl ⟨(), .inr rfl, hS⟩
      · have E11 := hval 3 _ 11 rfl rfl (dep_of hdep 3 (by rfl))
        have E14 := hval 6 _ 14 rfl rfl (dep_of hdep 6 (by rfl))
        unfold vVitA at E11 E14
        refine g_plain rfl ?_
        exact does_value (w' := W) (v := .bool true) (by go_simp) ⟨(), .inr rfl, hS⟩
      · have E15 := hval 7 _ 15 rfl rfl (dep_of hdep 7 (by rfl))
        unfold vVitA at E15
        refine g_plain rfl ?_
        exact does_value (w' := W) (v := .bool true) (by go_simp) ⟨(), .inr rfl, hS⟩
      · have EG := hval 8 _ 16 rfl rfl (dep_of hdep 8 (by rfl))
        unfold vVitA at EG
        exact g_skip rfl rfl rfl EG rfl ⟨(), .inr rfl, hS⟩
      · have EG := hval 8 _ 16 rfl rfl (dep_of hdep 8 (by rfl))
        unfold vVitA at EG
        exact g_skip rfl rfl rfl EG rfl ⟨(), .inr rfl, hS⟩
      · have EG := hval 8 _ 16 rfl rfl (dep_of hdep 8 (by rfl))
        unfold vVitA at EG
        exact g_skip rfl rfl rfl EG rfl ⟨(), .inr rfl, hS⟩
      · have EG := hval 8 _ 16 rfl rfl (dep_of hdep 8 (by rfl))
        unfold vVitA at EG
        exact g_skip rfl rfl rfl EG rfl ⟨(), .inr rfl, hS⟩
      · have EG := hval 8 _ 16 rfl rfl (dep_of hdep 8 (by rfl))
        unfold vVitA at EG
        exact g_skip rfl rfl rfl EG rfl ⟨(), .inr rfl, hS⟩
      · have EG := hval 8 _ 16 rfl rfl (dep_of hdep 8 (by rfl))
        unfold vVitA at EG
        exact g_skip rfl rfl rfl EG rfl ⟨(), .inr rfl, hS⟩
      · have EG := hval 8 _ 16 rfl rfl (dep_of hdep 8 (by rfl))
        unfold vVitA at EG
        exact g_skip rfl rfl rfl EG rfl ⟨(), .inr rfl, hS⟩
      · have E16 := hval 8 _ 16 rfl rfl (dep_of hdep 8 (by rfl))
        have E23 := hval 15 _ 23 rfl rfl (dep_of hdep 15 (by rfl))
        unfold vVitA at E16 E23
        refine g_plain rfl ?_
        exact does_value (w' := W) (v := .bool true) (by go_simp) ⟨(), .inr rfl, hS⟩
    · intro gh W hS
      have HEnd := hid (show OwnN W w.heap.size o1 ws.length ws ∧ Below w.heap.size w W from ⟨by rw [HQ.out, HJ0.out]; exact HO1.out.keep hS, HB1.out.trans (hS.mono HB1.out.size)⟩)
      clear hS
      simp only [putAll, vVitA, Nat.reduceAdd, Nat.zero_add, Act.put, List.setIfInBounds_toArray, List.set_cons_zero, List.set_cons_succ]
      go_wp2_with fail
      go_ret
      exact ⟨o1, rfl, HEnd.out⟩
  · by_cases hR2 : 16 < R
    · rw [if_pos (.inr (.inl hR2))] at HQ
      go_wp2_with fail
      refine wp_region_invG 42 () (vVitB R p) (fun _ _ W => Below w1.heap.size w1 W) (by kernel_rfl) (by kernel_rfl) (by exact Nat.le_refl 42) ?_ ?_ ?_
      · exact (Below.refl _ _).drew
      · intro i o f gh a W hi hf hdep hsame hcl hval hS
        rcases i with _ | _ | _ | _ | _ | _ | _ | _ | _ | _ | _ | _ | _ | _ | _ | _ | _ | i
        all_goals simp only [List.getElem?_cons_succ, List.getElem?_cons_zero, List.getElem?_nil, Option.some.injEq, reduceCtorEq] at hi
        all_goals subst hi
        · have E3 : a.tmps[3]? = some (.pointer (some ⟨p, 0, none⟩)) := (same_of hsame 3 (by rfl)).trans rfl
          refine g_plain rfl ?_
          exact does_value (w' := W) (v := .pointer (some ⟨p, 0, none⟩)) (by go_simp) ⟨(), .inr rfl, hS⟩
        · have E8 := hval 0 _ 8 rfl rfl (dep_of hdep 0 (by rfl))
          unfold vVitB at E8
          have kp := HP.out.keep hS
          have c0 := kp.cell 0 rfl
          have c1 := kp.cell 1 rfl
          refine g_plain rfl ?_
          exact does_value (w' := W) (v := .int .i64 R) (by go_simp) ⟨(), .inr rfl, hS⟩
        · have E9 := hval 1 _ 9 rfl rfl (dep_of hdep 1 (by rfl))
          unfold vVitB at E9
          refine g_plain rfl ?_
          exact does_value (w' := W) (v := .bool false) (by go_simp) ⟨(), .inr rfl, hS⟩
        · have E10 := hval 2 _ 10 rfl rfl (dep_of hdep 2 (by rfl))
          unfold vVitB at E10
          refine g_plain rfl ?_
          exact does_value (w' := W) (v := .bool false) (by go_simp) ⟨(), .inr rfl, hS⟩
        · have EG := hval 3 _ 11 rfl rfl (dep_of hdep 3 (by rfl))
          have E3 : a.tmps[3]? = some (.pointer (some ⟨p, 0, none⟩)) := (same_of hsame 3 (by rfl)).trans rfl
          unfold vVitB at EG
          refine g_want rfl rfl rfl EG ?_
          exact does_value (w' := W) (v := .pointer (some ⟨p, 0, none⟩)) (by go_simp) ⟨(), .inr rfl, hS⟩
        · have EG := hval 3 _ 11 rfl rfl (dep_of hdep 3 (by rfl))
          have E12 := hval 4 _ 12 rfl rfl (dep_of hdep 4 (by rfl))
          unfold vVitB at EG E12
          have kp := HP.out.keep hS
          have c0 := kp.cell 0 rfl
          have c1 := kp.cell 1 rfl
          refine g_want rfl rfl rfl EG ?_
          exact does_value (w' := W) (v := .int .i64 R) (by go_simp) ⟨(), .inr rfl, hS⟩
        · have EG := hval 3 _ 11 rfl rfl (dep_of hdep 3 (by rfl))
          have E13 := hval 5 _ 13 rfl rfl (dep_of hdep 5 (by rfl))
          unfold vVitB at EG E13
          refine g_want rfl rfl rfl EG ?_
          exact does_value (w' := W) (v := .bool true) (by go_simp) ⟨(), .inr rfl, hS⟩
        · have E11 := hval 3 _ 11 rfl rfl (dep_of hdep 3 (by rfl))
          have E14 := hval 6 _ 14 rfl rfl (dep_of hdep 6 (by rfl))
          unfold vVitB at E11 E14
          refine g_plain rfl ?_
          exact does_value (w' := W) (v := .bool true) (by go_simp) ⟨(), .inr rfl, hS⟩
        · have E15 := hval 7 _ 15 rfl rfl (dep_of hdep 7 (by rfl))
          unfold vVitB at E15
          refine g_plain rfl ?_
          exact does_value (w' := W) (v := .bool true) (by go_simp) ⟨(), .inr rfl, hS⟩
        · have EG := hval 8 _ 16 rfl rfl (dep_of hdep 8 (by rfl))
          unfold vVitB at EG
          exact g_skip rfl rfl rfl EG rfl ⟨(), .inr rfl, hS⟩
        · have EG := hval 8 _ 16 rfl rfl (dep_of hdep 8 (by rfl))
          unfold vVitB at EG
          exact g_skip rfl rfl rfl EG rfl ⟨(), .inr rfl, hS⟩
        · have EG := hval 8 _ 16 rfl rfl (dep_of hdep 8 (by rfl))
          unfold vVitB at EG
          exact g_skip rfl rfl rfl EG rfl ⟨(), .inr rfl, hS⟩
        · have EG := hval 8 _ 16 rfl rfl (dep_of hdep 8 (by rfl))
          unfold vVitB at EG
          exact g_skip rfl rfl rfl EG rfl ⟨(), .inr rfl, hS⟩
        · have EG := hval 8 _ 16 rfl rfl (dep_of hdep 8 (by rfl))
          unfold vVitB at EG
          exact g_skip rfl rfl rfl EG rfl ⟨(), .inr rfl, hS⟩
        · have EG := hval 8 _ 16 rfl rfl (dep_of hdep 8 (by rfl))
          unfold vVitB at EG
          exact g_skip rfl rfl rfl EG rfl ⟨(), .inr rfl, hS⟩
        · have EG := hval 8 _ 16 rfl rfl (dep_of hdep 8 (by rfl))
          unfold vVitB at EG
          exact g_skip rfl rfl rfl EG rfl ⟨(), .inr rfl, hS⟩
        · have E16 := hval 8 _ 16 rfl rfl (dep_of hdep 8 (by rfl))
          have E23 := hval 15 _ 23 rfl rfl (dep_of hdep 15 (by rfl))
          unfold vVitB at E16 E23
          refine g_plain rfl ?_
          exact does_value (w' := W) (v := .bool true) (by go_simp) ⟨(), .inr rfl, hS⟩
      · intro gh W hS
        have HEnd := hid (show OwnN W w.heap.size o1 ws.length ws ∧ Below w.heap.size w W from ⟨by rw [HQ.out, HJ0.out]; exact HO1.out.keep hS, HB1.out.trans (hS.mono HB1.out.size)⟩)
        clear hS
        simp only [putAll, vVitB, Nat.reduceAdd, Nat.zero_add, Act.put, List.setIfInBounds_toArray, List.set_cons_zero, List.set_cons_succ]
        go_wp2_with fail
        go_ret
        exact ⟨o1, rfl, HEnd.out⟩
    · obtain ⟨q, hq⟩ : ∃ q, decide (N ≤ x) = q := ⟨_, rfl⟩
      obtain ⟨k, hRk⟩ : ∃ k : Nat, R = (k : Int) + 1 := ⟨(R - 1).toNat, by omega⟩
      have hk : k ≤ 15 := by omega
      have HRK := hid hRk
      clear hRk
      go_wp2_with fail
      refine wp_region_invG 42 () (vVitC A n c R N p x q) (fun _ _ W => Below w1.heap.size w1 W) (by kernel_rfl) (by kernel_rfl) (by exact Nat.le_refl 42) ?_ ?_ ?_
      · exact (Below.refl _ _).drew
      · intro i o f gh a W hi hf hdep hsame hcl hval hS
        rcases i with _ | _ | _ | _ | _ | _ | _ | _ | _ | _ | _ | _ | _ | _ | _ | _ | _ | i
        all_goals simp only [List.getElem?_cons_succ, List.getElem?_cons_zero, List.getElem?_nil, Option.some.injEq, reduceCtorEq] at hi
        all_goals subst hi
        · have E3 : a.tmps[3]? = some (.pointer (some ⟨p, 0, none⟩)) := (same_of hsame 3 (by rfl)).trans rfl
          refine g_plain rfl ?_
          exact does_value (w' := W) (v := .pointer (some ⟨p, 0, none⟩)) (by go_simp) ⟨(), .inr rfl, hS⟩
        · have E8 := hval 0 _ 8 rfl rfl (dep_of hdep 0 (by rfl))
          unfold vVitC at E8
          have kp := HP.out.keep hS
          have c0 := kp.cell 0 rfl
          have c1 := kp.cell 1 rfl
          refine g_plain rfl ?_
          exact does_value (w' := W) (v := .int .i64 R) (by go_simp) ⟨(), .inr rfl, hS⟩
        · have E9 := hval 1 _ 9 rfl rfl (dep_of hdep 1 (by rfl))
          unfold vVitC at E9
          refine g_plain rfl ?_
          exact does_value (w' := W) (v := .bool false) (by go_simp) ⟨(), .inr rfl, hS⟩
        · have E10 := hval 2 _ 10 rfl rfl (dep_of hdep 2 (by rfl))
          unfold vVitC at E10
          refine g_plain rfl ?_
          exact does_value (w' := W) (v := .bool false) (by go_simp) ⟨(), .inr rfl, hS⟩
        · have EG := hval 3 _ 11 rfl rfl (dep_of hdep 3 (by rfl))
          have E3 : a.tmps[3]? = some (.pointer (some ⟨p, 0, none⟩)) := (same_of hsame 3 (by rfl)).trans rfl
          unfold vVitC at EG
          refine g_want rfl rfl rfl EG ?_
          exact does_value (w' := W) (v := .pointer (some ⟨p, 0, none⟩)) (by go_simp) ⟨(), .inr rfl, hS⟩
        · have EG := hval 3 _ 11 rfl rfl (dep_of hdep 3 (by rfl))
          have E12 := hval 4 _ 12 rfl rfl (dep_of hdep 4 (by rfl))
          unfold vVitC at EG E12
          have kp := HP.out.keep hS
          have c0 := kp.cell 0 rfl
          have c1 := kp.cell 1 rfl
          refine g_want rfl rfl rfl EG ?_
          exact does_value (w' := W) (v := .int .i64 R) (by go_simp) ⟨(), .inr rfl, hS⟩
        · have EG := hval 3 _ 11 rfl rfl (dep_of hdep 3 (by rfl))
          have E13 := hval 5 _ 13 rfl rfl (dep_of hdep 5 (by rfl))
          unfold vVitC at EG E13
          refine g_want rfl rfl rfl EG ?_
          exact does_value (w' := W) (v := .bool false) (by go_simp) ⟨(), .inr rfl, hS⟩
        · have E11 := hval 3 _ 11 rfl rfl (dep_of hdep 3 (by rfl))
          have E14 := hval 6 _ 14 rfl rfl (dep_of hdep 6 (by rfl))
          unfold vVitC at E11 E14
          refine g_plain rfl ?_
          exact does_value (w' := W) (v := .bool false) (by go_simp) ⟨(), .inr rfl, hS⟩
        · have E15 := hval 7 _ 15 rfl rfl (dep_of hdep 7 (by rfl))
          unfold vVitC at E15
          refine g_plain rfl ?_
          exact does_value (w' := W) (v := .bool false) (by go_simp) ⟨(), .inr rfl, hS⟩
        · have EG := hval 8 _ 16 rfl rfl (dep_of hdep 8 (by rfl))
          have E3 : a.tmps[3]? = some (.pointer (some ⟨p, 0, none⟩)) := (same_of hsame 3 (by rfl)).trans rfl
          unfold vVitC at EG
          refine g_want rfl rfl rfl EG ?_
          exact does_value (w' := W) (v := .pointer (some ⟨p, 1, none⟩)) (by go_simp) ⟨(), .inr rfl, hS⟩
        · have EG := hval 8 _ 16 rfl rfl (dep_of hdep 8 (by rfl))
          have E17 := hval 9 _ 17 rfl rfl (dep_of hdep 9 (by rfl))
          unfold vVitC at EG E17
          have kp := HP.out.keep hS
          have c0 := kp.cell 0 rfl
          have c1 := kp.cell 1 rfl
          refine g_want rfl rfl rfl EG ?_
          exact does_value (w' := W) (v := .int .i64 N) (by go_simp) ⟨(), .inr rfl, hS⟩
        · have EG := hval 8 _ 16 rfl rfl (dep_of hdep 8 (by rfl))
          have E0 : a.tmps[0]? = some (.slice A n c) := (same_of hsame 0 (by rfl)).trans rfl
          unfold vVitC at EG
          refine g_want rfl rfl rfl EG ?_
          exact does_value (w' := W) (v := .slice A n c) (by go_simp) ⟨(), .inr rfl, hS⟩
        · have EG := hval 8 _ 16 rfl rfl (dep_of hdep 8 (by rfl))
          have E3 : a.tmps[3]? = some (.pointer (some ⟨p, 0, none⟩)) := (same_of hsame 3 (by rfl)).trans rfl
          unfold vVitC at EG
          refine g_want rfl rfl rfl EG ?_
          exact does_value (w' := W) (v := .pointer (some ⟨p, 0, none⟩)) (by go_simp) ⟨(), .inr rfl, hS⟩
        · have EG := hval 8 _ 16 rfl rfl (dep_of hdep 8 (by rfl))
          have E20 := hval 12 _ 20 rfl rfl (dep_of hdep 12 (by rfl))
          unfold vVitC at EG E20
          have kp := HP.out.keep hS
          have c0 := kp.cell 0 rfl
          have c1 := kp.cell 1 rfl
          refine g_want rfl rfl rfl EG ?_
          exact does_value (w' := W) (v := .int .i64 R) (by go_simp) ⟨(), .inr rfl, hS⟩
        · have EG := hval 8 _ 16 rfl rfl (dep_of hdep 8 (by rfl))
          have E19 := hval 11 _ 19 rfl rfl (dep_of hdep 11 (by rfl))
          have E21 := hval 13 _ 21 rfl rfl (dep_of hdep 13 (by rfl))
          unfold vVitC at EG E19 E21
          refine g_want rfl rfl rfl EG ?_
          refine does_call 20 #[.slice A n c, .int .i64 R] (by go_simp) ((HAT.out W hS).mono ?_)
          rintro e w' ⟨rfl, rfl⟩
          exact ⟨.int .i64 x, rfl, (), .inr rfl, hS⟩
        · have EG := hval 8 _ 16 rfl rfl (dep_of hdep 8 (by rfl))
          have E18 := hval 10 _ 18 rfl rfl (dep_of hdep 10 (by rfl))
          have E22 := hval 14 _ 22 rfl rfl (dep_of hdep 14 (by rfl))
          unfold vVitC at EG E18 E22
          refine g_want rfl rfl rfl EG ?_
          exact does_value (w' := W) (v := .bool q) (by go_simp) ⟨(), .inr rfl, hS⟩
        · have E16 := hval 8 _ 16 rfl rfl (dep_of hdep 8 (by rfl))
          have E23 := hval 15 _ 23 rfl rfl (dep_of hdep 15 (by rfl))
          unfold vVitC at E16 E23
          refine g_plain rfl ?_
          exact does_value (w' := W) (v := .bool q) (by go_simp) ⟨(), .inr rfl, hS⟩
      · intro gh W hS
        have HOW := hid (HO1.out.keep hS)
        have HBW := hid (HB1.out.trans (hS.mono HB1.out.size))
        have HPW := hid (HP.out.keep hS)
        clear hS HO1 HB1 HP HAT
        simp only [putAll, vVitC, Nat.reduceAdd, Nat.zero_add, Act.put, List.setIfInBounds_toArray, List.set_cons_zero, List.set_cons_succ]
        have hRk := HRK.out
        subst hRk
        clear HRK
        cases q with
        | true =>
          rw [if_pos (.inr (.inr (by simpa using hq)))] at HQ
          have HEnd := hid (show OwnN W w.heap.size o1 ws.length ws ∧ Below w.heap.size w W from ⟨by rw [HQ.out, HJ0.out]; exact HOW.out, HBW.out⟩)
          clear hq
          go_wp2_with fail
          go_ret
          exact ⟨o1, rfl, HEnd.out⟩
        | false =>
          have hNx : ¬ N ≤ x := by simpa using hq
          rw [if_neg (by omega)] at HQ
          have HWE := hid (show ws = (joinV zs [] ++ List.replicate (k + 1 - n) 0).set k N from by
            have := with_eq (zs := zs) (R := (k : Int) + 1) (N := N) (by omega) (by rw [HX.out]; omega)
            rw [HQ.out, ← this, hlen, show ((k : Int) + 1).toNat = k + 1 by omega, show ((k : Int) + 1 - 1).toNat = k by omega])
          have hpl : p < w.heap.size + 1 := by rw [HPP.out]; omega
          clear hq hNx hR hR2
          go_wp2_with fail
          go_loopw [5] (fun o wr => ∃ j : Nat, (j = 0 ∨ n + j ≤ k + 1) ∧ Hid (OwnN wr w.heap.size o (n + j) (joinV zs [] ++ List.replicate j 0)) ∧ Hid (Below w.heap.size w wr) ∧ Hid (Blk wr p 24 #[.int .i64 ((k : Int) + 1), .int .i64 N])) (fun o _ => k + 1 - (match o with | .slice _ n _ => n | _ => 0))
          case atStart => exact ⟨0, .inl rfl, by simpa using HOW, HBW, HPW⟩
          case round =>
            obtain ⟨j, hj, HO, HB, HP⟩ := hrel
            obtain ⟨A3, c3, rfl, hc3, hni3, hab3⟩ := HO.out.ni
            have d0 : wr.cell? ⟨p, 0, none⟩ = some (.int .i64 ((k : Int) + 1)) := HP.out.cell 0 rfl
            have d1 : wr.cell? ⟨p, 1, none⟩ = some (.int .i64 N) := HP.out.cell 1 rfl
            obtain ⟨m, hm⟩ : ∃ m, n + j = m := ⟨_, rfl⟩
            rw [hm] at HO hc3 hni3 ⊢
            have hpb := hpl
            by_cases hlt : m < k + 1
            · have hlt' : (m : Int) < (k : Int) + 1 := by omega
              have HM := hid hm
              clear hm
              go_wp2_with (refine wpList_append_ints _ rfl _ _ rfl w.heap.size _ m _ rfl (lit1_own HO.out _) _ 1 1 [_] rfl (lit1_ni _ _) (by omega) (by rw [size_new]; have := HB.out.size; omega) ?_; intro v3 w3 ho hg _; refine Held.go ?_)
              have hbl := lit1_below HO.out HB.out.size _ hg
              have hb3 := HB.out.trans hbl
              have hP3 : Blk w3 p 24 #[.int .i64 ((k : Int) + 1), .int .i64 N] := (HP.out.keep (below_new wr _)).grown hg (own_ne HO.out HP.out (by decide))
              rw [List.append_assoc, show List.replicate j (0 : Int) ++ [0] = List.replicate (j + 1) 0 from by rw [List.replicate_succ']] at ho
              obtain ⟨A4, c4, rfl, _, _, _⟩ := ho.ni
              have HO3 := hid ho; have HB3 := hid hb3; have HP3 := hid hP3
              clear ho hg hbl hb3 hP3 HO HB HP hni3 hab3 d0 d1
              unfold Held
              go_wp2_with fail
              go_roundw
              case rel => exact ⟨j + 1, .inr (by have := HM.out; omega), by rw [show n + (j + 1) = m + 1 by have := HM.out; omega]; exact HO3, HB3, HP3⟩
              case measure => simp; omega
            · have hkm : k < m := by omega
              have hjk : j = k + 1 - n := by omega
              obtain ⟨b, off, z, rfl, _, hz⟩ := hni3.at_ hkm
              obtain ⟨hob, rfl⟩ := hab3 b off rfl
              rw [hjk] at HO
              have HSt := hid (HO.out.set hkm N)
              rw [← HWE.out] at HSt
              have HBt := hid (HB.out.setCell (p := ⟨b, k, none⟩) ((HO.out.lt b hob).1) (.int .i64 N))
              have hfz : wr.frozen? ⟨b, k, none⟩ = false := by
                rcases HO.out.2 with ⟨e, _⟩ | ⟨g, cap, cur, e, _, hg, _⟩
                · cases e
                · cases e
                  exact Blk.frozen (g := b) (t := 3) (cs := cur) hg k
              rw [Nat.zero_add] at hz
              have hwl : ws.length = m := by have := HSt.out.len; exact this
              have HWL := hid hwl
              have hwr : IntKind.i64.wrap ((k : Int) + 1 - 1) = (k : Int) := by rw [IntWalk.i64_in _ (by omega)]; omega
              have hlt' : ¬ (m : Int) < (k : Int) + 1 := by omega
              have hkm' : (k : Int) < (m : Int) := by omega
              clear hni3 hab3 hm hjk hob hwl hj
              go_wp2_with fail
              go_ret
              exact ⟨_, rfl, by rw [HWL.out]; exact HSt.out, HBt.out⟩
end Go.Proofs.Ytfcildpigkobcaa
