/- Contract: With of the project. Written by tools/mkvd.py. -/
import Derived.Test.YtfcildpigkobcaaVcNext
namespace Go.Proofs.Ytfcildpigkobcaa
open Go Go.RowKit Go.Shelf

theorem NI.set {w : World} {g o n k : Nat} {zs : List Int} {z : Int} (h : NI w (some ⟨g, o, none⟩) n zs) (hk : k < n) : NI (w.setCell ⟨g, o + k, none⟩ (.int .i64 z)) (some ⟨g, o, none⟩) n (zs.set k z) := by
  refine ⟨by rw [List.length_set]; exact h.1, fun hn => ⟨g, o, rfl, fun j y hj => ?_⟩⟩
  obtain ⟨b, off, e, hc⟩ := h.2 hn
  cases e
  have hl := h.1
  rw [List.getElem?_set] at hj
  by_cases e : k = j
  · subst e
    rw [if_pos rfl, if_pos (by omega)] at hj
    cases hj
    have hz := hc k zs[k] (List.getElem?_eq_getElem (by omega))
    exact World.cell?_setCell_same _ _ _ hz
  · rw [if_neg e] at hj
    have := hc j y hj
    rw [← this]
    exact World.cell?_setCell_other _ _ _ _ (by intro e2; injection e2 with _ e4; omega)
def aloneV (R N : Int) : List Int := (List.replicate R.toNat 0).set (R - 1).toNat N
def withV (zs : List Int) (R N : Int) : List Int := if R < 1 ∨ 16 < R ∨ N ≤ atV zs R then joinV zs [] else joinV zs (aloneV R N)
def vWitA (R : Int) (p : Nat) : Nat → Unit → Value
  | 0, _ => .pointer (some ⟨p, 0, none⟩)
  | 1, _ => .int .i64 R
  | 2, _ => .bool true
  | 3, _ => .bool true
  | 4, _ => undef
  | 5, _ => undef
  | 6, _ => undef
  | 7, _ => .bool true
  | 8, _ => .bool true
  | 9, _ => undef
  | 10, _ => undef
  | 11, _ => undef
  | 12, _ => undef
  | 13, _ => undef
  | 14, _ => undef
  | 15, _ => undef
  | 16, _ => .bool true
  | _, _ => undef
def vWitB (R : Int) (p : Nat) : Nat → Unit → Value
  | 0, _ => .pointer (some ⟨p, 0, none⟩)
  | 1, _ => .int .i64 R
  | 2, _ => .bool false
  | 3, _ => .bool false
  | 4, _ => .pointer (some ⟨p, 0, none⟩)
  | 5, _ => .int .i64 R
  | 6, _ => .bool true
  | 7, _ => .bool true
  | 8, _ => .bool true
  | 9, _ => undef
  | 10, _ => undef
  | 11, _ => undef
  | 12, _ => undef
  | 13, _ => undef
  | 14, _ => undef
  | 15, _ => undef
  | 16, _ => .bool true
  | _, _ => undef
def vWitC (A : Option Addr) (n : Nat) (c : Nat) (R : Int) (N : Int) (p : Nat) (x : Int) (q : Bool) : Nat → Unit → Value
  | 0, _ => .pointer (some ⟨p, 0, none⟩)
  | 1, _ => .int .i64 R
  | 2, _ => .bool false
  | 3, _ => .bool false
  | 4, _ => .pointer (some ⟨p, 0, none⟩)
  | 5, _ => .int .i64 R
  | 6, _ => .bool false
  | 7, _ => .bool false
  | 8, _ => .bool false
  | 9, _ => .pointer (some ⟨p, 1, none⟩)
  | 10, _ => .int .i64 N
  | 11, _ => .slice A n c
  | 12, _ => .pointer (some ⟨p, 0, none⟩)
  | 13, _ => .int .i64 R
  | 14, _ => .int .i64 x
  | 15, _ => .bool q
  | 16, _ => .bool q
  | _, _ => undef
set_option maxRecDepth 20000 in
set_option maxHeartbeats 1000000 in
theorem vWith_calls (n c : Nat) (A : Option Addr) (zs : List Int) (R N : Int) (w : World) (h : NI w A n zs) (hn : n ≤ 1000000) :
    Calls Try.prog 13 #[.slice A n c, .agg #[.int .i64 R, .int .i64 N]] w fun e w' => ∃ v, e = .returned v ∧ OwnN w' w.heap.size v (withV zs R N).length (withV zs R N) ∧ Below w.heap.size w w' := by
  obtain ⟨p, hp⟩ : ∃ p, w.heap.size = p := ⟨_, rfl⟩
  obtain ⟨w1, hw1⟩ : ∃ w1, w1 = w.alloc (.cells #[.int .i64 R, .int .i64 N] 24) := ⟨_, rfl⟩
  have hb1 : Below w.heap.size w w1 := by rw [hw1]; exact below_new w _
  have HP := hid (show Blk w1 p 24 #[.int .i64 R, .int .i64 N] from by rw [hw1, ← hp]; exact Blk.new w _ _)
  obtain ⟨x, hx⟩ : ∃ x, atV zs R = x := ⟨_, rfl⟩
  have hlen := h.1
  have HAT := hid (fun (W : World) (hb : Below w1.heap.size w1 W) => show Calls Try.prog 19 #[.slice A n c, .int .i64 R] W fun e w' => e = .returned (.int .i64 x) ∧ W = w' from by
    rw [← hx]; exact vAt_calls n c A zs R W ((h.keep hb1).keep hb) (by omega))
  have HJ := hid (fun (W : World) (hb : Below w.heap.size w W) => show Calls Try.prog 11 #[.slice A n c, .slice none 0 0] W fun e w' => ∃ v, e = .returned v ∧ OwnN w' w.heap.size v (joinV zs []).length (joinV zs []) ∧ Below w.heap.size w w' from by
    refine (join_calls n c 0 0 A none zs [] W (h.keep hb) (NI.nil _ _) hn (by omega)).mono ?_
    rintro e w' ⟨v, rfl, ho, hb2⟩
    refine ⟨v, rfl, ?_, hb.trans (hb2.mono hb.size)⟩
    rw [joinV_length, hlen]
    exact ho.lower hb.size)
  have HH := hid h
  have HB1 := hid hb1; have HW1 := hid hw1; have HPP := hid hp; have HX := hid hx
  obtain ⟨ws, hws⟩ : ∃ ws, withV zs R N = ws := ⟨_, rfl⟩
  rw [hws]
  have HQ := hid (show ws = if R < 1 ∨ 16 < R ∨ N ≤ x then joinV zs [] else joinV zs (aloneV R N) from by rw [← hws]; unfold withV; rw [hx])
  clear h hb1 hw1 hp hx hws
  by_cases hR : R < 1
  · rw [if_pos (.inl hR)] at HQ
    go_enter Try.func13, Try.ntmps13
    go_wp2_with fail
    rw [← HW1.out, HPP.out]
    refine wp_region_invG 38 () (vWitA R p) (fun _ _ W => Below w1.heap.size w1 W) (by kernel_rfl) (by kernel_rfl) (by exact Nat.le_refl 38) ?_ ?_ ?_
    · exact (Below.refl _ _).drew
    · intro i o f gh a W hi hf hdep hsame hcl hval hS
      rcases i with _ | _ | _ | _ | _ | _ | _ | _ | _ | _ | _ | _ | _ | _ | _ | _ | _ | i
      all_goals simp only [List.getElem?_cons_succ, List.getElem?_cons_zero, List.getElem?_nil, Option.some.injEq, reduceCtorEq] at hi
      all_goals subst hi
      · have E3 : a.tmps[3]? = some (.pointer (some ⟨p, 0, none⟩)) := (same_of hsame 3 (by rfl)).trans rfl
        refine g_plain rfl ?_
        exact does_value (w' := W) (v := .pointer (some ⟨p, 0, none⟩)) (by go_simp) ⟨(), .inr rfl, hS⟩
      · have E6 := hval 0 _ 6 rfl rfl (dep_of hdep 0 (by rfl))
        unfold vWitA at E6
        have kp := HP.out.keep hS
        have c0 := kp.cell 0 rfl
        have c1 := kp.cell 1 rfl
        refine g_plain rfl ?_
        exact does_value (w' := W) (v := .int .i64 R) (by go_simp) ⟨(), .inr rfl, hS⟩
      · have E7 := hval 1 _ 7 rfl rfl (dep_of hdep 1 (by rfl))
        unfold vWitA at E7
        refine g_plain rfl ?_
        exact does_value (w' := W) (v := .bool true) (by go_simp) ⟨(), .inr rfl, hS⟩
      · have E8 := hval 2 _ 8 rfl rfl (dep_of hdep 2 (by rfl))
        unfold vWitA at E8
        refine g_plain rfl ?_
        exact does_value (w' := W) (v := .bool true) (by go_simp) ⟨(), .inr rfl, hS⟩
      · have EG := hval 3 _ 9 rfl rfl (dep_of hdep 3 (by rfl))
        unfold vWitA at EG
        exact g_skip rfl rfl rfl EG rfl ⟨(), .inr rfl, hS⟩
      · have EG := hval 3 _ 9 rfl rfl (dep_of hdep 3 (by rfl))
        unfold vWitA at EG
        exact g_skip rfl rfl rfl EG rfl ⟨(), .inr rfl, hS⟩
      · have EG := hval 3 _ 9 rfl rfl (dep_of hdep 3 (by rfl))
        unfold vWitA at EG
        exact g_skip rfl rfl rfl EG rfl ⟨(), .inr rfl, hS⟩
      · have E9 := hval 3 _ 9 rfl rfl (dep_of hdep 3 (by rfl))
        have E12 := hval 6 _ 12 rfl rfl (dep_of hdep 6 (by rfl))
        unfold vWitA at E9 E12
        refine g_plain rfl ?_
        exact does_value (w' := W) (v := .bool true) (by go_simp) ⟨(), .inr rfl, hS⟩
      · have E13 := hval 7 _ 13 rfl rfl (dep_of hdep 7 (by rfl))
        unfold vWitA at E13
        refine g_plain rfl ?_
        exact does_value (w' := W) (v := .bool true) (by go_simp) ⟨(), .inr rfl, hS⟩
      · have EG := hval 8 _ 14 rfl rfl (dep_of hdep 8 (by rfl))
        unfold vWitA at EG
        exact g_skip rfl rfl rfl EG rfl ⟨(), .inr rfl, hS⟩
      · have EG := hval 8 _ 14 rfl rfl (dep_of hdep 8 (by rfl))
        unfold vWitA at EG
        exact g_skip rfl rfl rfl EG rfl ⟨(), .inr rfl, hS⟩
      · have EG := hval 8 _ 14 rfl rfl (dep_of hdep 8 (by rfl))
        unfold vWitA at EG
        exact g_skip rfl rfl rfl EG rfl ⟨(), .inr rfl, hS⟩
      · have EG := hval 8 _ 14 rfl rfl (dep_of hdep 8 (by rfl))
        unfold vWitA at EG
        exact g_skip rfl rfl rfl EG rfl ⟨(), .inr rfl, hS⟩
      · have EG := hval 8 _ 14 rfl rfl (dep_of hdep 8 (by rfl))
        unfold vWitA at EG
        exact g_skip rfl rfl rfl EG rfl ⟨(), .inr rfl, hS⟩
      · have EG := hval 8 _ 14 rfl rfl (dep_of hdep 8 (by rfl))
        unfold vWitA at EG
        exact g_skip rfl rfl rfl EG rfl ⟨(), .inr rfl, hS⟩
      · have EG := hval 8 _ 14 rfl rfl (dep_of hdep 8 (by rfl))
        unfold vWitA at EG
        exact g_skip rfl rfl rfl EG rfl ⟨(), .inr rfl, hS⟩
      · have E14 := hval 8 _ 14 rfl rfl (dep_of hdep 8 (by rfl))
        have E21 := hval 15 _ 21 rfl rfl (dep_of hdep 15 (by rfl))
        unfold vWitA at E14 E21
        refine g_plain rfl ?_
        exact does_value (w' := W) (v := .bool true) (by go_simp) ⟨(), .inr rfl, hS⟩
    · intro gh W hS
      have HC := hid (HJ.out W (HB1.out.trans (hS.mono HB1.out.size)))
      clear hS
      simp only [putAll, vWitA, Nat.reduceAdd, Nat.zero_add, Act.put, List.setIfInBounds_toArray, List.set_cons_zero, List.set_cons_succ]
      go_wp2_with fail
      refine HC.out.mono ?_
      rintro e W2 ⟨v, rfl, hx2⟩
      have HX2 := hid hx2
      clear hx2
      go_wp2_with fail
      go_ret
      exact ⟨v, rfl, by rw [HQ.out]; exact HX2.out⟩
  · by_cases hR2 : 16 < R
    · rw [if_pos (.inr (.inl hR2))] at HQ
      go_enter Try.func13, Try.ntmps13
      go_wp2_with fail
      rw [← HW1.out, HPP.out]
      refine wp_region_invG 38 () (vWitB R p) (fun _ _ W => Below w1.heap.size w1 W) (by kernel_rfl) (by kernel_rfl) (by exact Nat.le_refl 38) ?_ ?_ ?_
      · exact (Below.refl _ _).drew
      · intro i o f gh a W hi hf hdep hsame hcl hval hS
        rcases i with _ | _ | _ | _ | _ | _ | _ | _ | _ | _ | _ | _ | _ | _ | _ | _ | _ | i
        all_goals simp only [List.getElem?_cons_succ, List.getElem?_cons_zero, List.getElem?_nil, Option.some.injEq, reduceCtorEq] at hi
        all_goals subst hi
        · have E3 : a.tmps[3]? = some (.pointer (some ⟨p, 0, none⟩)) := (same_of hsame 3 (by rfl)).trans rfl
          refine g_plain rfl ?_
          exact does_value (w' := W) (v := .pointer (some ⟨p, 0, none⟩)) (by go_simp) ⟨(), .inr rfl, hS⟩
        · have E6 := hval 0 _ 6 rfl rfl (dep_of hdep 0 (by rfl))
          unfold vWitB at E6
          have kp := HP.out.keep hS
          have c0 := kp.cell 0 rfl
          have c1 := kp.cell 1 rfl
          refine g_plain rfl ?_
          exact does_value (w' := W) (v := .int .i64 R) (by go_simp) ⟨(), .inr rfl, hS⟩
        · have E7 := hval 1 _ 7 rfl rfl (dep_of hdep 1 (by rfl))
          unfold vWitB at E7
          refine g_plain rfl ?_
          exact does_value (w' := W) (v := .bool false) (by go_simp) ⟨(), .inr rfl, hS⟩
        · have E8 := hval 2 _ 8 rfl rfl (dep_of hdep 2 (by rfl))
          unfold vWitB at E8
          refine g_plain rfl ?_
          exact does_value (w' := W) (v := .bool false) (by go_simp) ⟨(), .inr rfl, hS⟩
        · have EG := hval 3 _ 9 rfl rfl (dep_of hdep 3 (by rfl))
          have E3 : a.tmps[3]? = some (.pointer (some ⟨p, 0, none⟩)) := (same_of hsame 3 (by rfl)).trans rfl
          unfold vWitB at EG
          refine g_want rfl rfl rfl EG ?_
          exact does_value (w' := W) (v := .pointer (some ⟨p, 0, none⟩)) (by go_simp) ⟨(), .inr rfl, hS⟩
        · have EG := hval 3 _ 9 rfl rfl (dep_of hdep 3 (by rfl))
          have E10 := hval 4 _ 10 rfl rfl (dep_of hdep 4 (by rfl))
          unfold vWitB at EG E10
          have kp := HP.out.keep hS
          have c0 := kp.cell 0 rfl
          have c1 := kp.cell 1 rfl
          refine g_want rfl rfl rfl EG ?_
          exact does_value (w' := W) (v := .int .i64 R) (by go_simp) ⟨(), .inr rfl, hS⟩
        · have EG := hval 3 _ 9 rfl rfl (dep_of hdep 3 (by rfl))
          have E11 := hval 5 _ 11 rfl rfl (dep_of hdep 5 (by rfl))
          unfold vWitB at EG E11
          refine g_want rfl rfl rfl EG ?_
          exact does_value (w' := W) (v := .bool true) (by go_simp) ⟨(), .inr rfl, hS⟩
        · have E9 := hval 3 _ 9 rfl rfl (dep_of hdep 3 (by rfl))
          have E12 := hval 6 _ 12 rfl rfl (dep_of hdep 6 (by rfl))
          unfold vWitB at E9 E12
          refine g_plain rfl ?_
          exact does_value (w' := W) (v := .bool true) (by go_simp) ⟨(), .inr rfl, hS⟩
        · have E13 := hval 7 _ 13 rfl rfl (dep_of hdep 7 (by rfl))
          unfold vWitB at E13
          refine g_plain rfl ?_
          exact does_value (w' := W) (v := .bool true) (by go_simp) ⟨(), .inr rfl, hS⟩
        · have EG := hval 8 _ 14 rfl rfl (dep_of hdep 8 (by rfl))
          unfold vWitB at EG
          exact g_skip rfl rfl rfl EG rfl ⟨(), .inr rfl, hS⟩
        · have EG := hval 8 _ 14 rfl rfl (dep_of hdep 8 (by rfl))
          unfold vWitB at EG
          exact g_skip rfl rfl rfl EG rfl ⟨(), .inr rfl, hS⟩
        · have EG := hval 8 _ 14 rfl rfl (dep_of hdep 8 (by rfl))
          unfold vWitB at EG
          exact g_skip rfl rfl rfl EG rfl ⟨(), .inr rfl, hS⟩
        · have EG := hval 8 _ 14 rfl rfl (dep_of hdep 8 (by rfl))
          unfold vWitB at EG
          exact g_skip rfl rfl rfl EG rfl ⟨(), .inr rfl, hS⟩
        · have EG := hval 8 _ 14 rfl rfl (dep_of hdep 8 (by rfl))
          unfold vWitB at EG
          exact g_skip rfl rfl rfl EG rfl ⟨(), .inr rfl, hS⟩
        · have EG := hval 8 _ 14 rfl rfl (dep_of hdep 8 (by rfl))
          unfold vWitB at EG
          exact g_skip rfl rfl rfl EG rfl ⟨(), .inr rfl, hS⟩
        · have EG := hval 8 _ 14 rfl rfl (dep_of hdep 8 (by rfl))
          unfold vWitB at EG
          exact g_skip rfl rfl rfl EG rfl ⟨(), .inr rfl, hS⟩
        · have E14 := hval 8 _ 14 rfl rfl (dep_of hdep 8 (by rfl))
          have E21 := hval 15 _ 21 rfl rfl (dep_of hdep 15 (by rfl))
          unfold vWitB at E14 E21
          refine g_plain rfl ?_
          exact does_value (w' := W) (v := .bool true) (by go_simp) ⟨(), .inr rfl, hS⟩
      · intro gh W hS
        have HC := hid (HJ.out W (HB1.out.trans (hS.mono HB1.out.size)))
        clear hS
        simp only [putAll, vWitB, Nat.reduceAdd, Nat.zero_add, Act.put, List.setIfInBounds_toArray, List.set_cons_zero, List.set_cons_succ]
        go_wp2_with fail
        refine HC.out.mono ?_
        rintro e W2 ⟨v, rfl, hx2⟩
        have HX2 := hid hx2
        clear hx2
        go_wp2_with fail
        go_ret
        exact ⟨v, rfl, by rw [HQ.out]; exact HX2.out⟩
    · obtain ⟨q, hq⟩ : ∃ q, decide (N ≤ x) = q := ⟨_, rfl⟩
      obtain ⟨k, hRk⟩ : ∃ k : Nat, R = (k : Int) + 1 := ⟨(R - 1).toNat, by omega⟩
      have hk : k ≤ 15 := by omega
      have HRK := hid hRk
      clear hRk
      go_enter Try.func13, Try.ntmps13
      go_wp2_with fail
      rw [← HW1.out, HPP.out]
      refine wp_region_invG 38 () (vWitC A n c R N p x q) (fun _ _ W => Below w1.heap.size w1 W) (by kernel_rfl) (by kernel_rfl) (by exact Nat.le_refl 38) ?_ ?_ ?_
      · exact (Below.refl _ _).drew
      · intro i o f gh a W hi hf hdep hsame hcl hval hS
        rcases i with _ | _ | _ | _ | _ | _ | _ | _ | _ | _ | _ | _ | _ | _ | _ | _ | _ | i
        all_goals simp only [List.getElem?_cons_succ, List.getElem?_cons_zero, List.getElem?_nil, Option.some.injEq, reduceCtorEq] at hi
        all_goals subst hi
        · have E3 : a.tmps[3]? = some (.pointer (some ⟨p, 0, none⟩)) := (same_of hsame 3 (by rfl)).trans rfl
          refine g_plain rfl ?_
          exact does_value (w' := W) (v := .pointer (some ⟨p, 0, none⟩)) (by go_simp) ⟨(), .inr rfl, hS⟩
        · have E6 := hval 0 _ 6 rfl rfl (dep_of hdep 0 (by rfl))
          unfold vWitC at E6
          have kp := HP.out.keep hS
          have c0 := kp.cell 0 rfl
          have c1 := kp.cell 1 rfl
          refine g_plain rfl ?_
          exact does_value (w' := W) (v := .int .i64 R) (by go_simp) ⟨(), .inr rfl, hS⟩
        · have E7 := hval 1 _ 7 rfl rfl (dep_of hdep 1 (by rfl))
          unfold vWitC at E7
          refine g_plain rfl ?_
          exact does_value (w' := W) (v := .bool false) (by go_simp) ⟨(), .inr rfl, hS⟩
        · have E8 := hval 2 _ 8 rfl rfl (dep_of hdep 2 (by rfl))
          unfold vWitC at E8
          refine g_plain rfl ?_
          exact does_value (w' := W) (v := .bool false) (by go_simp) ⟨(), .inr rfl, hS⟩
        · have EG := hval 3 _ 9 rfl rfl (dep_of hdep 3 (by rfl))
          have E3 : a.tmps[3]? = some (.pointer (some ⟨p, 0, none⟩)) := (same_of hsame 3 (by rfl)).trans rfl
          unfold vWitC at EG
          refine g_want rfl rfl rfl EG ?_
          exact does_value (w' := W) (v := .pointer (some ⟨p, 0, none⟩)) (by go_simp) ⟨(), .inr rfl, hS⟩
        · have EG := hval 3 _ 9 rfl rfl (dep_of hdep 3 (by rfl))
          have E10 := hval 4 _ 10 rfl rfl (dep_of hdep 4 (by rfl))
          unfold vWitC at EG E10
          have kp := HP.out.keep hS
          have c0 := kp.cell 0 rfl
          have c1 := kp.cell 1 rfl
          refine g_want rfl rfl rfl EG ?_
          exact does_value (w' := W) (v := .int .i64 R) (by go_simp) ⟨(), .inr rfl, hS⟩
        · have EG := hval 3 _ 9 rfl rfl (dep_of hdep 3 (by rfl))
          have E11 := hval 5 _ 11 rfl rfl (dep_of hdep 5 (by rfl))
          unfold vWitC at EG E11
          refine g_want rfl rfl rfl EG ?_
          exact does_value (w' := W) (v := .bool false) (by go_simp) ⟨(), .inr rfl, hS⟩
        · have E9 := hval 3 _ 9 rfl rfl (dep_of hdep 3 (by rfl))
          have E12 := hval 6 _ 12 rfl rfl (dep_of hdep 6 (by rfl))
          unfold vWitC at E9 E12
          refine g_plain rfl ?_
          exact does_value (w' := W) (v := .bool false) (by go_simp) ⟨(), .inr rfl, hS⟩
        · have E13 := hval 7 _ 13 rfl rfl (dep_of hdep 7 (by rfl))
          unfold vWitC at E13
          refine g_plain rfl ?_
          exact does_value (w' := W) (v := .bool false) (by go_simp) ⟨(), .inr rfl, hS⟩
        · have EG := hval 8 _ 14 rfl rfl (dep_of hdep 8 (by rfl))
          have E3 : a.tmps[3]? = some (.pointer (some ⟨p, 0, none⟩)) := (same_of hsame 3 (by rfl)).trans rfl
          unfold vWitC at EG
          refine g_want rfl rfl rfl EG ?_
          exact does_value (w' := W) (v := .pointer (some ⟨p, 1, none⟩)) (by go_simp) ⟨(), .inr rfl, hS⟩
        · have EG := hval 8 _ 14 rfl rfl (dep_of hdep 8 (by rfl))
          have E15 := hval 9 _ 15 rfl rfl (dep_of hdep 9 (by rfl))
          unfold vWitC at EG E15
          have kp := HP.out.keep hS
          have c0 := kp.cell 0 rfl
          have c1 := kp.cell 1 rfl
          refine g_want rfl rfl rfl EG ?_
          exact does_value (w' := W) (v := .int .i64 N) (by go_simp) ⟨(), .inr rfl, hS⟩
        · have EG := hval 8 _ 14 rfl rfl (dep_of hdep 8 (by rfl))
          have E0 : a.tmps[0]? = some (.slice A n c) := (same_of hsame 0 (by rfl)).trans rfl
          unfold vWitC at EG
          refine g_want rfl rfl rfl EG ?_
          exact does_value (w' := W) (v := .slice A n c) (by go_simp) ⟨(), .inr rfl, hS⟩
        · have EG := hval 8 _ 14 rfl rfl (dep_of hdep 8 (by rfl))
          have E3 : a.tmps[3]? = some (.pointer (some ⟨p, 0, none⟩)) := (same_of hsame 3 (by rfl)).trans rfl
          unfold vWitC at EG
          refine g_want rfl rfl rfl EG ?_
          exact does_value (w' := W) (v := .pointer (some ⟨p, 0, none⟩)) (by go_simp) ⟨(), .inr rfl, hS⟩
        · have EG := hval 8 _ 14 rfl rfl (dep_of hdep 8 (by rfl))
          have E18 := hval 12 _ 18 rfl rfl (dep_of hdep 12 (by rfl))
          unfold vWitC at EG E18
          have kp := HP.out.keep hS
          have c0 := kp.cell 0 rfl
          have c1 := kp.cell 1 rfl
          refine g_want rfl rfl rfl EG ?_
          exact does_value (w' := W) (v := .int .i64 R) (by go_simp) ⟨(), .inr rfl, hS⟩
        · have EG := hval 8 _ 14 rfl rfl (dep_of hdep 8 (by rfl))
          have E17 := hval 11 _ 17 rfl rfl (dep_of hdep 11 (by rfl))
          have E19 := hval 13 _ 19 rfl rfl (dep_of hdep 13 (by rfl))
          unfold vWitC at EG E17 E19
          refine g_want rfl rfl rfl EG ?_
          refine does_call 19 #[.slice A n c, .int .i64 R] (by go_simp) ((HAT.out W hS).mono ?_)
          rintro e w' ⟨rfl, rfl⟩
          exact ⟨.int .i64 x, rfl, (), .inr rfl, hS⟩
        · have EG := hval 8 _ 14 rfl rfl (dep_of hdep 8 (by rfl))
          have E16 := hval 10 _ 16 rfl rfl (dep_of hdep 10 (by rfl))
          have E20 := hval 14 _ 20 rfl rfl (dep_of hdep 14 (by rfl))
          unfold vWitC at EG E16 E20
          refine g_want rfl rfl rfl EG ?_
          exact does_value (w' := W) (v := .bool q) (by go_simp) ⟨(), .inr rfl, hS⟩
        · have E14 := hval 8 _ 14 rfl rfl (dep_of hdep 8 (by rfl))
          have E21 := hval 15 _ 21 rfl rfl (dep_of hdep 15 (by rfl))
          unfold vWitC at E14 E21
          refine g_plain rfl ?_
          exact does_value (w' := W) (v := .bool q) (by go_simp) ⟨(), .inr rfl, hS⟩
      · intro gh W hS
        have HBW := hid (HB1.out.trans (hS.mono HB1.out.size))
        have HPW := hid (HP.out.keep hS)
        clear hS
        simp only [putAll, vWitC, Nat.reduceAdd, Nat.zero_add, Act.put, List.setIfInBounds_toArray, List.set_cons_zero, List.set_cons_succ]
        have hRk := HRK.out
        subst hRk
        clear HRK
        cases q with
        | true =>
          rw [if_pos (.inr (.inr (by simpa using hq)))] at HQ
          have HC := hid (HJ.out W HBW.out)
          clear hq
          go_wp2_with fail
          refine HC.out.mono ?_
          rintro e W2 ⟨v, rfl, hx2⟩
          have HX2 := hid hx2
          clear hx2
          go_wp2_with fail
          go_ret
          exact ⟨v, rfl, by rw [HQ.out]; exact HX2.out⟩
        | false =>
          rw [if_neg (by have h9 : ¬ N ≤ x := (by simpa using hq); omega)] at HQ
          have c0 : W.cell? ⟨p, 0, none⟩ = some (.int .i64 ((k : Int) + 1)) := HPW.out.cell 0 rfl
          clear hq
          go_wp2_with (refine wpList_zeros_ints _ rfl _ _ rfl _ (k + 1) rfl rfl rfl (by omega) ?_; intro w2 ho hb2; refine Held.go ?_)
          have HO := hid ho; have HB2 := hid hb2
          have d0 : w2.cell? ⟨p, 0, none⟩ = some (.int .i64 ((k : Int) + 1)) := (HPW.out.keep hb2).cell 0 rfl
          have d1 : w2.cell? ⟨p, 1, none⟩ = some (.int .i64 N) := (HPW.out.keep hb2).cell 1 rfl
          obtain ⟨A3, c3, e3, _, hni, _⟩ := ho.ni
          cases e3
          have HNI := hid hni
          obtain ⟨cur, hcur⟩ : ∃ cur, Blk w2 W.heap.size 3 cur := by
            rcases ho.2 with ⟨e, _⟩ | ⟨g, cap, cur, e, _, hg, _⟩
            · cases e
            · cases e; exact ⟨cur, hg⟩
          have dk : w2.cell? ⟨W.heap.size, k, none⟩ = some (.int .i64 0) := by
            obtain ⟨b, off, z, e, hz, hc⟩ := hni.at_ (k := k) (by omega)
            cases e
            rw [List.getElem?_replicate, if_pos (by omega)] at hz
            cases hz
            simpa using hc
          have fk := hcur.frozen k
          have hwr : IntKind.i64.wrap ((k : Int) + 1 - 1) = (k : Int) := by rw [IntWalk.i64_in _ (by omega)]; omega
          have hlt : (k : Int) < (k : Int) + 1 := by omega
          have HSet := hid (show NI (w2.setCell ⟨W.heap.size, k, none⟩ (.int .i64 N)) (some ⟨W.heap.size, 0, none⟩) (k + 1) (aloneV ((k : Int) + 1) N) ∧ Below W.heap.size W (w2.setCell ⟨W.heap.size, k, none⟩ (.int .i64 N)) from by
            refine ⟨?_, hb2.setCell (p := ⟨W.heap.size, k, none⟩) (Nat.le_refl _) _⟩
            have := hni.set (k := k) (z := N) (by omega)
            unfold aloneV
            rw [show ((k : Int) + 1).toNat = k + 1 by omega, show ((k : Int) + 1 - 1).toNat = k by omega]
            simpa using this)
          clear ho hb2 hni hcur
          unfold Held
          go_wp2_with fail
          generalize w2.setCell ⟨W.heap.size, k, none⟩ (.int .i64 N) = w3 at HSet ⊢
          have hbw : Below w.heap.size w w3 := HBW.out.trans (HSet.out.2.mono HBW.out.size)
          have HC := hid (join_calls n c (k + 1) (k + 1) A _ zs _ w3 (HH.out.keep hbw) HSet.out.1 hn (by omega))
          have HEnd := hid (fun (v : Value) (W' : World) (ho : OwnN W' w3.heap.size v (max n (k + 1)) (joinV zs (aloneV ((k : Int) + 1) N))) (hb : Below w3.heap.size w3 W') => show OwnN W' w.heap.size v ws.length ws ∧ Below w.heap.size w W' from by
            refine ⟨?_, hbw.trans (hb.mono hbw.size)⟩
            have hl3 : ws.length = max n (k + 1) := by
              rw [HQ.out, joinV_length, hlen]
              unfold aloneV
              rw [List.length_set, List.length_replicate]
              omega
            rw [hl3, HQ.out]
            exact ho.lower hbw.size)
          clear hbw HSet HO HB2 HNI d0 d1 dk fk c0
          refine HC.out.mono ?_
          rintro e W4 ⟨v, rfl, ho4, hb4⟩
          have HX := hid (HEnd.out v W4 ho4 hb4)
          clear ho4 hb4 HEnd
          go_wp2_with fail
          go_ret
          exact ⟨v, rfl, HX.out⟩
end Go.Proofs.Ytfcildpigkobcaa
