/- Contracts on dots: Has, Next and Less, of the project and of the reference. Written by tools/mkvd.py. -/
import Derived.Test.YthjflgnoeenenaaVcJoin
namespace Go.Proofs.Ythjflgnoeenenaa
open Go Go.RowKit Go.Shelf

def dv (R N : Int) : Value := .agg #[.int .i64 R, .int .i64 N]
def hasV (zs : List Int) (R N : Int) : Bool := decide (1 ≤ N) && decide (N ≤ atV zs R)
theorem hasV_lowN {zs : List Int} {R N : Int} (h : ¬ 1 ≤ N) : hasV zs R N = false := by unfold hasV; simp [h]
theorem hasV_lowR {zs : List Int} {R N : Int} (h : ¬ 1 ≤ R) : hasV zs R N = false := by
  unfold hasV
  rw [atV_low (by omega)]
  by_cases h1 : 1 ≤ N
  · simp; omega
  · simp [h1]
theorem hasV_at {zs : List Int} {R N : Int} (h : 1 ≤ N) : hasV zs R N = decide (N ≤ atV zs R) := by unfold hasV; simp [h]
theorem vrun_load_dot {W : World} {g : Nat} {R N : Int} (h : Blk W g 27 #[.int .i64 R, .int .i64 N]) : (loadVar 27 ⟨g, 0, none⟩).run Try.prog W = .ok (.agg #[.int .i64 R, .int .i64 N]) W :=
  run_loadVar_row W g 27 27 _ (0, 0) _ h Try.underlying27 rfl (by kernel_rfl)
theorem does_load_dot {o : Oper} {a : Act} {w : World} {T : Value → World → Prop} (x : Operand) (ho : o.op = .load 27 x) (g : Nat) {R N : Int} (hx : a.eval x = .pointer (some ⟨g, 0, none⟩)) (hb : Blk w g 27 #[.int .i64 R, .int .i64 N]) (h : T (.agg #[.int .i64 R, .int .i64 N]) w) : OpDoes Try.prog o a w T := fun K Q hK => by
  unfold Oper.wp execOp
  simp only [ho, hx, Instr.loadAt, Instr.sureAddr, Sem.run_bind, Sem.run_pure, Result.andThen_ok, vrun_load_dot hb]
  exact hK _ _ h
def vHasA (N : Int) (p : Nat) : Nat → Unit → Value
  | 0, _ => .pointer (some ⟨p, 1, none⟩)
  | 1, _ => .int .i64 N
  | 2, _ => .bool false
  | 3, _ => .bool false
  | 4, _ => undef
  | 5, _ => undef
  | 6, _ => undef
  | 7, _ => undef
  | 8, _ => undef
  | 9, _ => undef
  | 10, _ => undef
  | 11, _ => .bool false
  | 12, _ => .bool false
  | _, _ => undef
def vHasB (A : Option Addr) (n : Nat) (c : Nat) (R : Int) (N : Int) (p : Nat) (x : Int) (q : Bool) : Nat → Unit → Value
  | 0, _ => .pointer (some ⟨p, 1, none⟩)
  | 1, _ => .int .i64 N
  | 2, _ => .bool true
  | 3, _ => .bool true
  | 4, _ => .pointer (some ⟨p, 1, none⟩)
  | 5, _ => .int .i64 N
  | 6, _ => .slice A n c
  | 7, _ => .pointer (some ⟨p, 0, none⟩)
  | 8, _ => .int .i64 R
  | 9, _ => .int .i64 x
  | 10, _ => .bool q
  | 11, _ => .bool q
  | 12, _ => .bool q
  | _, _ => undef
set_option maxRecDepth 20000 in
set_option maxHeartbeats 1000000 in
theorem vHas_calls (n c : Nat) (A : Option Addr) (zs : List Int) (R N : Int) (w : World) (h : NI w A n zs) (hn : n ≤ 1099511627776) :
    Calls Try.prog 50 #[.slice A n c, .agg #[.int .i64 R, .int .i64 N]] w fun e w' => e = .returned (.bool (hasV zs R N)) ∧ Below w.heap.size w w' := by
  obtain ⟨p, hp⟩ : ∃ p, w.heap.size = p := ⟨_, rfl⟩
  obtain ⟨w1, hw1⟩ : ∃ w1, w1 = w.alloc (.cells #[.int .i64 R, .int .i64 N] 27) := ⟨_, rfl⟩
  have hb1 : Below w.heap.size w w1 := by rw [hw1]; exact below_new w _
  have HP := hid (show Blk w1 p 27 #[.int .i64 R, .int .i64 N] from by rw [hw1, ← hp]; exact Blk.new w _ _)
  obtain ⟨x, hx⟩ : ∃ x, atV zs R = x := ⟨_, rfl⟩
  have HAT := hid (fun (W : World) (hb : Below w1.heap.size w1 W) => show Calls Try.prog 72 #[.slice A n c, .int .i64 R] W fun e w' => e = .returned (.int .i64 x) ∧ W = w' from by
    rw [← hx]; exact vAt_calls n c A zs R W ((h.keep hb1).keep hb) hn)
  have HB1 := hid hb1; have HW1 := hid hw1; have HPP := hid hp; have HX := hid hx
  clear h hb1 hw1 hp hx
  by_cases hN : 1 ≤ N
  · obtain ⟨q, hq⟩ : ∃ q, decide (N ≤ x) = q := ⟨_, rfl⟩
    have HQ := hid (show hasV zs R N = q from by rw [hasV_at hN, HX.out]; exact hq)
    go_enter Try.func50, Try.ntmps50
    go_wp2_with fail
    rw [← HW1.out, HPP.out]
    refine wp_region_invG 17 () (vHasB A n c R N p x q) (fun _ _ W => Below w1.heap.size w1 W) (by kernel_rfl) (by kernel_rfl) (by exact Nat.le_refl 17) ?_ ?_ ?_
    · exact (Below.refl _ _).drew
    · intro i o f gh a W hi hf hdep hsame hcl hval hS
      rcases i with _ | _ | _ | _ | _ | _ | _ | _ | _ | _ | _ | _ | _ | i
      all_goals simp only [List.getElem?_cons_succ, List.getElem?_cons_zero, List.getElem?_nil, Option.some.injEq, reduceCtorEq] at hi
      all_goals subst hi
      · have E3 : a.tmps[3]? = some (.pointer (some ⟨p, 0, none⟩)) := (same_of hsame 3 (by rfl)).trans rfl
        refine g_plain rfl ?_
        exact does_value (w' := W) (v := .pointer (some ⟨p, 1, none⟩)) (by go_simp) ⟨(), .inr rfl, hS⟩
      · have E5 := hval 0 _ 5 rfl rfl (dep_of hdep 0 (by rfl))
        unfold vHasB at E5
        have kp := HP.out.keep hS
        have c0 := kp.cell 0 rfl
        have c1 := kp.cell 1 rfl
        refine g_plain rfl ?_
        exact does_value (w' := W) (v := .int .i64 N) (by go_simp) ⟨(), .inr rfl, hS⟩
      · have E6 := hval 1 _ 6 rfl rfl (dep_of hdep 1 (by rfl))
        unfold vHasB at E6
        refine g_plain rfl ?_
        exact does_value (w' := W) (v := .bool true) (by go_simp) ⟨(), .inr rfl, hS⟩
      · have E7 := hval 2 _ 7 rfl rfl (dep_of hdep 2 (by rfl))
        unfold vHasB at E7
        refine g_plain rfl ?_
        exact does_value (w' := W) (v := .bool true) (by go_simp) ⟨(), .inr rfl, hS⟩
      · have EG := hval 3 _ 8 rfl rfl (dep_of hdep 3 (by rfl))
        have E3 : a.tmps[3]? = some (.pointer (some ⟨p, 0, none⟩)) := (same_of hsame 3 (by rfl)).trans rfl
        unfold vHasB at EG
        refine g_want rfl rfl rfl EG ?_
        exact does_value (w' := W) (v := .pointer (some ⟨p, 1, none⟩)) (by go_simp) ⟨(), .inr rfl, hS⟩
      · have EG := hval 3 _ 8 rfl rfl (dep_of hdep 3 (by rfl))
        have E9 := hval 4 _ 9 rfl rfl (dep_of hdep 4 (by rfl))
        unfold vHasB at EG E9
        have kp := HP.out.keep hS
        have c0 := kp.cell 0 rfl
        have c1 := kp.cell 1 rfl
        refine g_want rfl rfl rfl EG ?_
        exact does_value (w' := W) (v := .int .i64 N) (by go_simp) ⟨(), .inr rfl, hS⟩
      · have EG := hval 3 _ 8 rfl rfl (dep_of hdep 3 (by rfl))
        have E0 : a.tmps[0]? = some (.slice A n c) := (same_of hsame 0 (by rfl)).trans rfl
        unfold vHasB at EG
        refine g_want rfl rfl rfl EG ?_
        exact does_value (w' := W) (v := .slice A n c) (by go_simp) ⟨(), .inr rfl, hS⟩
      · have EG := hval 3 _ 8 rfl rfl (dep_of hdep 3 (by rfl))
        have E3 : a.tmps[3]? = some (.pointer (some ⟨p, 0, none⟩)) := (same_of hsame 3 (by rfl)).trans rfl
        unfold vHasB at EG
        refine g_want rfl rfl rfl EG ?_
        exact does_value (w' := W) (v := .pointer (some ⟨p, 0, none⟩)) (by go_simp) ⟨(), .inr rfl, hS⟩
      · have EG := hval 3 _ 8 rfl rfl (dep_of hdep 3 (by rfl))
        have E12 := hval 7 _ 12 rfl rfl (dep_of hdep 7 (by rfl))
        unfold vHasB at EG E12
        have kp := HP.out.keep hS
        have c0 := kp.cell 0 rfl
        have c1 := kp.cell 1 rfl
        refine g_want rfl rfl rfl EG ?_
        exact does_value (w' := W) (v := .int .i64 R) (by go_simp) ⟨(), .inr rfl, hS⟩
      · have EG := hval 3 _ 8 rfl rfl (dep_of hdep 3 (by rfl))
        have E11 := hval 6 _ 11 rfl rfl (dep_of hdep 6 (by rfl))
        have E13 := hval 8 _ 13 rfl rfl (dep_of hdep 8 (by rfl))
        unfold vHasB at EG E11 E13
        refine g_want rfl rfl rfl EG ?_
        refine does_call 72 #[.slice A n c, .int .i64 R] (by go_simp) ((HAT.out W hS).mono ?_)
        rintro e w' ⟨rfl, rfl⟩
        exact ⟨.int .i64 x, rfl, (), .inr rfl, hS⟩
      · have EG := hval 3 _ 8 rfl rfl (dep_of hdep 3 (by rfl))
        have E10 := hval 5 _ 10 rfl rfl (dep_of hdep 5 (by rfl))
        have E14 := hval 9 _ 14 rfl rfl (dep_of hdep 9 (by rfl))
        unfold vHasB at EG E10 E14
        refine g_want rfl rfl rfl EG ?_
        exact does_value (w' := W) (v := .bool q) (by go_simp) ⟨(), .inr rfl, hS⟩
      · have E8 := hval 3 _ 8 rfl rfl (dep_of hdep 3 (by rfl))
        have E15 := hval 10 _ 15 rfl rfl (dep_of hdep 10 (by rfl))
        unfold vHasB at E8 E15
        refine g_plain rfl ?_
        exact does_value (w' := W) (v := .bool q) (by go_simp) ⟨(), .inr rfl, hS⟩
      · have E16 := hval 11 _ 16 rfl rfl (dep_of hdep 11 (by rfl))
        unfold vHasB at E16
        refine g_plain rfl ?_
        exact does_value (w' := W) (v := .bool q) (by go_simp) ⟨(), .inr rfl, hS⟩
    · intro gh W hS
      have HS := hid (HB1.out.trans (hS.mono HB1.out.size))
      clear hS
      simp only [putAll, vHasB, Nat.reduceAdd, Nat.zero_add, Act.put, List.setIfInBounds_toArray, List.set_cons_zero, List.set_cons_succ]
      go_wp2_with fail
      go_ret
      exact ⟨ret_bool HQ.out.symm, HS.out⟩
  · have HQ := hid (hasV_lowN (zs := zs) (R := R) hN)
    go_enter Try.func50, Try.ntmps50
    go_wp2_with fail
    rw [← HW1.out, HPP.out]
    refine wp_region_invG 17 () (vHasA N p) (fun _ _ W => Below w1.heap.size w1 W) (by kernel_rfl) (by kernel_rfl) (by exact Nat.le_refl 17) ?_ ?_ ?_
    · exact (Below.refl _ _).drew
    · intro i o f gh a W hi hf hdep hsame hcl hval hS
      rcases i with _ | _ | _ | _ | _ | _ | _ | _ | _ | _ | _ | _ | _ | i
      all_goals simp only [List.getElem?_cons_succ, List.getElem?_cons_zero, List.getElem?_nil, Option.some.injEq, reduceCtorEq] at hi
      all_goals subst hi
      · have E3 : a.tmps[3]? = some (.pointer (some ⟨p, 0, none⟩)) := (same_of hsame 3 (by rfl)).trans rfl
        refine g_plain rfl ?_
        exact does_value (w' := W) (v := .pointer (some ⟨p, 1, none⟩)) (by go_simp) ⟨(), .inr rfl, hS⟩
      · have E5 := hval 0 _ 5 rfl rfl (dep_of hdep 0 (by rfl))
        unfold vHasA at E5
        have kp := HP.out.keep hS
        have c0 := kp.cell 0 rfl
        have c1 := kp.cell 1 rfl
        refine g_plain rfl ?_
        exact does_value (w' := W) (v := .int .i64 N) (by go_simp) ⟨(), .inr rfl, hS⟩
      · have E6 := hval 1 _ 6 rfl rfl (dep_of hdep 1 (by rfl))
        unfold vHasA at E6
        refine g_plain rfl ?_
        exact does_value (w' := W) (v := .bool false) (by go_simp) ⟨(), .inr rfl, hS⟩
      · have E7 := hval 2 _ 7 rfl rfl (dep_of hdep 2 (by rfl))
        unfold vHasA at E7
        refine g_plain rfl ?_
        exact does_value (w' := W) (v := .bool false) (by go_simp) ⟨(), .inr rfl, hS⟩
      · have EG := hval 3 _ 8 rfl rfl (dep_of hdep 3 (by rfl))
        unfold vHasA at EG
        exact g_skip rfl rfl rfl EG rfl ⟨(), .inr rfl, hS⟩
      · have EG := hval 3 _ 8 rfl rfl (dep_of hdep 3 (by rfl))
        unfold vHasA at EG
        exact g_skip rfl rfl rfl EG rfl ⟨(), .inr rfl, hS⟩
      · have EG := hval 3 _ 8 rfl rfl (dep_of hdep 3 (by rfl))
        unfold vHasA at EG
        exact g_skip rfl rfl rfl EG rfl ⟨(), .inr rfl, hS⟩
      · have EG := hval 3 _ 8 rfl rfl (dep_of hdep 3 (by rfl))
        unfold vHasA at EG
        exact g_skip rfl rfl rfl EG rfl ⟨(), .inr rfl, hS⟩
      · have EG := hval 3 _ 8 rfl rfl (dep_of hdep 3 (by rfl))
        unfold vHasA at EG
        exact g_skip rfl rfl rfl EG rfl ⟨(), .inr rfl, hS⟩
      · have EG := hval 3 _ 8 rfl rfl (dep_of hdep 3 (by rfl))
        unfold vHasA at EG
        exact g_skip rfl rfl rfl EG rfl ⟨(), .inr rfl, hS⟩
      · have EG := hval 3 _ 8 rfl rfl (dep_of hdep 3 (by rfl))
        unfold vHasA at EG
        exact g_skip rfl rfl rfl EG rfl ⟨(), .inr rfl, hS⟩
      · have E8 := hval 3 _ 8 rfl rfl (dep_of hdep 3 (by rfl))
        have E15 := hval 10 _ 15 rfl rfl (dep_of hdep 10 (by rfl))
        unfold vHasA at E8 E15
        refine g_plain rfl ?_
        exact does_value (w' := W) (v := .bool false) (by go_simp) ⟨(), .inr rfl, hS⟩
      · have E16 := hval 11 _ 16 rfl rfl (dep_of hdep 11 (by rfl))
        unfold vHasA at E16
        refine g_plain rfl ?_
        exact does_value (w' := W) (v := .bool false) (by go_simp) ⟨(), .inr rfl, hS⟩
    · intro gh W hS
      have HS := hid (HB1.out.trans (hS.mono HB1.out.size))
      clear hS
      simp only [putAll, vHasA, Nat.reduceAdd, Nat.zero_add, Act.put, List.setIfInBounds_toArray, List.set_cons_zero, List.set_cons_succ]
      go_wp2_with fail
      go_ret
      exact ⟨ret_bool HQ.out.symm, HS.out⟩
def vRasA (R : Int) (p : Nat) : Nat → Unit → Value
  | 0, _ => .pointer (some ⟨p, 0, none⟩)
  | 1, _ => .int .i64 R
  | 2, _ => .bool false
  | 3, _ => .bool false
  | 4, _ => undef
  | 5, _ => undef
  | 6, _ => undef
  | 7, _ => .bool false
  | 8, _ => .bool false
  | 9, _ => undef
  | 10, _ => undef
  | 11, _ => undef
  | 12, _ => undef
  | 13, _ => undef
  | 14, _ => undef
  | 15, _ => undef
  | 16, _ => .bool false
  | 17, _ => .bool false
  | _, _ => undef
def vRasB (R : Int) (N : Int) (p : Nat) : Nat → Unit → Value
  | 0, _ => .pointer (some ⟨p, 0, none⟩)
  | 1, _ => .int .i64 R
  | 2, _ => .bool true
  | 3, _ => .bool true
  | 4, _ => .pointer (some ⟨p, 1, none⟩)
  | 5, _ => .int .i64 N
  | 6, _ => .bool false
  | 7, _ => .bool false
  | 8, _ => .bool false
  | 9, _ => undef
  | 10, _ => undef
  | 11, _ => undef
  | 12, _ => undef
  | 13, _ => undef
  | 14, _ => undef
  | 15, _ => undef
  | 16, _ => .bool false
  | 17, _ => .bool false
  | _, _ => undef
def vRasC (A : Option Addr) (n : Nat) (c : Nat) (R : Int) (N : Int) (p : Nat) (x : Int) (q : Bool) : Nat → Unit → Value
  | 0, _ => .pointer (some ⟨p, 0, none⟩)
  | 1, _ => .int .i64 R
  | 2, _ => .bool true
  | 3, _ => .bool true
  | 4, _ => .pointer (some ⟨p, 1, none⟩)
  | 5, _ => .int .i64 N
  | 6, _ => .bool true
  | 7, _ => .bool true
  | 8, _ => .bool true
  | 9, _ => .pointer (some ⟨p, 1, none⟩)
  | 10, _ => .int .i64 N
  | 11, _ => .slice A n c
  | 12, _ => .pointer (some ⟨p, 0, none⟩)
  | 13, _ => .int .i64 R
  | 14, _ => .int .i64 x
  | 15, _ => .bool q
  | 16, _ => .bool q
  | 17, _ => .bool q
  | _, _ => undef
end Go.Proofs.Ythjflgnoeenenaa
