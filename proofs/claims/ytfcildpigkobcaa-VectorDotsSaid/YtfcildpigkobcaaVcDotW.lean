/- The law VectorDots, walked. Written by tools/mkvl.py. -/
import Derived.Deep.DeepCutAuto
import Derived.Deep.CutBlock
import Derived.Test.YtfcildpigkobcaaVcLaw
import Derived.Test.YtfcildpigkobcaaVcPick
namespace Go.Proofs.Ytfcildpigkobcaa
open Go Go.RowKit Go.Shelf

theorem with_len (zs : List Int) (R N : Int) (h : zs.length ≤ 40) : (withV zs R N).length ≤ 1000000 := by
  unfold withV
  split
  · rw [joinV_length]; simp; omega
  · rename_i hh
    rw [joinV_length, aloneV_length]
    omega
def selV (b : Bool) (x y : Value) : Value := match b with
  | true => x
  | false => y
theorem selV_t (x y : Value) : selV true x y = x := rfl
theorem selV_f (x y : Value) : selV false x y = y := rfl
attribute [local go_sem] selV_t selV_f
/-- what the operations that are done have left -/
structure GvS (n : Nat) (w0 : World) (P : Nat → Value → World → Prop) (f : Nat → Bool) (gh : Nat → Value) (W : World) : Prop where
  bel : Below w0.heap.size w0 W
  at_ : ∀ i, i < n → f i = true → P i (gh i) W
theorem GvS.start {n : Nat} {w0 : World} {P : Nat → Value → World → Prop} (gh : Nat → Value) : GvS n w0 P (fun j => decide (n ≤ j)) gh w0.drew := ⟨(Below.refl _ _).drew, fun i hi h => by have := of_decide_eq_true h; omega⟩
theorem GvS.step {n : Nat} {w0 W W' : World} {P : Nat → Value → World → Prop} {f : Nat → Bool} {gh : Nat → Value} (h : GvS n w0 P f gh W) (hst : ∀ i v W W', Below W.heap.size W W' → P i v W → P i v W') (hb : Below W.heap.size W W') (i : Nat) (k : Value) (hp : P i k W') : GvS n w0 P (upd f i) (updN gh i k) W' :=
  ⟨h.bel.trans (hb.mono h.bel.size), fun j hj hf => by
    by_cases e : j = i
    · subst e; rw [unN_eq]; exact hp
    · rw [un_ne e] at hf; rw [unN_ne e]; exact hst _ _ _ _ hb (h.at_ j hj hf)⟩
def isNI (z : List Int) (v : Value) (W : World) : Prop := ∃ A n c, v = .slice A n c ∧ n ≤ 1000000 ∧ NI W A n z
theorem isNI.keep {z : List Int} {v : Value} {W W' : World} (h : isNI z v W) (hb : Below W.heap.size W W') : isNI z v W' := by
  obtain ⟨A, n, c, e, hn, hni⟩ := h
  exact ⟨A, n, c, e, hn, hni.keep hb⟩
def dtP (za zb : List Int) : Nat → Value → World → Prop
  | 2, v, W => isNI za v W
  | 13, v, W => isNI zb v W
  | _, _, _ => True
theorem dtP_st (za zb : List Int) (i : Nat) (v : Value) (W W' : World) (hb : Below W.heap.size W W') (h : dtP za zb i v W) : dtP za zb i v W' := by
  unfold dtP at h ⊢
  split
  · exact isNI.keep h hb
  · exact isNI.keep h hb
  · trivial
def dtaV (A0 : Option Addr) (n0 : Nat) (c0 : Nat) (R0 : Int) (N0 : Int) (b1 : Bool) (A1 : Option Addr) (n1 : Nat) (c1 : Nat) (b2 : Bool) : Nat → Unit → Value
  | 0, _ => .slice A0 n0 c0
  | 1, _ => .agg #[.int .i64 R0, .int .i64 N0]
  | 2, _ => .bool b1
  | 3, _ => .slice A1 n1 c1
  | 4, _ => .agg #[.int .i64 R0, .int .i64 N0]
  | 5, _ => .bool b2
  | 6, _ => .bool b1
  | 7, _ => .bool b2
  | _, _ => undef
def dtbV (A0 : Option Addr) (n0 : Nat) (c0 : Nat) (A1 : Option Addr) (n1 : Nat) (c1 : Nat) (R0 : Int) (N0 : Int) (b1 : Bool) (b2 : Bool) (b3 : Bool) : Nat → Value → Value
  | 0, _ => .slice A0 n0 c0
  | 1, _ => .slice A1 n1 c1
  | 2, k => k
  | 3, _ => .agg #[.int .i64 R0, .int .i64 N0]
  | 4, _ => .bool (b1 || b2)
  | 5, _ => .bool b1
  | 6, _ => .bool b1
  | 7, _ => selV b1 undef (.bool b2)
  | 8, _ => .bool (b1 || b2)
  | 9, _ => .bool false
  | 10, _ => .bool false
  | 11, _ => .slice A0 n0 c0
  | 12, _ => .slice A1 n1 c1
  | 13, k => k
  | 14, _ => .agg #[.int .i64 R0, .int .i64 N0]
  | 15, _ => .bool (b1 && b2)
  | 16, _ => .bool b1
  | 17, _ => .bool b1
  | 18, _ => selV b1 (.bool b2) undef
  | 19, _ => .bool (b1 && b2)
  | 20, _ => .bool false
  | 21, _ => .bool false
  | 22, _ => .bool false
  | 23, _ => .slice A0 n0 c0
  | 24, _ => .slice A1 n1 c1
  | 25, _ => .bool b3
  | 26, _ => .bool b3
  | 27, _ => selV b3 (.bool b1) undef
  | 28, _ => .bool (b3 && b1)
  | 29, _ => .bool (b3 && b1)
  | 30, _ => selV (b3 && b1) (.bool b2) undef
  | 31, _ => selV (b3 && b1) (.bool (!b2)) undef
  | 32, _ => .bool false
  | 33, _ => .bool false
  | _, _ => undef
def dtcV (A0 : Option Addr) (n0 : Nat) (c0 : Nat) (q : Int) (k : Int) (AA1 : Option Addr) (nn1 : Nat) (cc1 : Nat) (R0 : Int) (N0 : Int) (p2 : Nat) (x : Int) : Nat → Unit → Value
  | 0, _ => .bool true
  | 1, _ => .bool true
  | 2, _ => .slice A0 n0 c0
  | 3, _ => .agg #[.int .i64 q, .int .i64 k]
  | 4, _ => .bool false
  | 5, _ => .bool true
  | 6, _ => .bool true
  | 7, _ => .bool true
  | 8, _ => .slice AA1 nn1 cc1
  | 9, _ => .agg #[.int .i64 q, .int .i64 k]
  | 10, _ => .bool true
  | 11, _ => .bool true
  | 12, _ => .bool true
  | 13, _ => .slice A0 n0 c0
  | 14, _ => .slice AA1 nn1 cc1
  | 15, _ => .bool true
  | 16, _ => .bool true
  | 17, _ => .bool true
  | 18, _ => .slice AA1 nn1 cc1
  | 19, _ => .slice A0 n0 c0
  | 20, _ => .bool false
  | 21, _ => .bool true
  | 22, _ => .bool true
  | 23, _ => .bool true
  | 24, _ => .slice AA1 nn1 cc1
  | 25, _ => .agg #[.int .i64 R0, .int .i64 N0]
  | 26, _ => .bool true
  | 27, _ => .bool true
  | 28, _ => .bool true
  | 29, _ => undef
  | 30, _ => undef
  | 31, _ => undef
  | 32, _ => .bool true
  | 33, _ => .bool true
  | 34, _ => .bool true
  | 35, _ => .bool true
  | 36, _ => .pointer (some ⟨p2, 0, none⟩)
  | 37, _ => .int .i64 q
  | 38, _ => .int .i64 q
  | 39, _ => .bool true
  | 40, _ => .bool true
  | 41, _ => .bool true
  | 42, _ => .pointer (some ⟨p2, 1, none⟩)
  | 43, _ => .int .i64 k
  | 44, _ => .slice A0 n0 c0
  | 45, _ => .int .i64 q
  | 46, _ => .int .i64 x
  | 47, _ => .int .i64 k
  | 48, _ => .bool true
  | 49, _ => .bool true
  | 50, _ => .bool true
  | _, _ => undef
def dtdV (A0 : Option Addr) (n0 : Nat) (c0 : Nat) (q : Int) (k : Int) (AA1 : Option Addr) (nn1 : Nat) (cc1 : Nat) (R0 : Int) (N0 : Int) (p2 : Nat) (x : Int) : Nat → Unit → Value
  | 0, _ => .bool true
  | 1, _ => .bool true
  | 2, _ => .slice A0 n0 c0
  | 3, _ => .agg #[.int .i64 q, .int .i64 k]
  | 4, _ => .bool false
  | 5, _ => .bool true
  | 6, _ => .bool true
  | 7, _ => .bool true
  | 8, _ => .slice AA1 nn1 cc1
  | 9, _ => .agg #[.int .i64 q, .int .i64 k]
  | 10, _ => .bool true
  | 11, _ => .bool true
  | 12, _ => .bool true
  | 13, _ => .slice A0 n0 c0
  | 14, _ => .slice AA1 nn1 cc1
  | 15, _ => .bool true
  | 16, _ => .bool true
  | 17, _ => .bool true
  | 18, _ => .slice AA1 nn1 cc1
  | 19, _ => .slice A0 n0 c0
  | 20, _ => .bool false
  | 21, _ => .bool true
  | 22, _ => .bool true
  | 23, _ => .bool true
  | 24, _ => .slice AA1 nn1 cc1
  | 25, _ => .agg #[.int .i64 R0, .int .i64 N0]
  | 26, _ => .bool true
  | 27, _ => .bool false
  | 28, _ => .bool false
  | 29, _ => .agg #[.int .i64 R0, .int .i64 N0]
  | 30, _ => .agg #[.int .i64 q, .int .i64 k]
  | 31, _ => .bool true
  | 32, _ => .bool true
  | 33, _ => .bool true
  | 34, _ => .bool true
  | 35, _ => .bool true
  | 36, _ => .pointer (some ⟨p2, 0, none⟩)
  | 37, _ => .int .i64 q
  | 38, _ => .int .i64 q
  | 39, _ => .bool true
  | 40, _ => .bool true
  | 41, _ => .bool true
  | 42, _ => .pointer (some ⟨p2, 1, none⟩)
  | 43, _ => .int .i64 k
  | 44, _ => .slice A0 n0 c0
  | 45, _ => .int .i64 q
  | 46, _ => .int .i64 x
  | 47, _ => .int .i64 k
  | 48, _ => .bool true
  | 49, _ => .bool true
  | 50, _ => .bool true
  | _, _ => undef
def dteV (A0 : Option Addr) (n0 : Nat) (c0 : Nat) (q : Int) (k : Int) (AA1 : Option Addr) (nn1 : Nat) (cc1 : Nat) (R0 : Int) (N0 : Int) (p2 : Nat) (x : Int) : Nat → Unit → Value
  | 0, _ => .bool true
  | 1, _ => .bool true
  | 2, _ => .slice A0 n0 c0
  | 3, _ => .agg #[.int .i64 q, .int .i64 k]
  | 4, _ => .bool false
  | 5, _ => .bool true
  | 6, _ => .bool true
  | 7, _ => .bool true
  | 8, _ => .slice AA1 nn1 cc1
  | 9, _ => .agg #[.int .i64 q, .int .i64 k]
  | 10, _ => .bool true
  | 11, _ => .bool true
  | 12, _ => .bool true
  | 13, _ => .slice A0 n0 c0
  | 14, _ => .slice AA1 nn1 cc1
  | 15, _ => .bool true
  | 16, _ => .bool true
  | 17, _ => .bool true
  | 18, _ => .slice AA1 nn1 cc1
  | 19, _ => .slice A0 n0 c0
  | 20, _ => .bool false
  | 21, _ => .bool true
  | 22, _ => .bool true
  | 23, _ => .bool true
  | 24, _ => .slice AA1 nn1 cc1
  | 25, _ => .agg #[.int .i64 R0, .int .i64 N0]
  | 26, _ => .bool false
  | 27, _ => .bool false
  | 28, _ => .bool false
  | 29, _ => .agg #[.int .i64 R0, .int .i64 N0]
  | 30, _ => .agg #[.int .i64 q, .int .i64 k]
  | 31, _ => .bool false
  | 32, _ => .bool false
  | 33, _ => .bool true
  | 34, _ => .bool true
  | 35, _ => .bool true
  | 36, _ => .pointer (some ⟨p2, 0, none⟩)
  | 37, _ => .int .i64 q
  | 38, _ => .int .i64 q
  | 39, _ => .bool true
  | 40, _ => .bool true
  | 41, _ => .bool true
  | 42, _ => .pointer (some ⟨p2, 1, none⟩)
  | 43, _ => .int .i64 k
  | 44, _ => .slice A0 n0 c0
  | 45, _ => .int .i64 q
  | 46, _ => .int .i64 x
  | 47, _ => .int .i64 k
  | 48, _ => .bool true
  | 49, _ => .bool true
  | 50, _ => .bool true
  | _, _ => undef
set_option maxRecDepth 20000 in
set_option maxHeartbeats 8000000 in
theorem dots_calls (R0 N0 r : Int) (n0 c0 n1 c1 : Nat) (A0 A1 : Option Addr) (u v : List Int) (W0 : World) (h0 : NI W0 A0 n0 u) (h1 : NI W0 A1 n1 v) :
    Calls Try.prog 7 #[.slice A0 n0 c0, .slice A1 n1 c1, .agg #[.int .i64 R0, .int .i64 N0], .int .i64 r] W0 fun e w' => e = .returned (.bool true) ∧ Below W0.heap.size W0 w' := by
  obtain ⟨p0, hp0⟩ : ∃ p, W0.heap.size = p := ⟨_, rfl⟩
  obtain ⟨W1, hw1⟩ : ∃ W, W = W0.alloc (.cells #[.int .i64 R0, .int .i64 N0] 24) := ⟨_, rfl⟩
  have hb : Below W0.heap.size W0 W1 := by rw [hw1]; exact below_new _ _
  have hk0 : Blk W1 p0 24 #[.int .i64 R0, .int .i64 N0] := by rw [hw1, ← hp0]; exact Blk.new _ _ _
  have hlu := h0.1
  have hlv := h1.1
  have HLU := hid hlu
  have HLV := hid hlv
  have HD0 := hid hk0; have HU := hid (h0.keep hb); have HV := hid (h1.keep hb); have HB := hid hb; have HW := hid hw1; have HP0 := hid hp0
  clear h0 h1 hw1 hk0 hb hp0 hlu hlv
  go_enter Try.func7, Try.ntmps7
  have hc := known_calls W1
  have HC := hid hc
  clear hc
  go_wp2_with fail
  rw [← HW.out, HP0.out]
  refine HC.out.mono ?_
  rintro e W2 ⟨rfl, hb⟩
  clear HC
  replace HU := hid (HU.out.keep hb)
  replace HV := hid (HV.out.keep hb)
  replace HD0 := hid (HD0.out.keep hb)
  replace HB := hid (HB.out.trans (hb.mono HB.out.size))
  clear hb
  clear HW
  by_cases hl0 : n0 ≤ 20
  rotate_left
  · have hl0' : ¬ (n0 : Int) ≤ 20 := by omega
    go_wp2_with fail
    go_ret
    exact ⟨rfl, HB.out⟩
  have hl0' : (n0 : Int) ≤ 20 := by omega
  by_cases hl1 : n1 ≤ 20
  rotate_left
  · have hl1' : ¬ (n1 : Int) ≤ 20 := by omega
    go_wp2_with fail
    go_ret
    exact ⟨rfl, HB.out⟩
  have hl1' : (n1 : Int) ≤ 20 := by omega
  obtain ⟨b1, hb1⟩ : ∃ b, hasV u R0 N0 = b := ⟨_, rfl⟩
  obtain ⟨b2, hb2⟩ : ∃ b, hasV v R0 N0 = b := ⟨_, rfl⟩
  obtain ⟨b3, hb3⟩ : ∃ b, leqV u v = b := ⟨_, rfl⟩
  have K1 := hid (fun (W : World) (hb : Below W2.heap.size W2 W) => vHas_calls n0 c0 A0 u R0 N0 W (HU.out.keep hb) (by omega))
  simp only [hb1] at K1
  have K2 := hid (fun (W : World) (hb : Below W2.heap.size W2 W) => vHas_calls n1 c1 A1 v R0 N0 W (HV.out.keep hb) (by omega))
  simp only [hb2] at K2
  have HX1 := hid hb1; have HX2 := hid hb2; have HX3 := hid hb3
  clear hb1 hb2 hb3
  go_wp2_with fail
  refine wp_region_invG 133 () (dtaV A0 n0 c0 R0 N0 b1 A1 n1 c1 b2) (fun _ _ W => Below W2.heap.size W2 W) (by kernel_rfl) (by kernel_rfl) (by exact Nat.le_refl 133) ?_ ?_ ?_
  · exact (Below.refl _ _).drew
  · intro i o f gh a W hi hf hdep hsame hcl hval hS
    rcases i with _ | _ | _ | _ | _ | _ | _ | _ | i
    all_goals simp only [List.getElem?_cons_succ, List.getElem?_cons_zero, List.getElem?_nil, Option.some.injEq, reduceCtorEq] at hi
    all_goals subst hi
    · have E0 : a.tmps[0]? = some (.slice A0 n0 c0) := (same_of hsame 0 (by rfl)).trans rfl
      refine g_plain rfl ?_
      exact does_value (w' := W) (v := .slice A0 n0 c0) (by go_simp) ⟨(), .inr rfl, hS⟩
    · have E6 : a.tmps[6]? = some (.pointer (some ⟨p0, 0, none⟩)) := (same_of hsame 6 (by rfl)).trans rfl
      refine g_plain rfl ?_
      exact does_load_dot _ rfl p0 (by rw [eval_getD, E6]; rfl) (HD0.out.keep hS) ⟨(), .inr rfl, hS⟩
    · have E24 := hval 0 _ 24 rfl rfl (dep_of hdep 0 (by rfl))
      have E25 := hval 1 _ 25 rfl rfl (dep_of hdep 1 (by rfl))
      unfold dtaV at E24 E25
      refine g_plain rfl ?_
      refine does_call 21 #[.slice A0 n0 c0, .agg #[.int .i64 R0, .int .i64 N0]] (by go_simp) ((K1.out W hS).mono ?_)
      rintro e w' ⟨rfl, hb⟩
      exact ⟨.bool b1, rfl, (), .inr rfl, hS.trans (hb.mono hS.size)⟩
    · have E1 : a.tmps[1]? = some (.slice A1 n1 c1) := (same_of hsame 1 (by rfl)).trans rfl
      refine g_plain rfl ?_
      exact does_value (w' := W) (v := .slice A1 n1 c1) (by go_simp) ⟨(), .inr rfl, hS⟩
    · have E6 : a.tmps[6]? = some (.pointer (some ⟨p0, 0, none⟩)) := (same_of hsame 6 (by rfl)).trans rfl
      refine g_plain rfl ?_
      exact does_load_dot _ rfl p0 (by rw [eval_getD, E6]; rfl) (HD0.out.keep hS) ⟨(), .inr rfl, hS⟩
    · have E27 := hval 3 _ 27 rfl rfl (dep_of hdep 3 (by rfl))
      have E28 := hval 4 _ 28 rfl rfl (dep_of hdep 4 (by rfl))
      unfold dtaV at E27 E28
      refine g_plain rfl ?_
      refine does_call 21 #[.slice A1 n1 c1, .agg #[.int .i64 R0, .int .i64 N0]] (by go_simp) ((K2.out W hS).mono ?_)
      rintro e w' ⟨rfl, hb⟩
      exact ⟨.bool b2, rfl, (), .inr rfl, hS.trans (hb.mono hS.size)⟩
    · have E26 := hval 2 _ 26 rfl rfl (dep_of hdep 2 (by rfl))
      unfold dtaV at E26
      refine g_plain rfl ?_
      exact does_value (w' := W) (v := .bool b1) (by go_simp) ⟨(), .inr rfl, hS⟩
    · have E29 := hval 5 _ 29 rfl rfl (dep_of hdep 5 (by rfl))
      unfold dtaV at E29
      refine g_plain rfl ?_
      exact does_value (w' := W) (v := .bool b2) (by go_simp) ⟨(), .inr rfl, hS⟩
  · intro gh W3 hb
    replace HU := hid (HU.out.keep hb)
    replace HV := hid (HV.out.keep hb)
    replace HD0 := hid (HD0.out.keep hb)
    replace HB := hid (HB.out.trans (hb.mono HB.out.size))
    clear hb
    simp only [putAll, dtaV, Nat.reduceAdd, Nat.zero_add, Act.put, List.setIfInBounds_toArray, List.set_cons_zero, List.set_cons_succ]
    clear K1 K2
    have HL := hid (show b3 = true → b1 = true → b2 = true from fun h1 h2 => by rw [← HX2.out]; exact has_le (HX3.out.trans h1) (HX1.out.trans h2))
    have HJ := hid (show hasV (joinV u v) R0 N0 = (b1 || b2) from by rw [has_join, HX1.out, HX2.out])
    have HM := hid (show hasV (meetV u v) R0 N0 = (b1 && b2) from by rw [has_meet, HX1.out, HX2.out])
    have K3 := hid (fun (W : World) (hb : Below W3.heap.size W3 W) => join_calls n0 c0 n1 c1 A0 A1 u v W (HU.out.keep hb) (HV.out.keep hb) (by omega) (by omega))
    have K4 := hid (fun (W : World) (hb : Below W3.heap.size W3 W) => meet_calls n0 c0 n1 c1 A0 A1 u v W (HU.out.keep hb) (HV.out.keep hb) (by omega) (by omega))
    have K5 := hid (fun (W : World) (hb : Below W3.heap.size W3 W) => leq_calls n0 c0 n1 c1 A0 A1 u v W (HU.out.keep hb) (HV.out.keep hb) (by omega) (by omega))
    rw [HX3.out] at K5
    go_wp2_with fail
    refine wp_region_invG 133 (Value.bool false) (dtbV A0 n0 c0 A1 n1 c1 R0 N0 b1 b2 b3) (fun f gh W => GvS 34 W3 (dtP (joinV u v) (meetV u v)) f gh W) (by kernel_rfl) (by kernel_rfl) (by exact Nat.le_refl 133) ?_ ?_ ?_
    · exact GvS.start _
    · intro i o f gh a W hi hf hdep hsame hcl hval hS
      rcases i with _ | _ | _ | _ | _ | _ | _ | _ | _ | _ | _ | _ | _ | _ | _ | _ | _ | _ | _ | _ | _ | _ | _ | _ | _ | _ | _ | _ | _ | _ | _ | _ | _ | _ | i
      all_goals simp only [List.getElem?_cons_succ, List.getElem?_cons_zero, List.getElem?_nil, Option.some.injEq, reduceCtorEq] at hi
      all_goals subst hi
      · have E0 : a.tmps[0]? = some (.slice A0 n0 c0) := (same_of hsame 0 (by rfl)).trans rfl
        refine g_plain rfl ?_
        exact does_value (w' := W) (v := .slice A0 n0 c0) (by go_simp) ⟨.bool false, .inr rfl, hS.step (dtP_st _ _) (Below.refl _ _) 0 _ trivial⟩
      · have E1 : a.tmps[1]? = some (.slice A1 n1 c1) := (same_of hsame 1 (by rfl)).trans rfl
        refine g_plain rfl ?_
        exact does_value (w' := W) (v := .slice A1 n1 c1) (by go_simp) ⟨.bool false, .inr rfl, hS.step (dtP_st _ _) (Below.refl _ _) 1 _ trivial⟩
      · have E30 := hval 0 _ 30 rfl rfl (dep_of hdep 0 (by rfl))
        have E31 := hval 1 _ 31 rfl rfl (dep_of hdep 1 (by rfl))
        unfold dtbV at E30 E31
        refine g_plain rfl ?_
        refine does_call 11 #[.slice A0 n0 c0, .slice A1 n1 c1] (by go_simp) ((K3.out W hS.bel).mono ?_)
        rintro e w' ⟨vv, rfl, ho, hb⟩
        obtain ⟨A9, c9, rfl, _, hf9, _⟩ := ho.ni
        exact ⟨_, rfl, _, .inr rfl, hS.step (dtP_st _ _) hb 2 _ ⟨_, _, _, rfl, by omega, hf9⟩⟩
      · have E6 : a.tmps[6]? = some (.pointer (some ⟨p0, 0, none⟩)) := (same_of hsame 6 (by rfl)).trans rfl
        refine g_plain rfl ?_
        exact does_load_dot _ rfl p0 (by rw [eval_getD, E6]; rfl) (HD0.out.keep hS.bel) ⟨.bool false, .inr rfl, hS.step (dtP_st _ _) (Below.refl _ _) 3 _ trivial⟩
      · have E32 := hval 2 _ 32 rfl rfl (dep_of hdep 2 (by rfl))
        have E33 := hval 3 _ 33 rfl rfl (dep_of hdep 3 (by rfl))
        unfold dtbV at E32 E33
        obtain ⟨A9, n9, c9, e9, hn9, hi9⟩ : isNI _ (gh 2) W := hS.at_ 2 (by decide) (dep_of hdep 2 (by rfl))
        rw [e9] at E32
        refine g_plain rfl ?_
        refine does_call 21 #[.slice A9 n9 c9, .agg #[.int .i64 R0, .int .i64 N0]] (by go_simp) ((vHas_calls n9 c9 A9 _ R0 N0 W hi9 (by omega)).mono ?_)
        rintro e w' ⟨rfl, hb⟩
        exact ⟨.bool (b1 || b2), by rw [HJ.out], .bool false, .inr rfl, hS.step (dtP_st _ _) hb 4 _ trivial⟩
      · have E10 : a.tmps[10]? = some (.bool b1) := (same_of hsame 10 (by rfl)).trans rfl
        refine g_plain rfl ?_
        exact does_value (w' := W) (v := .bool b1) (by go_simp) ⟨.bool false, .inr rfl, hS.step (dtP_st _ _) (Below.refl _ _) 5 _ trivial⟩
      · have E35 := hval 5 _ 35 rfl rfl (dep_of hdep 5 (by rfl))
        unfold dtbV at E35
        refine g_plain rfl ?_
        exact does_value (w' := W) (v := .bool b1) (by go_simp) ⟨.bool false, .inr rfl, hS.step (dtP_st _ _) (Below.refl _ _) 6 _ trivial⟩
      · have EG := hval 6 _ 36 rfl rfl (dep_of hdep 6 (by rfl))
        have E11 : a.tmps[11]? = some (.bool b2) := (same_of hsame 11 (by rfl)).trans rfl
        unfold dtbV at EG
        cases b1 with
        | true => exact g_skip rfl rfl rfl EG rfl ⟨.bool false, .inr rfl, hS.step (dtP_st _ _) (Below.refl _ _) 7 _ trivial⟩
        | false =>
          refine g_want rfl rfl rfl EG ?_
          exact does_value (w' := W) (v := .bool b2) (by go_simp) ⟨.bool false, .inr rfl, hS.step (dtP_st _ _) (Below.refl _ _) 7 _ trivial⟩
      · have E36 := hval 6 _ 36 rfl rfl (dep_of hdep 6 (by rfl))
        have E37 := hval 7 _ 37 rfl rfl (dep_of hdep 7 (by rfl))
        unfold dtbV at E36 E37
        refine g_plain rfl ?_
        cases b1 with
        | true => exact does_value (w' := W) (v := .bool true) (by go_simp) ⟨.bool false, .inr rfl, hS.step (dtP_st _ _) (Below.refl _ _) 8 _ trivial⟩
        | false => exact does_value (w' := W) (v := .bool b2) (by go_simp) ⟨.bool false, .inr rfl, hS.step (dtP_st _ _) (Below.refl _ _) 8 _ trivial⟩
      · have E34 := hval 4 _ 34 rfl rfl (dep_of hdep 4 (by rfl))
        have E38 := hval 8 _ 38 rfl rfl (dep_of hdep 8 (by rfl))
        unfold dtbV at E34 E38
        refine g_plain rfl ?_
        exact does_value (w' := W) (v := .bool false) (by go_simp) ⟨.bool false, .inr rfl, hS.step (dtP_st _ _) (Below.refl _ _) 9 _ trivial⟩
      · have E39 := hval 9 _ 39 rfl rfl (dep_of hdep 9 (by rfl))
        unfold dtbV at E39
        refine g_plain rfl ?_
        exact does_value (w' := W) (v := .bool false) (by go_simp) ⟨.bool false, .inr rfl, hS.step (dtP_st _ _) (Below.refl _ _) 10 _ trivial⟩
      · have EG := hval 10 _ 40 rfl rfl (dep_of hdep 10 (by rfl))
        have E0 : a.tmps[0]? = some (.slice A0 n0 c0) := (same_of hsame 0 (by rfl)).trans rfl
        unfold dtbV at EG
        refine g_want rfl rfl rfl EG ?_
        exact does_value (w' := W) (v := .slice A0 n0 c0) (by go_simp) ⟨.bool false, .inr rfl, hS.step (dtP_st _ _) (Below.refl _ _) 11 _ trivial⟩
      · have EG := hval 10 _ 40 rfl rfl (dep_of hdep 10 (by rfl))
        have E1 : a.tmps[1]? = some (.slice A1 n1 c1) := (same_of hsame 1 (by rfl)).trans rfl
        unfold dtbV at EG
        refine g_want rfl rfl rfl EG ?_
        exact does_value (w' := W) (v := .slice A1 n1 c1) (by go_simp) ⟨.bool false, .inr rfl, hS.step (dtP_st _ _) (Below.refl _ _) 12 _ trivial⟩
      · have EG := hval 10 _ 40 rfl rfl (dep_of hdep 10 (by rfl))
        have E41 := hval 11 _ 41 rfl rfl (dep_of hdep 11 (by rfl))
        have E42 := hval 12 _ 42 rfl rfl (dep_of hdep 12 (by rfl))
        unfold dtbV at EG E41 E42
        refine g_want rfl rfl rfl EG ?_
        refine does_call 12 #[.slice A0 n0 c0, .slice A1 n1 c1] (by go_simp) ((K4.out W hS.bel).mono ?_)
        rintro e w' ⟨vv, rfl, ho, hb⟩
        obtain ⟨A9, c9, rfl, _, hf9, _⟩ := ho.ni
        exact ⟨_, rfl, _, .inr rfl, hS.step (dtP_st _ _) hb 13 _ ⟨_, _, _, rfl, by omega, hf9⟩⟩
      · have EG := hval 10 _ 40 rfl rfl (dep_of hdep 10 (by rfl))
        have E6 : a.tmps[6]? = some (.pointer (some ⟨p0, 0, none⟩)) := (same_of hsame 6 (by rfl)).trans rfl
        unfold dtbV at EG
        refine g_want rfl rfl rfl EG ?_
        exact does_load_dot _ rfl p0 (by rw [eval_getD, E6]; rfl) (HD0.out.keep hS.bel) ⟨.bool false, .inr rfl, hS.step (dtP_st _ _) (Below.refl _ _) 14 _ trivial⟩
      · have EG := hval 10 _ 40 rfl rfl (dep_of hdep 10 (by rfl))
        have E43 := hval 13 _ 43 rfl rfl (dep_of hdep 13 (by rfl))
        have E44 := hval 14 _ 44 rfl rfl (dep_of hdep 14 (by rfl))
        unfold dtbV at EG E43 E44
        obtain ⟨A9, n9, c9, e9, hn9, hi9⟩ : isNI _ (gh 13) W := hS.at_ 13 (by decide) (dep_of hdep 13 (by rfl))
        rw [e9] at E43
        refine g_want rfl rfl rfl EG ?_
        refine does_call 21 #[.slice A9 n9 c9, .agg #[.int .i64 R0, .int .i64 N0]] (by go_simp) ((vHas_calls n9 c9 A9 _ R0 N0 W hi9 (by omega)).mono ?_)
        rintro e w' ⟨rfl, hb⟩
        exact ⟨.bool (b1 && b2), by rw [HM.out], .bool false, .inr rfl, hS.step (dtP_st _ _) hb 15 _ trivial⟩
      · have EG := hval 10 _ 40 rfl rfl (dep_of hdep 10 (by rfl))
        have E10 : a.tmps[10]? = some (.bool b1) := (same_of hsame 10 (by rfl)).trans rfl
        unfold dtbV at EG
        refine g_want rfl rfl rfl EG ?_
        exact does_value (w' := W) (v := .bool b1) (by go_simp) ⟨.bool false, .inr rfl, hS.step (dtP_st _ _) (Below.refl _ _) 16 _ trivial⟩
      · have EG := hval 10 _ 40 rfl rfl (dep_of hdep 10 (by rfl))
        have E46 := hval 16 _ 46 rfl rfl (dep_of hdep 16 (by rfl))
        unfold dtbV at EG E46
        refine g_want rfl rfl rfl EG ?_
        exact does_value (w' := W) (v := .bool b1) (by go_simp) ⟨.bool false, .inr rfl, hS.step (dtP_st _ _) (Below.refl _ _) 17 _ trivial⟩
      · have EG := hval 17 _ 47 rfl rfl (dep_of hdep 17 (by rfl))
        have E11 : a.tmps[11]? = some (.bool b2) := (same_of hsame 11 (by rfl)).trans rfl
        unfold dtbV at EG
        cases b1 with
        | false => exact g_skip rfl rfl rfl EG rfl ⟨.bool false, .inr rfl, hS.step (dtP_st _ _) (Below.refl _ _) 18 _ trivial⟩
        | true =>
          refine g_want rfl rfl rfl EG ?_
          exact does_value (w' := W) (v := .bool b2) (by go_simp) ⟨.bool false, .inr rfl, hS.step (dtP_st _ _) (Below.refl _ _) 18 _ trivial⟩
      · have EG := hval 10 _ 40 rfl rfl (dep_of hdep 10 (by rfl))
        have E47 := hval 17 _ 47 rfl rfl (dep_of hdep 17 (by rfl))
        have E48 := hval 18 _ 48 rfl rfl (dep_of hdep 18 (by rfl))
        unfold dtbV at EG E47 E48
        refine g_want rfl rfl rfl EG ?_
        cases b1 with
        | true => exact does_value (w' := W) (v := .bool b2) (by go_simp) ⟨.bool false, .inr rfl, hS.step (dtP_st _ _) (Below.refl _ _) 19 _ trivial⟩
        | false => exact does_value (w' := W) (v := .bool false) (by go_simp) ⟨.bool false, .inr rfl, hS.step (dtP_st _ _) (Below.refl _ _) 19 _ trivial⟩
      · have EG := hval 10 _ 40 rfl rfl (dep_of hdep 10 (by rfl))
        have E45 := hval 15 _ 45 rfl rfl (dep_of hdep 15 (by rfl))
        have E49 := hval 19 _ 49 rfl rfl (dep_of hdep 19 (by rfl))
        unfold dtbV at EG E45 E49
        refine g_want rfl rfl rfl EG ?_
        exact does_value (w' := W) (v := .bool false) (by go_simp) ⟨.bool false, .inr rfl, hS.step (dtP_st _ _) (Below.refl _ _) 20 _ trivial⟩
      · have E40 := hval 10 _ 40 rfl rfl (dep_of hdep 10 (by rfl))
        have E50 := hval 20 _ 50 rfl rfl (dep_of hdep 20 (by rfl))
        unfold dtbV at E40 E50
        refine g_plain rfl ?_
        exact does_value (w' := W) (v := .bool false) (by go_simp) ⟨.bool false, .inr rfl, hS.step (dtP_st _ _) (Below.refl _ _) 21 _ trivial⟩
      · have E51 := hval 21 _ 51 rfl rfl (dep_of hdep 21 (by rfl))
        unfold dtbV at E51
        refine g_plain rfl ?_
        exact does_value (w' := W) (v := .bool false) (by go_simp) ⟨.bool false, .inr rfl, hS.step (dtP_st _ _) (Below.refl _ _) 22 _ trivial⟩
      · have EG := hval 22 _ 52 rfl rfl (dep_of hdep 22 (by rfl))
        have E0 : a.tmps[0]? = some (.slice A0 n0 c0) := (same_of hsame 0 (by rfl)).trans rfl
        unfold dtbV at EG
        refine g_want rfl rfl rfl EG ?_
        exact does_value (w' := W) (v := .slice A0 n0 c0) (by go_simp) ⟨.bool false, .inr rfl, hS.step (dtP_st _ _) (Below.refl _ _) 23 _ trivial⟩
      · have EG := hval 22 _ 52 rfl rfl (dep_of hdep 22 (by rfl))
        have E1 : a.tmps[1]? = some (.slice A1 n1 c1) := (same_of hsame 1 (by rfl)).trans rfl
        unfold dtbV at EG
        refine g_want rfl rfl rfl EG ?_
        exact does_value (w' := W) (v := .slice A1 n1 c1) (by go_simp) ⟨.bool false, .inr rfl, hS.step (dtP_st _ _) (Below.refl _ _) 24 _ trivial⟩
      · have EG := hval 22 _ 52 rfl rfl (dep_of hdep 22 (by rfl))
        have E53 := hval 23 _ 53 rfl rfl (dep_of hdep 23 (by rfl))
        have E54 := hval 24 _ 54 rfl rfl (dep_of hdep 24 (by rfl))
        unfold dtbV at EG E53 E54
        refine g_want rfl rfl rfl EG ?_
        refine does_call 23 #[.slice A0 n0 c0, .slice A1 n1 c1] (by go_simp) ((K5.out W hS.bel).mono ?_)
        rintro e w' ⟨rfl, hb⟩
        exact ⟨.bool b3, rfl, .bool false, .inr rfl, hS.step (dtP_st _ _) hb 25 _ trivial⟩
      · have EG := hval 22 _ 52 rfl rfl (dep_of hdep 22 (by rfl))
        have E55 := hval 25 _ 55 rfl rfl (dep_of hdep 25 (by rfl))
        unfold dtbV at EG E55
        refine g_want rfl rfl rfl EG ?_
        exact does_value (w' := W) (v := .bool b3) (by go_simp) ⟨.bool false, .inr rfl, hS.step (dtP_st _ _) (Below.refl _ _) 26 _ trivial⟩
      · have EG := hval 26 _ 56 rfl rfl (dep_of hdep 26 (by rfl))
        have E10 : a.tmps[10]? = some (.bool b1) := (same_of hsame 10 (by rfl)).trans rfl
        unfold dtbV at EG
        cases b3 with
        | false => exact g_skip rfl rfl rfl EG rfl ⟨.bool false, .inr rfl, hS.step (dtP_st _ _) (Below.refl _ _) 27 _ trivial⟩
        | true =>
          refine g_want rfl rfl rfl EG ?_
          exact does_value (w' := W) (v := .bool b1) (by go_simp) ⟨.bool false, .inr rfl, hS.step (dtP_st _ _) (Below.refl _ _) 27 _ trivial⟩
      · have EG := hval 22 _ 52 rfl rfl (dep_of hdep 22 (by rfl))
        have E56 := hval 26 _ 56 rfl rfl (dep_of hdep 26 (by rfl))
        have E57 := hval 27 _ 57 rfl rfl (dep_of hdep 27 (by rfl))
        unfold dtbV at EG E56 E57
        refine g_want rfl rfl rfl EG ?_
        cases b3 with
        | true => exact does_value (w' := W) (v := .bool b1) (by go_simp) ⟨.bool false, .inr rfl, hS.step (dtP_st _ _) (Below.refl _ _) 28 _ trivial⟩
        | false => exact does_value (w' := W) (v := .bool false) (by go_simp) ⟨.bool false, .inr rfl, hS.step (dtP_st _ _) (Below.refl _ _) 28 _ trivial⟩
      · have EG := hval 22 _ 52 rfl rfl (dep_of hdep 22 (by rfl))
        have E58 := hval 28 _ 58 rfl rfl (dep_of hdep 28 (by rfl))
        unfold dtbV at EG E58
        refine g_want rfl rfl rfl EG ?_
        exact does_value (w' := W) (v := .bool (b3 && b1)) (by go_simp) ⟨.bool false, .inr rfl, hS.step (dtP_st _ _) (Below.refl _ _) 29 _ trivial⟩
      · have EG := hval 29 _ 59 rfl rfl (dep_of hdep 29 (by rfl))
        have E11 : a.tmps[11]? = some (.bool b2) := (same_of hsame 11 (by rfl)).trans rfl
        unfold dtbV at EG
        cases b3 with
        | false => exact g_skip rfl rfl rfl EG rfl ⟨.bool false, .inr rfl, hS.step (dtP_st _ _) (Below.refl _ _) 30 _ trivial⟩
        | true =>
          cases b1 with
          | false => exact g_skip rfl rfl rfl EG rfl ⟨.bool false, .inr rfl, hS.step (dtP_st _ _) (Below.refl _ _) 30 _ trivial⟩
          | true =>
            refine g_want rfl rfl rfl EG ?_
            exact does_value (w' := W) (v := .bool b2) (by go_simp) ⟨.bool false, .inr rfl, hS.step (dtP_st _ _) (Below.refl _ _) 30 _ trivial⟩
      · have EG := hval 29 _ 59 rfl rfl (dep_of hdep 29 (by rfl))
        have E60 := hval 30 _ 60 rfl rfl (dep_of hdep 30 (by rfl))
        unfold dtbV at EG E60
        cases b3 with
        | false => exact g_skip rfl rfl rfl EG rfl ⟨.bool false, .inr rfl, hS.step (dtP_st _ _) (Below.refl _ _) 31 _ trivial⟩
        | true =>
          cases b1 with
          | false => exact g_skip rfl rfl rfl EG rfl ⟨.bool false, .inr rfl, hS.step (dtP_st _ _) (Below.refl _ _) 31 _ trivial⟩
          | true =>
            refine g_want rfl rfl rfl EG ?_
            exact does_value (w' := W) (v := .bool (!b2)) (by go_simp) ⟨.bool false, .inr rfl, hS.step (dtP_st _ _) (Below.refl _ _) 31 _ trivial⟩
      · have EG := hval 22 _ 52 rfl rfl (dep_of hdep 22 (by rfl))
        have E59 := hval 29 _ 59 rfl rfl (dep_of hdep 29 (by rfl))
        have E61 := hval 31 _ 61 rfl rfl (dep_of hdep 31 (by rfl))
        unfold dtbV at EG E59 E61
        refine g_want rfl rfl rfl EG ?_
        cases b3 with
        | false => exact does_value (w' := W) (v := .bool false) (by go_simp) ⟨.bool false, .inr rfl, hS.step (dtP_st _ _) (Below.refl _ _) 32 _ trivial⟩
        | true =>
          cases b1 with
          | false => exact does_value (w' := W) (v := .bool false) (by go_simp) ⟨.bool false, .inr rfl, hS.step (dtP_st _ _) (Below.refl _ _) 32 _ trivial⟩
          | true =>
            have h9 := HL.out rfl rfl
            subst h9
            exact does_value (w' := W) (v := .bool false) (by go_simp) ⟨.bool false, .inr rfl, hS.step (dtP_st _ _) (Below.refl _ _) 32 _ trivial⟩
      · have E52 := hval 22 _ 52 rfl rfl (dep_of hdep 22 (by rfl))
        have E62 := hval 32 _ 62 rfl rfl (dep_of hdep 32 (by rfl))
        unfold dtbV at E52 E62
        refine g_plain rfl ?_
        exact does_value (w' := W) (v := .bool false) (by go_simp) ⟨.bool false, .inr rfl, hS.step (dtP_st _ _) (Below.refl _ _) 33 _ trivial⟩
    · intro gh W4 hS
      have hb := hS.bel
      clear hS
      replace HU := hid (HU.out.keep hb)
      replace HV := hid (HV.out.keep hb)
      replace HD0 := hid (HD0.out.keep hb)
      replace HB := hid (HB.out.trans (hb.mono HB.out.size))
      clear hb
      simp only [putAll, dtbV, Nat.reduceAdd, Nat.zero_add, Act.put, List.setIfInBounds_toArray, List.set_cons_zero, List.set_cons_succ]
      clear K3 K4 K5 HL HJ HM
      generalize gh 2 = g2
      generalize gh 13 = g13
      obtain ⟨q, hq⟩ : ∃ q, 1 + r % 16 = q := ⟨_, rfl⟩
      have hq1 : 1 ≤ q ∧ q ≤ 16 := by omega
      have hwr : IntKind.i64.wrap (1 + r % 16) = q := by rw [IntWalk.i64_in _ (by omega)]; exact hq
      clear hq
      have hc := pick_calls r 16 W4 (by omega) (by omega)
      have HC := hid hc
      clear hc
      go_wp2_with fail
      refine HC.out.mono ?_
      rintro e w' ⟨rfl, rfl⟩
      clear HC
      obtain ⟨x, hx⟩ : ∃ x, atV u q = x := ⟨_, rfl⟩
      have HX := hid hx
      have hx0 : 0 ≤ x := by rw [← hx]; exact atV_nonneg u q
      clear hx
      by_cases hcap : capN ≤ x
      · have HN := hid (show nextV u q = (0, 0) from if_pos (.inr (by rw [HX.out]; exact hcap)))
        have hc := vNext_calls n0 c0 A0 u q W4 HU.out (by omega)
        rw [show nextV u q = (0, 0) from HN.out] at hc
        have HC := hid hc
        clear hc
        go_wp2_with fail
        refine HC.out.mono ?_
        rintro e W5 ⟨rfl, hb⟩
        clear HC
        replace HU := hid (HU.out.keep hb)
        replace HV := hid (HV.out.keep hb)
        replace HD0 := hid (HD0.out.keep hb)
        replace HB := hid (HB.out.trans (hb.mono HB.out.size))
        clear hb
        have hk9 := Blk.new W5 24 #[.int .i64 0, .int .i64 0]
        have HK9 := hid hk9
        have hs9 : Below W5.heap.size W5 ((W5.alloc (.cells #[.int .i64 0, .int .i64 0] 24)).setRow W5.heap.size #[.int .i64 0, .int .i64 0]) ∧ Blk ((W5.alloc (.cells #[.int .i64 0, .int .i64 0] 24)).setRow W5.heap.size #[.int .i64 0, .int .i64 0]) W5.heap.size 24 #[.int .i64 0, .int .i64 0] := new_set W5 24 _ _
        have HS9 := hid hs9
        clear hk9 hs9
        go_wp2_with (refine wpList_store_blk rfl _ _ _ rfl W5.heap.size #[.int .i64 0, .int .i64 0] rfl rfl _ _ HK9.out (by kernel_rfl) rfl (by rfl) ?_; refine Held.go ?_)
        generalize (W5.alloc (.cells #[.int .i64 0, .int .i64 0] 24)).setRow W5.heap.size #[.int .i64 0, .int .i64 0] = W6 at HS9 ⊢
        obtain ⟨p2, hp2⟩ : ∃ p, W5.heap.size = p := ⟨_, rfl⟩
        obtain ⟨hb, hd⟩ := HS9.out
        rw [hp2] at hd ⊢
        have HDN := hid hd
        clear hd hp2 HK9 HS9
        replace HU := hid (HU.out.keep hb)
        replace HV := hid (HV.out.keep hb)
        replace HD0 := hid (HD0.out.keep hb)
        replace HB := hid (HB.out.trans (hb.mono HB.out.size))
        clear hb
        unfold Held
        have d0 := HDN.out.cell 0 rfl
        have d1 := HDN.out.cell 1 rfl
        unfold capN at hcap
        have hc := vAt_calls n0 c0 A0 u q W6 HU.out (by omega)
        rw [show atV u q = x from HX.out] at hc
        have HC := hid hc
        clear hc
        go_wp2_with fail
        refine HC.out.mono ?_
        rintro e w' ⟨rfl, rfl⟩
        clear HC
        go_wp2_with fail
        go_ret
        exact ⟨rfl, HB.out⟩
      · have HN := hid (show nextV u q = (q, atV u q + 1) from if_neg (by rw [HX.out]; omega))
        rw [HX.out] at HN
        have HC2 := hid (show ¬ capN ≤ atV u q from by rw [HX.out]; exact hcap)
        have HQ1 := hid hq1
        obtain ⟨k, hk⟩ : ∃ k, x + 1 = k := ⟨_, rfl⟩
        rw [hk] at HN
        have hwk : IntKind.i64.wrap (x + 1) = k := by rw [← hk]; exact IntWalk.i64_in _ (by unfold capN at hcap; omega)
        have HK := hid (show atV u q + 1 = k from by rw [HX.out]; exact hk)
        have hc := vNext_calls n0 c0 A0 u q W4 HU.out (by omega)
        rw [show nextV u q = (q, k) from HN.out] at hc
        have HC := hid hc
        clear hc
        go_wp2_with fail
        refine HC.out.mono ?_
        rintro e W5 ⟨rfl, hb⟩
        clear HC
        replace HU := hid (HU.out.keep hb)
        replace HV := hid (HV.out.keep hb)
        replace HD0 := hid (HD0.out.keep hb)
        replace HB := hid (HB.out.trans (hb.mono HB.out.size))
        clear hb
        have hk9 := Blk.new W5 24 #[.int .i64 0, .int .i64 0]
        have HK9 := hid hk9
        have hs9 : Below W5.heap.size W5 ((W5.alloc (.cells #[.int .i64 0, .int .i64 0] 24)).setRow W5.heap.size #[.int .i64 q, .int .i64 k]) ∧ Blk ((W5.alloc (.cells #[.int .i64 0, .int .i64 0] 24)).setRow W5.heap.size #[.int .i64 q, .int .i64 k]) W5.heap.size 24 #[.int .i64 q, .int .i64 k] := new_set W5 24 _ _
        have HS9 := hid hs9
        clear hk9 hs9
        go_wp2_with (refine wpList_store_blk rfl _ _ _ rfl W5.heap.size #[.int .i64 q, .int .i64 k] rfl rfl _ _ HK9.out (by kernel_rfl) rfl (by rfl) ?_; refine Held.go ?_)
        generalize (W5.alloc (.cells #[.int .i64 0, .int .i64 0] 24)).setRow W5.heap.size #[.int .i64 q, .int .i64 k] = W6 at HS9 ⊢
        obtain ⟨p2, hp2⟩ : ∃ p, W5.heap.size = p := ⟨_, rfl⟩
        obtain ⟨hb, hd⟩ := HS9.out
        rw [hp2] at hd ⊢
        have HDN := hid hd
        clear hd hp2 HK9 HS9
        replace HU := hid (HU.out.keep hb)
        replace HV := hid (HV.out.keep hb)
        replace HD0 := hid (HD0.out.keep hb)
        replace HB := hid (HB.out.trans (hb.mono HB.out.size))
        clear hb
        unfold Held
        have hq0 : ¬ q = 0 := by omega
        have hc := vWith_calls n0 c0 A0 u q k W6 HU.out (by omega)
        have HC := hid hc
        clear hc
        have d0 := HDN.out.cell 0 rfl
        have d1 := HDN.out.cell 1 rfl
        go_wp2_with fail
        refine HC.out.mono ?_
        rintro e W7 ⟨vv1, rfl, ho, hb⟩
        clear HC
        replace HU := hid (HU.out.keep hb)
        replace HV := hid (HV.out.keep hb)
        replace HD0 := hid (HD0.out.keep hb)
        replace HDN := hid (HDN.out.keep hb)
        replace HB := hid (HB.out.trans (hb.mono HB.out.size))
        clear hb
        obtain ⟨nn1, hnn⟩ : ∃ n, (withV u q k).length = n := ⟨_, rfl⟩
        rw [hnn] at ho
        have hnb1 : nn1 ≤ 1000000 := by rw [← hnn]; exact with_len _ _ _ (by rw [HLU.out]; omega)
        clear hnn
        obtain ⟨AA1, cc1, rfl, _, hf, _⟩ := ho.ni
        have F1 : Hid (NI W7 AA1 nn1 (withV u q k)) := hf
        clear ho hf
        clear d0 d1
        have hc3 : ¬ capN ≤ atV u q := by have := HC2.out; omega
        have T1 := hid (nhas_next (v := u) (r := q))
        have T2 := hid (leq_with HQ1.out.1 HQ1.out.2 hc3)
        have T3 := hid (nleq_with HQ1.out.1 HQ1.out.2 hc3)
        have T4 := hid (has_with (R := R0) (N := N0) HQ1.out.1 HQ1.out.2 hc3)
        have T5 := hid (has_with (R := q) (N := k) HQ1.out.1 HQ1.out.2 hc3)
        rw [HK.out] at T1 T2 T3 T4 T5
        have T6 := hid (show hasV (withV u q k) q k = true from by rw [T5.out]; simp)
        rw [HX1.out] at T4
        have K1 := hid (fun (W : World) (hb : Below W7.heap.size W7 W) => vHas_calls n0 c0 A0 u q k W (HU.out.keep hb) (by omega))
        simp only [T1.out] at K1
        have K2 := hid (fun (W : World) (hb : Below W7.heap.size W7 W) => vHas_calls nn1 cc1 AA1 (withV u q k) q k W (F1.out.keep hb) (by omega))
        simp only [T6.out] at K2
        have K3 := hid (fun (W : World) (hb : Below W7.heap.size W7 W) => leq_calls n0 c0 nn1 cc1 A0 AA1 u (withV u q k) W (HU.out.keep hb) (F1.out.keep hb) (by omega) (by omega))
        simp only [T2.out] at K3
        have K4 := hid (fun (W : World) (hb : Below W7.heap.size W7 W) => leq_calls nn1 cc1 n0 c0 AA1 A0 (withV u q k) u W (F1.out.keep hb) (HU.out.keep hb) (by omega) (by omega))
        simp only [T3.out] at K4
        have K6 := hid (fun (W : World) (hb : Below W7.heap.size W7 W) => vAt_calls n0 c0 A0 u q W (HU.out.keep hb) (by omega))
        simp only [HX.out] at K6
        clear hc3
        clear hk
        clear T1 T2 T3 T5 T6
        cases b1 with
        | true =>
          have T7 := hid (show hasV (withV u q k) R0 N0 = true from by rw [T4.out]; rfl)
          have K5 := hid (fun (W : World) (hb : Below W7.heap.size W7 W) => vHas_calls nn1 cc1 AA1 (withV u q k) R0 N0 W (F1.out.keep hb) (by omega))
          simp only [T7.out] at K5
          go_wp2_with fail
          refine wp_region_invG 133 () (dtcV A0 n0 c0 q k AA1 nn1 cc1 R0 N0 p2 x) (fun _ _ W => Below W7.heap.size W7 W) (by kernel_rfl) (by kernel_rfl) (by exact Nat.le_refl 133) ?_ ?_ ?_
          · exact (Below.refl _ _).drew
          · intro i o f gh a W hi hf hdep hsame hcl hval hS
            rcases i with _ | _ | _ | _ | _ | _ | _ | _ | _ | _ | _ | _ | _ | _ | _ | _ | _ | _ | _ | _ | _ | _ | _ | _ | _ | _ | _ | _ | _ | _ | _ | _ | _ | _ | _ | _ | _ | _ | _ | _ | _ | _ | _ | _ | _ | _ | _ | _ | _ | _ | _ | i
            all_goals simp only [List.getElem?_cons_succ, List.getElem?_cons_zero, List.getElem?_nil, Option.some.injEq, reduceCtorEq] at hi
            all_goals subst hi
            · have E9 : a.tmps[9]? = some (.bool true) := (same_of hsame 9 (by rfl)).trans rfl
              refine g_plain rfl ?_
              exact does_value (w' := W) (v := .bool true) (by go_simp) ⟨(), .inr rfl, hS⟩
            · have E83 := hval 0 _ 83 rfl rfl (dep_of hdep 0 (by rfl))
              unfold dtcV at E83
              refine g_plain rfl ?_
              exact does_value (w' := W) (v := .bool true) (by go_simp) ⟨(), .inr rfl, hS⟩
            · have EG := hval 1 _ 84 rfl rfl (dep_of hdep 1 (by rfl))
              have E0 : a.tmps[0]? = some (.slice A0 n0 c0) := (same_of hsame 0 (by rfl)).trans rfl
              unfold dtcV at EG
              refine g_want rfl rfl rfl EG ?_
              exact does_value (w' := W) (v := .slice A0 n0 c0) (by go_simp) ⟨(), .inr rfl, hS⟩
            · have EG := hval 1 _ 84 rfl rfl (dep_of hdep 1 (by rfl))
              have E12 : a.tmps[12]? = some (.pointer (some ⟨p2, 0, none⟩)) := (same_of hsame 12 (by rfl)).trans rfl
              unfold dtcV at EG
              refine g_want rfl rfl rfl EG ?_
              exact does_load_dot _ rfl p2 (by rw [eval_getD, E12]; rfl) (HDN.out.keep hS) ⟨(), .inr rfl, hS⟩
            · have EG := hval 1 _ 84 rfl rfl (dep_of hdep 1 (by rfl))
              have E85 := hval 2 _ 85 rfl rfl (dep_of hdep 2 (by rfl))
              have E86 := hval 3 _ 86 rfl rfl (dep_of hdep 3 (by rfl))
              unfold dtcV at EG E85 E86
              refine g_want rfl rfl rfl EG ?_
              refine does_call 21 #[.slice A0 n0 c0, .agg #[.int .i64 q, .int .i64 k]] (by go_simp) ((K1.out W hS).mono ?_)
              rintro e w' ⟨rfl, hb⟩
              exact ⟨.bool false, rfl, (), .inr rfl, hS.trans (hb.mono hS.size)⟩
            · have EG := hval 1 _ 84 rfl rfl (dep_of hdep 1 (by rfl))
              have E87 := hval 4 _ 87 rfl rfl (dep_of hdep 4 (by rfl))
              unfold dtcV at EG E87
              refine g_want rfl rfl rfl EG ?_
              exact does_value (w' := W) (v := .bool true) (by go_simp) ⟨(), .inr rfl, hS⟩
            · have E84 := hval 1 _ 84 rfl rfl (dep_of hdep 1 (by rfl))
              have E88 := hval 5 _ 88 rfl rfl (dep_of hdep 5 (by rfl))
              unfold dtcV at E84 E88
              refine g_plain rfl ?_
              exact does_value (w' := W) (v := .bool true) (by go_simp) ⟨(), .inr rfl, hS⟩
            · have E89 := hval 6 _ 89 rfl rfl (dep_of hdep 6 (by rfl))
              unfold dtcV at E89
              refine g_plain rfl ?_
              exact does_value (w' := W) (v := .bool true) (by go_simp) ⟨(), .inr rfl, hS⟩
            · have EG := hval 7 _ 90 rfl rfl (dep_of hdep 7 (by rfl))
              have E13 : a.tmps[13]? = some (.slice AA1 nn1 cc1) := (same_of hsame 13 (by rfl)).trans rfl
              unfold dtcV at EG
              refine g_want rfl rfl rfl EG ?_
              exact does_value (w' := W) (v := .slice AA1 nn1 cc1) (by go_simp) ⟨(), .inr rfl, hS⟩
            · have EG := hval 7 _ 90 rfl rfl (dep_of hdep 7 (by rfl))
              have E12 : a.tmps[12]? = some (.pointer (some ⟨p2, 0, none⟩)) := (same_of hsame 12 (by rfl)).trans rfl
              unfold dtcV at EG
              refine g_want rfl rfl rfl EG ?_
              exact does_load_dot _ rfl p2 (by rw [eval_getD, E12]; rfl) (HDN.out.keep hS) ⟨(), .inr rfl, hS⟩
            · have EG := hval 7 _ 90 rfl rfl (dep_of hdep 7 (by rfl))
              have E91 := hval 8 _ 91 rfl rfl (dep_of hdep 8 (by rfl))
              have E92 := hval 9 _ 92 rfl rfl (dep_of hdep 9 (by rfl))
              unfold dtcV at EG E91 E92
              refine g_want rfl rfl rfl EG ?_
              refine does_call 21 #[.slice AA1 nn1 cc1, .agg #[.int .i64 q, .int .i64 k]] (by go_simp) ((K2.out W hS).mono ?_)
              rintro e w' ⟨rfl, hb⟩
              exact ⟨.bool true, rfl, (), .inr rfl, hS.trans (hb.mono hS.size)⟩
            · have E90 := hval 7 _ 90 rfl rfl (dep_of hdep 7 (by rfl))
              have E93 := hval 10 _ 93 rfl rfl (dep_of hdep 10 (by rfl))
              unfold dtcV at E90 E93
              refine g_plain rfl ?_
              exact does_value (w' := W) (v := .bool true) (by go_simp) ⟨(), .inr rfl, hS⟩
            · have E94 := hval 11 _ 94 rfl rfl (dep_of hdep 11 (by rfl))
              unfold dtcV at E94
              refine g_plain rfl ?_
              exact does_value (w' := W) (v := .bool true) (by go_simp) ⟨(), .inr rfl, hS⟩
            · have EG := hval 12 _ 95 rfl rfl (dep_of hdep 12 (by rfl))
              have E0 : a.tmps[0]? = some (.slice A0 n0 c0) := (same_of hsame 0 (by rfl)).trans rfl
              unfold dtcV at EG
              refine g_want rfl rfl rfl EG ?_
              exact does_value (w' := W) (v := .slice A0 n0 c0) (by go_simp) ⟨(), .inr rfl, hS⟩
            · have EG := hval 12 _ 95 rfl rfl (dep_of hdep 12 (by rfl))
              have E13 : a.tmps[13]? = some (.slice AA1 nn1 cc1) := (same_of hsame 13 (by rfl)).trans rfl
              unfold dtcV at EG
              refine g_want rfl rfl rfl EG ?_
              exact does_value (w' := W) (v := .slice AA1 nn1 cc1) (by go_simp) ⟨(), .inr rfl, hS⟩
            · have EG := hval 12 _ 95 rfl rfl (dep_of hdep 12 (by rfl))
              have E96 := hval 13 _ 96 rfl rfl (dep_of hdep 13 (by rfl))
              have E97 := hval 14 _ 97 rfl rfl (dep_of hdep 14 (by rfl))
              unfold dtcV at EG E96 E97
              refine g_want rfl rfl rfl EG ?_
              refine does_call 23 #[.slice A0 n0 c0, .slice AA1 nn1 cc1] (by go_simp) ((K3.out W hS).mono ?_)
              rintro e w' ⟨rfl, hb⟩
              exact ⟨.bool true, rfl, (), .inr rfl, hS.trans (hb.mono hS.size)⟩
            · have E95 := hval 12 _ 95 rfl rfl (dep_of hdep 12 (by rfl))
              have E98 := hval 15 _ 98 rfl rfl (dep_of hdep 15 (by rfl))
              unfold dtcV at E95 E98
              refine g_plain rfl ?_
              exact does_value (w' := W) (v := .bool true) (by go_simp) ⟨(), .inr rfl, hS⟩
            · have E99 := hval 16 _ 99 rfl rfl (dep_of hdep 16 (by rfl))
              unfold dtcV at E99
              refine g_plain rfl ?_
              exact does_value (w' := W) (v := .bool true) (by go_simp) ⟨(), .inr rfl, hS⟩
            · have EG := hval 17 _ 100 rfl rfl (dep_of hdep 17 (by rfl))
              have E13 : a.tmps[13]? = some (.slice AA1 nn1 cc1) := (same_of hsame 13 (by rfl)).trans rfl
              unfold dtcV at EG
              refine g_want rfl rfl rfl EG ?_
              exact does_value (w' := W) (v := .slice AA1 nn1 cc1) (by go_simp) ⟨(), .inr rfl, hS⟩
            · have EG := hval 17 _ 100 rfl rfl (dep_of hdep 17 (by rfl))
              have E0 : a.tmps[0]? = some (.slice A0 n0 c0) := (same_of hsame 0 (by rfl)).trans rfl
              unfold dtcV at EG
              refine g_want rfl rfl rfl EG ?_
              exact does_value (w' := W) (v := .slice A0 n0 c0) (by go_simp) ⟨(), .inr rfl, hS⟩
            · have EG := hval 17 _ 100 rfl rfl (dep_of hdep 17 (by rfl))
              have E101 := hval 18 _ 101 rfl rfl (dep_of hdep 18 (by rfl))
              have E102 := hval 19 _ 102 rfl rfl (dep_of hdep 19 (by rfl))
              unfold dtcV at EG E101 E102
              refine g_want rfl rfl rfl EG ?_
              refine does_call 23 #[.slice AA1 nn1 cc1, .slice A0 n0 c0] (by go_simp) ((K4.out W hS).mono ?_)
              rintro e w' ⟨rfl, hb⟩
              exact ⟨.bool false, rfl, (), .inr rfl, hS.trans (hb.mono hS.size)⟩
            · have EG := hval 17 _ 100 rfl rfl (dep_of hdep 17 (by rfl))
              have E103 := hval 20 _ 103 rfl rfl (dep_of hdep 20 (by rfl))
              unfold dtcV at EG E103
              refine g_want rfl rfl rfl EG ?_
              exact does_value (w' := W) (v := .bool true) (by go_simp) ⟨(), .inr rfl, hS⟩
            · have E100 := hval 17 _ 100 rfl rfl (dep_of hdep 17 (by rfl))
              have E104 := hval 21 _ 104 rfl rfl (dep_of hdep 21 (by rfl))
              unfold dtcV at E100 E104
              refine g_plain rfl ?_
              exact does_value (w' := W) (v := .bool true) (by go_simp) ⟨(), .inr rfl, hS⟩
            · have E105 := hval 22 _ 105 rfl rfl (dep_of hdep 22 (by rfl))
              unfold dtcV at E105
              refine g_plain rfl ?_
              exact does_value (w' := W) (v := .bool true) (by go_simp) ⟨(), .inr rfl, hS⟩
            · have EG := hval 23 _ 106 rfl rfl (dep_of hdep 23 (by rfl))
              have E13 : a.tmps[13]? = some (.slice AA1 nn1 cc1) := (same_of hsame 13 (by rfl)).trans rfl
              unfold dtcV at EG
              refine g_want rfl rfl rfl EG ?_
              exact does_value (w' := W) (v := .slice AA1 nn1 cc1) (by go_simp) ⟨(), .inr rfl, hS⟩
            · have EG := hval 23 _ 106 rfl rfl (dep_of hdep 23 (by rfl))
              have E6 : a.tmps[6]? = some (.pointer (some ⟨p0, 0, none⟩)) := (same_of hsame 6 (by rfl)).trans rfl
              unfold dtcV at EG
              refine g_want rfl rfl rfl EG ?_
              exact does_load_dot _ rfl p0 (by rw [eval_getD, E6]; rfl) (HD0.out.keep hS) ⟨(), .inr rfl, hS⟩
            · have EG := hval 23 _ 106 rfl rfl (dep_of hdep 23 (by rfl))
              have E107 := hval 24 _ 107 rfl rfl (dep_of hdep 24 (by rfl))
              have E108 := hval 25 _ 108 rfl rfl (dep_of hdep 25 (by rfl))
              unfold dtcV at EG E107 E108
              refine g_want rfl rfl rfl EG ?_
              refine does_call 21 #[.slice AA1 nn1 cc1, .agg #[.int .i64 R0, .int .i64 N0]] (by go_simp) ((K5.out W hS).mono ?_)
              rintro e w' ⟨rfl, hb⟩
              exact ⟨.bool true, rfl, (), .inr rfl, hS.trans (hb.mono hS.size)⟩
            · have EG := hval 23 _ 106 rfl rfl (dep_of hdep 23 (by rfl))
              have E10 : a.tmps[10]? = some (.bool true) := (same_of hsame 10 (by rfl)).trans rfl
              unfold dtcV at EG
              refine g_want rfl rfl rfl EG ?_
              exact does_value (w' := W) (v := .bool true) (by go_simp) ⟨(), .inr rfl, hS⟩
            · have EG := hval 23 _ 106 rfl rfl (dep_of hdep 23 (by rfl))
              have E110 := hval 27 _ 110 rfl rfl (dep_of hdep 27 (by rfl))
              unfold dtcV at EG E110
              refine g_want rfl rfl rfl EG ?_
              exact does_value (w' := W) (v := .bool true) (by go_simp) ⟨(), .inr rfl, hS⟩
            · have EG := hval 28 _ 111 rfl rfl (dep_of hdep 28 (by rfl))
              unfold dtcV at EG
              exact g_skip rfl rfl rfl EG rfl ⟨(), .inr rfl, hS⟩
            · have EG := hval 28 _ 111 rfl rfl (dep_of hdep 28 (by rfl))
              unfold dtcV at EG
              exact g_skip rfl rfl rfl EG rfl ⟨(), .inr rfl, hS⟩
            · have EG := hval 28 _ 111 rfl rfl (dep_of hdep 28 (by rfl))
              unfold dtcV at EG
              exact g_skip rfl rfl rfl EG rfl ⟨(), .inr rfl, hS⟩
            · have EG := hval 23 _ 106 rfl rfl (dep_of hdep 23 (by rfl))
              have E111 := hval 28 _ 111 rfl rfl (dep_of hdep 28 (by rfl))
              have E114 := hval 31 _ 114 rfl rfl (dep_of hdep 31 (by rfl))
              unfold dtcV at EG E111 E114
              refine g_want rfl rfl rfl EG ?_
              exact does_value (w' := W) (v := .bool true) (by go_simp) ⟨(), .inr rfl, hS⟩
            · have EG := hval 23 _ 106 rfl rfl (dep_of hdep 23 (by rfl))
              have E109 := hval 26 _ 109 rfl rfl (dep_of hdep 26 (by rfl))
              have E115 := hval 32 _ 115 rfl rfl (dep_of hdep 32 (by rfl))
              unfold dtcV at EG E109 E115
              refine g_want rfl rfl rfl EG ?_
              exact does_value (w' := W) (v := .bool true) (by go_simp) ⟨(), .inr rfl, hS⟩
            · have E106 := hval 23 _ 106 rfl rfl (dep_of hdep 23 (by rfl))
              have E116 := hval 33 _ 116 rfl rfl (dep_of hdep 33 (by rfl))
              unfold dtcV at E106 E116
              refine g_plain rfl ?_
              exact does_value (w' := W) (v := .bool true) (by go_simp) ⟨(), .inr rfl, hS⟩
            · have E117 := hval 34 _ 117 rfl rfl (dep_of hdep 34 (by rfl))
              unfold dtcV at E117
              refine g_plain rfl ?_
              exact does_value (w' := W) (v := .bool true) (by go_simp) ⟨(), .inr rfl, hS⟩
            · have EG := hval 35 _ 118 rfl rfl (dep_of hdep 35 (by rfl))
              have E12 : a.tmps[12]? = some (.pointer (some ⟨p2, 0, none⟩)) := (same_of hsame 12 (by rfl)).trans rfl
              unfold dtcV at EG
              refine g_want rfl rfl rfl EG ?_
              exact does_value (w' := W) (v := .pointer (some ⟨p2, 0, none⟩)) (by go_simp) ⟨(), .inr rfl, hS⟩
            · have EG := hval 35 _ 118 rfl rfl (dep_of hdep 35 (by rfl))
              have E119 := hval 36 _ 119 rfl rfl (dep_of hdep 36 (by rfl))
              unfold dtcV at EG E119
              have kp2 := HDN.out.keep hS
              have c0' := kp2.cell 0 rfl
              have c1' := kp2.cell 1 rfl
              refine g_want rfl rfl rfl EG ?_
              exact does_value (w' := W) (v := .int .i64 q) (by go_simp) ⟨(), .inr rfl, hS⟩
            · have EG := hval 35 _ 118 rfl rfl (dep_of hdep 35 (by rfl))
              have E3 : a.tmps[3]? = some (.int .i64 q) := (same_of hsame 3 (by rfl)).trans rfl
              unfold dtcV at EG
              refine g_want rfl rfl rfl EG ?_
              exact does_value (w' := W) (v := .int .i64 q) (by go_simp) ⟨(), .inr rfl, hS⟩
            · have EG := hval 35 _ 118 rfl rfl (dep_of hdep 35 (by rfl))
              have E120 := hval 37 _ 120 rfl rfl (dep_of hdep 37 (by rfl))
              have E121 := hval 38 _ 121 rfl rfl (dep_of hdep 38 (by rfl))
              unfold dtcV at EG E120 E121
              refine g_want rfl rfl rfl EG ?_
              exact does_value (w' := W) (v := .bool true) (by go_simp) ⟨(), .inr rfl, hS⟩
            · have E118 := hval 35 _ 118 rfl rfl (dep_of hdep 35 (by rfl))
              have E122 := hval 39 _ 122 rfl rfl (dep_of hdep 39 (by rfl))
              unfold dtcV at E118 E122
              refine g_plain rfl ?_
              exact does_value (w' := W) (v := .bool true) (by go_simp) ⟨(), .inr rfl, hS⟩
            · have E123 := hval 40 _ 123 rfl rfl (dep_of hdep 40 (by rfl))
              unfold dtcV at E123
              refine g_plain rfl ?_
              exact does_value (w' := W) (v := .bool true) (by go_simp) ⟨(), .inr rfl, hS⟩
            · have EG := hval 41 _ 124 rfl rfl (dep_of hdep 41 (by rfl))
              have E12 : a.tmps[12]? = some (.pointer (some ⟨p2, 0, none⟩)) := (same_of hsame 12 (by rfl)).trans rfl
              unfold dtcV at EG
              refine g_want rfl rfl rfl EG ?_
              exact does_value (w' := W) (v := .pointer (some ⟨p2, 1, none⟩)) (by go_simp) ⟨(), .inr rfl, hS⟩
            · have EG := hval 41 _ 124 rfl rfl (dep_of hdep 41 (by rfl))
              have E125 := hval 42 _ 125 rfl rfl (dep_of hdep 42 (by rfl))
              unfold dtcV at EG E125
              have kp2 := HDN.out.keep hS
              have c0' := kp2.cell 0 rfl
              have c1' := kp2.cell 1 rfl
              refine g_want rfl rfl rfl EG ?_
              exact does_value (w' := W) (v := .int .i64 k) (by go_simp) ⟨(), .inr rfl, hS⟩
            · have EG := hval 41 _ 124 rfl rfl (dep_of hdep 41 (by rfl))
              have E0 : a.tmps[0]? = some (.slice A0 n0 c0) := (same_of hsame 0 (by rfl)).trans rfl
              unfold dtcV at EG
              refine g_want rfl rfl rfl EG ?_
              exact does_value (w' := W) (v := .slice A0 n0 c0) (by go_simp) ⟨(), .inr rfl, hS⟩
            · have EG := hval 41 _ 124 rfl rfl (dep_of hdep 41 (by rfl))
              have E3 : a.tmps[3]? = some (.int .i64 q) := (same_of hsame 3 (by rfl)).trans rfl
              unfold dtcV at EG
              refine g_want rfl rfl rfl EG ?_
              exact does_value (w' := W) (v := .int .i64 q) (by go_simp) ⟨(), .inr rfl, hS⟩
            · have EG := hval 41 _ 124 rfl rfl (dep_of hdep 41 (by rfl))
              have E127 := hval 44 _ 127 rfl rfl (dep_of hdep 44 (by rfl))
              have E128 := hval 45 _ 128 rfl rfl (dep_of hdep 45 (by rfl))
              unfold dtcV at EG E127 E128
              refine g_want rfl rfl rfl EG ?_
              refine does_call 19 #[.slice A0 n0 c0, .int .i64 q] (by go_simp) ((K6.out W hS).mono ?_)
              rintro e w' ⟨rfl, rfl⟩
              exact ⟨.int .i64 x, rfl, (), .inr rfl, hS⟩
            · have EG := hval 41 _ 124 rfl rfl (dep_of hdep 41 (by rfl))
              have E129 := hval 46 _ 129 rfl rfl (dep_of hdep 46 (by rfl))
              unfold dtcV at EG E129
              refine g_want rfl rfl rfl EG ?_
              exact does_value (w' := W) (v := .int .i64 k) (by go_simp) ⟨(), .inr rfl, hS⟩
            · have EG := hval 41 _ 124 rfl rfl (dep_of hdep 41 (by rfl))
              have E126 := hval 43 _ 126 rfl rfl (dep_of hdep 43 (by rfl))
              have E130 := hval 47 _ 130 rfl rfl (dep_of hdep 47 (by rfl))
              unfold dtcV at EG E126 E130
              refine g_want rfl rfl rfl EG ?_
              exact does_value (w' := W) (v := .bool true) (by go_simp) ⟨(), .inr rfl, hS⟩
            · have E124 := hval 41 _ 124 rfl rfl (dep_of hdep 41 (by rfl))
              have E131 := hval 48 _ 131 rfl rfl (dep_of hdep 48 (by rfl))
              unfold dtcV at E124 E131
              refine g_plain rfl ?_
              exact does_value (w' := W) (v := .bool true) (by go_simp) ⟨(), .inr rfl, hS⟩
            · have E132 := hval 49 _ 132 rfl rfl (dep_of hdep 49 (by rfl))
              unfold dtcV at E132
              refine g_plain rfl ?_
              exact does_value (w' := W) (v := .bool true) (by go_simp) ⟨(), .inr rfl, hS⟩
          · intro gh W8 hb
            replace HU := hid (HU.out.keep hb)
            replace HV := hid (HV.out.keep hb)
            replace HD0 := hid (HD0.out.keep hb)
            replace HDN := hid (HDN.out.keep hb)
            replace F1 := hid (F1.out.keep hb)
            replace HB := hid (HB.out.trans (hb.mono HB.out.size))
            clear hb
            simp only [putAll, dtcV, Nat.reduceAdd, Nat.zero_add, Act.put, List.setIfInBounds_toArray, List.set_cons_zero, List.set_cons_succ]
            go_wp2_with fail
            go_ret
            exact ⟨rfl, HB.out⟩
        | false =>
          by_cases he : R0 = q ∧ N0 = k
          · have HE := hid he
            clear he
            have T7 := hid (show hasV (withV u q k) R0 N0 = true from by rw [T4.out]; simp [HE.out.1, HE.out.2])
            have K5 := hid (fun (W : World) (hb : Below W7.heap.size W7 W) => vHas_calls nn1 cc1 AA1 (withV u q k) R0 N0 W (F1.out.keep hb) (by omega))
            simp only [T7.out] at K5
            go_wp2_with fail
            refine wp_region_invG 133 () (dtdV A0 n0 c0 q k AA1 nn1 cc1 R0 N0 p2 x) (fun _ _ W => Below W7.heap.size W7 W) (by kernel_rfl) (by kernel_rfl) (by exact Nat.le_refl 133) ?_ ?_ ?_
            · exact (Below.refl _ _).drew
            · intro i o f gh a W hi hf hdep hsame hcl hval hS
              rcases i with _ | _ | _ | _ | _ | _ | _ | _ | _ | _ | _ | _ | _ | _ | _ | _ | _ | _ | _ | _ | _ | _ | _ | _ | _ | _ | _ | _ | _ | _ | _ | _ | _ | _ | _ | _ | _ | _ | _ | _ | _ | _ | _ | _ | _ | _ | _ | _ | _ | _ | _ | i
              all_goals simp only [List.getElem?_cons_succ, List.getElem?_cons_zero, List.getElem?_nil, Option.some.injEq, reduceCtorEq] at hi
              all_goals subst hi
              · have E9 : a.tmps[9]? = some (.bool true) := (same_of hsame 9 (by rfl)).trans rfl
                refine g_plain rfl ?_
                exact does_value (w' := W) (v := .bool true) (by go_simp) ⟨(), .inr rfl, hS⟩
              · have E83 := hval 0 _ 83 rfl rfl (dep_of hdep 0 (by rfl))
                unfold dtdV at E83
                refine g_plain rfl ?_
                exact does_value (w' := W) (v := .bool true) (by go_simp) ⟨(), .inr rfl, hS⟩
              · have EG := hval 1 _ 84 rfl rfl (dep_of hdep 1 (by rfl))
                have E0 : a.tmps[0]? = some (.slice A0 n0 c0) := (same_of hsame 0 (by rfl)).trans rfl
                unfold dtdV at EG
                refine g_want rfl rfl rfl EG ?_
                exact does_value (w' := W) (v := .slice A0 n0 c0) (by go_simp) ⟨(), .inr rfl, hS⟩
              · have EG := hval 1 _ 84 rfl rfl (dep_of hdep 1 (by rfl))
                have E12 : a.tmps[12]? = some (.pointer (some ⟨p2, 0, none⟩)) := (same_of hsame 12 (by rfl)).trans rfl
                unfold dtdV at EG
                refine g_want rfl rfl rfl EG ?_
                exact does_load_dot _ rfl p2 (by rw [eval_getD, E12]; rfl) (HDN.out.keep hS) ⟨(), .inr rfl, hS⟩
              · have EG := hval 1 _ 84 rfl rfl (dep_of hdep 1 (by rfl))
                have E85 := hval 2 _ 85 rfl rfl (dep_of hdep 2 (by rfl))
                have E86 := hval 3 _ 86 rfl rfl (dep_of hdep 3 (by rfl))
                unfold dtdV at EG E85 E86
                refine g_want rfl rfl rfl EG ?_
                refine does_call 21 #[.slice A0 n0 c0, .agg #[.int .i64 q, .int .i64 k]] (by go_simp) ((K1.out W hS).mono ?_)
                rintro e w' ⟨rfl, hb⟩
                exact ⟨.bool false, rfl, (), .inr rfl, hS.trans (hb.mono hS.size)⟩
              · have EG := hval 1 _ 84 rfl rfl (dep_of hdep 1 (by rfl))
                have E87 := hval 4 _ 87 rfl rfl (dep_of hdep 4 (by rfl))
                unfold dtdV at EG E87
                refine g_want rfl rfl rfl EG ?_
                exact does_value (w' := W) (v := .bool true) (by go_simp) ⟨(), .inr rfl, hS⟩
              · have E84 := hval 1 _ 84 rfl rfl (dep_of hdep 1 (by rfl))
                have E88 := hval 5 _ 88 rfl rfl (dep_of hdep 5 (by rfl))
                unfold dtdV at E84 E88
                refine g_plain rfl ?_
                exact does_value (w' := W) (v := .bool true) (by go_simp) ⟨(), .inr rfl, hS⟩
              · have E89 := hval 6 _ 89 rfl rfl (dep_of hdep 6 (by rfl))
                unfold dtdV at E89
                refine g_plain rfl ?_
                exact does_value (w' := W) (v := .bool true) (by go_simp) ⟨(), .inr rfl, hS⟩
              · have EG := hval 7 _ 90 rfl rfl (dep_of hdep 7 (by rfl))
                have E13 : a.tmps[13]? = some (.slice AA1 nn1 cc1) := (same_of hsame 13 (by rfl)).trans rfl
                unfold dtdV at EG
                refine g_want rfl rfl rfl EG ?_
                exact does_value (w' := W) (v := .slice AA1 nn1 cc1) (by go_simp) ⟨(), .inr rfl, hS⟩
              · have EG := hval 7 _ 90 rfl rfl (dep_of hdep 7 (by rfl))
                have E12 : a.tmps[12]? = some (.pointer (some ⟨p2, 0, none⟩)) := (same_of hsame 12 (by rfl)).trans rfl
                unfold dtdV at EG
                refine g_want rfl rfl rfl EG ?_
                exact does_load_dot _ rfl p2 (by rw [eval_getD, E12]; rfl) (HDN.out.keep hS) ⟨(), .inr rfl, hS⟩
              · have EG := hval 7 _ 90 rfl rfl (dep_of hdep 7 (by rfl))
                have E91 := hval 8 _ 91 rfl rfl (dep_of hdep 8 (by rfl))
                have E92 := hval 9 _ 92 rfl rfl (dep_of hdep 9 (by rfl))
                unfold dtdV at EG E91 E92
                refine g_want rfl rfl rfl EG ?_
                refine does_call 21 #[.slice AA1 nn1 cc1, .agg #[.int .i64 q, .int .i64 k]] (by go_simp) ((K2.out W hS).mono ?_)
                rintro e w' ⟨rfl, hb⟩
                exact ⟨.bool true, rfl, (), .inr rfl, hS.trans (hb.mono hS.size)⟩
              · have E90 := hval 7 _ 90 rfl rfl (dep_of hdep 7 (by rfl))
                have E93 := hval 10 _ 93 rfl rfl (dep_of hdep 10 (by rfl))
                unfold dtdV at E90 E93
                refine g_plain rfl ?_
                exact does_value (w' := W) (v := .bool true) (by go_simp) ⟨(), .inr rfl, hS⟩
              · have E94 := hval 11 _ 94 rfl rfl (dep_of hdep 11 (by rfl))
                unfold dtdV at E94
                refine g_plain rfl ?_
                exact does_value (w' := W) (v := .bool true) (by go_simp) ⟨(), .inr rfl, hS⟩
              · have EG := hval 12 _ 95 rfl rfl (dep_of hdep 12 (by rfl))
                have E0 : a.tmps[0]? = some (.slice A0 n0 c0) := (same_of hsame 0 (by rfl)).trans rfl
                unfold dtdV at EG
                refine g_want rfl rfl rfl EG ?_
                exact does_value (w' := W) (v := .slice A0 n0 c0) (by go_simp) ⟨(), .inr rfl, hS⟩
              · have EG := hval 12 _ 95 rfl rfl (dep_of hdep 12 (by rfl))
                have E13 : a.tmps[13]? = some (.slice AA1 nn1 cc1) := (same_of hsame 13 (by rfl)).trans rfl
                unfold dtdV at EG
                refine g_want rfl rfl rfl EG ?_
                exact does_value (w' := W) (v := .slice AA1 nn1 cc1) (by go_simp) ⟨(), .inr rfl, hS⟩
              · have EG := hval 12 _ 95 rfl rfl (dep_of hdep 12 (by rfl))
                have E96 := hval 13 _ 96 rfl rfl (dep_of hdep 13 (by rfl))
                have E97 := hval 14 _ 97 rfl rfl (dep_of hdep 14 (by rfl))
                unfold dtdV at EG E96 E97
                refine g_want rfl rfl rfl EG ?_
                refine does_call 23 #[.slice A0 n0 c0, .slice AA1 nn1 cc1] (by go_simp) ((K3.out W hS).mono ?_)
                rintro e w' ⟨rfl, hb⟩
                exact ⟨.bool true, rfl, (), .inr rfl, hS.trans (hb.mono hS.size)⟩
              · have E95 := hval 12 _ 95 rfl rfl (dep_of hdep 12 (by rfl))
                have E98 := hval 15 _ 98 rfl rfl (dep_of hdep 15 (by rfl))
                unfold dtdV at E95 E98
                refine g_plain rfl ?_
                exact does_value (w' := W) (v := .bool true) (by go_simp) ⟨(), .inr rfl, hS⟩
              · have E99 := hval 16 _ 99 rfl rfl (dep_of hdep 16 (by rfl))
                unfold dtdV at E99
                refine g_plain rfl ?_
                exact does_value (w' := W) (v := .bool true) (by go_simp) ⟨(), .inr rfl, hS⟩
              · have EG := hval 17 _ 100 rfl rfl (dep_of hdep 17 (by rfl))
                have E13 : a.tmps[13]? = some (.slice AA1 nn1 cc1) := (same_of hsame 13 (by rfl)).trans rfl
                unfold dtdV at EG
                refine g_want rfl rfl rfl EG ?_
                exact does_value (w' := W) (v := .slice AA1 nn1 cc1) (by go_simp) ⟨(), .inr rfl, hS⟩
              · have EG := hval 17 _ 100 rfl rfl (dep_of hdep 17 (by rfl))
                have E0 : a.tmps[0]? = some (.slice A0 n0 c0) := (same_of hsame 0 (by rfl)).trans rfl
                unfold dtdV at EG
                refine g_want rfl rfl rfl EG ?_
                exact does_value (w' := W) (v := .slice A0 n0 c0) (by go_simp) ⟨(), .inr rfl, hS⟩
              · have EG := hval 17 _ 100 rfl rfl (dep_of hdep 17 (by rfl))
                have E101 := hval 18 _ 101 rfl rfl (dep_of hdep 18 (by rfl))
                have E102 := hval 19 _ 102 rfl rfl (dep_of hdep 19 (by rfl))
                unfold dtdV at EG E101 E102
                refine g_want rfl rfl rfl EG ?_
                refine does_call 23 #[.slice AA1 nn1 cc1, .slice A0 n0 c0] (by go_simp) ((K4.out W hS).mono ?_)
                rintro e w' ⟨rfl, hb⟩
                exact ⟨.bool false, rfl, (), .inr rfl, hS.trans (hb.mono hS.size)⟩
              · have EG := hval 17 _ 100 rfl rfl (dep_of hdep 17 (by rfl))
                have E103 := hval 20 _ 103 rfl rfl (dep_of hdep 20 (by rfl))
                unfold dtdV at EG E103
                refine g_want rfl rfl rfl EG ?_
                exact does_value (w' := W) (v := .bool true) (by go_simp) ⟨(), .inr rfl, hS⟩
              · have E100 := hval 17 _ 100 rfl rfl (dep_of hdep 17 (by rfl))
                have E104 := hval 21 _ 104 rfl rfl (dep_of hdep 21 (by rfl))
                unfold dtdV at E100 E104
                refine g_plain rfl ?_
                exact does_value (w' := W) (v := .bool true) (by go_simp) ⟨(), .inr rfl, hS⟩
              · have E105 := hval 22 _ 105 rfl rfl (dep_of hdep 22 (by rfl))
                unfold dtdV at E105
                refine g_plain rfl ?_
                exact does_value (w' := W) (v := .bool true) (by go_simp) ⟨(), .inr rfl, hS⟩
              · have EG := hval 23 _ 106 rfl rfl (dep_of hdep 23 (by rfl))
                have E13 : a.tmps[13]? = some (.slice AA1 nn1 cc1) := (same_of hsame 13 (by rfl)).trans rfl
                unfold dtdV at EG
                refine g_want rfl rfl rfl EG ?_
                exact does_value (w' := W) (v := .slice AA1 nn1 cc1) (by go_simp) ⟨(), .inr rfl, hS⟩
              · have EG := hval 23 _ 106 rfl rfl (dep_of hdep 23 (by rfl))
                have E6 : a.tmps[6]? = some (.pointer (some ⟨p0, 0, none⟩)) := (same_of hsame 6 (by rfl)).trans rfl
                unfold dtdV at EG
                refine g_want rfl rfl rfl EG ?_
                exact does_load_dot _ rfl p0 (by rw [eval_getD, E6]; rfl) (HD0.out.keep hS) ⟨(), .inr rfl, hS⟩
              · have EG := hval 23 _ 106 rfl rfl (dep_of hdep 23 (by rfl))
                have E107 := hval 24 _ 107 rfl rfl (dep_of hdep 24 (by rfl))
                have E108 := hval 25 _ 108 rfl rfl (dep_of hdep 25 (by rfl))
                unfold dtdV at EG E107 E108
                refine g_want rfl rfl rfl EG ?_
                refine does_call 21 #[.slice AA1 nn1 cc1, .agg #[.int .i64 R0, .int .i64 N0]] (by go_simp) ((K5.out W hS).mono ?_)
                rintro e w' ⟨rfl, hb⟩
                exact ⟨.bool true, rfl, (), .inr rfl, hS.trans (hb.mono hS.size)⟩
              · have EG := hval 23 _ 106 rfl rfl (dep_of hdep 23 (by rfl))
                have E10 : a.tmps[10]? = some (.bool false) := (same_of hsame 10 (by rfl)).trans rfl
                unfold dtdV at EG
                refine g_want rfl rfl rfl EG ?_
                exact does_value (w' := W) (v := .bool false) (by go_simp) ⟨(), .inr rfl, hS⟩
              · have EG := hval 23 _ 106 rfl rfl (dep_of hdep 23 (by rfl))
                have E110 := hval 27 _ 110 rfl rfl (dep_of hdep 27 (by rfl))
                unfold dtdV at EG E110
                refine g_want rfl rfl rfl EG ?_
                exact does_value (w' := W) (v := .bool false) (by go_simp) ⟨(), .inr rfl, hS⟩
              · have EG := hval 28 _ 111 rfl rfl (dep_of hdep 28 (by rfl))
                have E6 : a.tmps[6]? = some (.pointer (some ⟨p0, 0, none⟩)) := (same_of hsame 6 (by rfl)).trans rfl
                unfold dtdV at EG
                refine g_want rfl rfl rfl EG ?_
                exact does_load_dot _ rfl p0 (by rw [eval_getD, E6]; rfl) (HD0.out.keep hS) ⟨(), .inr rfl, hS⟩
              · have EG := hval 28 _ 111 rfl rfl (dep_of hdep 28 (by rfl))
                have E12 : a.tmps[12]? = some (.pointer (some ⟨p2, 0, none⟩)) := (same_of hsame 12 (by rfl)).trans rfl
                unfold dtdV at EG
                refine g_want rfl rfl rfl EG ?_
                exact does_load_dot _ rfl p2 (by rw [eval_getD, E12]; rfl) (HDN.out.keep hS) ⟨(), .inr rfl, hS⟩
              · have EG := hval 28 _ 111 rfl rfl (dep_of hdep 28 (by rfl))
                have E112 := hval 29 _ 112 rfl rfl (dep_of hdep 29 (by rfl))
                have E113 := hval 30 _ 113 rfl rfl (dep_of hdep 30 (by rfl))
                unfold dtdV at EG E112 E113
                refine g_want rfl rfl rfl EG ?_
                exact does_value (w' := W) (v := .bool true) (by go_simp; rw [if_pos HE.out.1, if_pos HE.out.2]) ⟨(), .inr rfl, hS⟩
              · have EG := hval 23 _ 106 rfl rfl (dep_of hdep 23 (by rfl))
                have E111 := hval 28 _ 111 rfl rfl (dep_of hdep 28 (by rfl))
                have E114 := hval 31 _ 114 rfl rfl (dep_of hdep 31 (by rfl))
                unfold dtdV at EG E111 E114
                refine g_want rfl rfl rfl EG ?_
                exact does_value (w' := W) (v := .bool true) (by go_simp) ⟨(), .inr rfl, hS⟩
              · have EG := hval 23 _ 106 rfl rfl (dep_of hdep 23 (by rfl))
                have E109 := hval 26 _ 109 rfl rfl (dep_of hdep 26 (by rfl))
                have E115 := hval 32 _ 115 rfl rfl (dep_of hdep 32 (by rfl))
                unfold dtdV at EG E109 E115
                refine g_want rfl rfl rfl EG ?_
                exact does_value (w' := W) (v := .bool true) (by go_simp) ⟨(), .inr rfl, hS⟩
              · have E106 := hval 23 _ 106 rfl rfl (dep_of hdep 23 (by rfl))
                have E116 := hval 33 _ 116 rfl rfl (dep_of hdep 33 (by rfl))
                unfold dtdV at E106 E116
                refine g_plain rfl ?_
                exact does_value (w' := W) (v := .bool true) (by go_simp) ⟨(), .inr rfl, hS⟩
              · have E117 := hval 34 _ 117 rfl rfl (dep_of hdep 34 (by rfl))
                unfold dtdV at E117
                refine g_plain rfl ?_
                exact does_value (w' := W) (v := .bool true) (by go_simp) ⟨(), .inr rfl, hS⟩
              · have EG := hval 35 _ 118 rfl rfl (dep_of hdep 35 (by rfl))
                have E12 : a.tmps[12]? = some (.pointer (some ⟨p2, 0, none⟩)) := (same_of hsame 12 (by rfl)).trans rfl
                unfold dtdV at EG
                refine g_want rfl rfl rfl EG ?_
                exact does_value (w' := W) (v := .pointer (some ⟨p2, 0, none⟩)) (by go_simp) ⟨(), .inr rfl, hS⟩
              · have EG := hval 35 _ 118 rfl rfl (dep_of hdep 35 (by rfl))
                have E119 := hval 36 _ 119 rfl rfl (dep_of hdep 36 (by rfl))
                unfold dtdV at EG E119
                have kp2 := HDN.out.keep hS
                have c0' := kp2.cell 0 rfl
                have c1' := kp2.cell 1 rfl
                refine g_want rfl rfl rfl EG ?_
                exact does_value (w' := W) (v := .int .i64 q) (by go_simp) ⟨(), .inr rfl, hS⟩
              · have EG := hval 35 _ 118 rfl rfl (dep_of hdep 35 (by rfl))
                have E3 : a.tmps[3]? = some (.int .i64 q) := (same_of hsame 3 (by rfl)).trans rfl
                unfold dtdV at EG
                refine g_want rfl rfl rfl EG ?_
                exact does_value (w' := W) (v := .int .i64 q) (by go_simp) ⟨(), .inr rfl, hS⟩
              · have EG := hval 35 _ 118 rfl rfl (dep_of hdep 35 (by rfl))
                have E120 := hval 37 _ 120 rfl rfl (dep_of hdep 37 (by rfl))
                have E121 := hval 38 _ 121 rfl rfl (dep_of hdep 38 (by rfl))
                unfold dtdV at EG E120 E121
                refine g_want rfl rfl rfl EG ?_
                exact does_value (w' := W) (v := .bool true) (by go_simp) ⟨(), .inr rfl, hS⟩
              · have E118 := hval 35 _ 118 rfl rfl (dep_of hdep 35 (by rfl))
                have E122 := hval 39 _ 122 rfl rfl (dep_of hdep 39 (by rfl))
                unfold dtdV at E118 E122
                refine g_plain rfl ?_
                exact does_value (w' := W) (v := .bool true) (by go_simp) ⟨(), .inr rfl, hS⟩
              · have E123 := hval 40 _ 123 rfl rfl (dep_of hdep 40 (by rfl))
                unfold dtdV at E123
                refine g_plain rfl ?_
                exact does_value (w' := W) (v := .bool true) (by go_simp) ⟨(), .inr rfl, hS⟩
              · have EG := hval 41 _ 124 rfl rfl (dep_of hdep 41 (by rfl))
                have E12 : a.tmps[12]? = some (.pointer (some ⟨p2, 0, none⟩)) := (same_of hsame 12 (by rfl)).trans rfl
                unfold dtdV at EG
                refine g_want rfl rfl rfl EG ?_
                exact does_value (w' := W) (v := .pointer (some ⟨p2, 1, none⟩)) (by go_simp) ⟨(), .inr rfl, hS⟩
              · have EG := hval 41 _ 124 rfl rfl (dep_of hdep 41 (by rfl))
                have E125 := hval 42 _ 125 rfl rfl (dep_of hdep 42 (by rfl))
                unfold dtdV at EG E125
                have kp2 := HDN.out.keep hS
                have c0' := kp2.cell 0 rfl
                have c1' := kp2.cell 1 rfl
                refine g_want rfl rfl rfl EG ?_
                exact does_value (w' := W) (v := .int .i64 k) (by go_simp) ⟨(), .inr rfl, hS⟩
              · have EG := hval 41 _ 124 rfl rfl (dep_of hdep 41 (by rfl))
                have E0 : a.tmps[0]? = some (.slice A0 n0 c0) := (same_of hsame 0 (by rfl)).trans rfl
                unfold dtdV at EG
                refine g_want rfl rfl rfl EG ?_
                exact does_value (w' := W) (v := .slice A0 n0 c0) (by go_simp) ⟨(), .inr rfl, hS⟩
              · have EG := hval 41 _ 124 rfl rfl (dep_of hdep 41 (by rfl))
                have E3 : a.tmps[3]? = some (.int .i64 q) := (same_of hsame 3 (by rfl)).trans rfl
                unfold dtdV at EG
                refine g_want rfl rfl rfl EG ?_
                exact does_value (w' := W) (v := .int .i64 q) (by go_simp) ⟨(), .inr rfl, hS⟩
              · have EG := hval 41 _ 124 rfl rfl (dep_of hdep 41 (by rfl))
                have E127 := hval 44 _ 127 rfl rfl (dep_of hdep 44 (by rfl))
                have E128 := hval 45 _ 128 rfl rfl (dep_of hdep 45 (by rfl))
                unfold dtdV at EG E127 E128
                refine g_want rfl rfl rfl EG ?_
                refine does_call 19 #[.slice A0 n0 c0, .int .i64 q] (by go_simp) ((K6.out W hS).mono ?_)
                rintro e w' ⟨rfl, rfl⟩
                exact ⟨.int .i64 x, rfl, (), .inr rfl, hS⟩
              · have EG := hval 41 _ 124 rfl rfl (dep_of hdep 41 (by rfl))
                have E129 := hval 46 _ 129 rfl rfl (dep_of hdep 46 (by rfl))
                unfold dtdV at EG E129
                refine g_want rfl rfl rfl EG ?_
                exact does_value (w' := W) (v := .int .i64 k) (by go_simp) ⟨(), .inr rfl, hS⟩
              · have EG := hval 41 _ 124 rfl rfl (dep_of hdep 41 (by rfl))
                have E126 := hval 43 _ 126 rfl rfl (dep_of hdep 43 (by rfl))
                have E130 := hval 47 _ 130 rfl rfl (dep_of hdep 47 (by rfl))
                unfold dtdV at EG E126 E130
                refine g_want rfl rfl rfl EG ?_
                exact does_value (w' := W) (v := .bool true) (by go_simp) ⟨(), .inr rfl, hS⟩
              · have E124 := hval 41 _ 124 rfl rfl (dep_of hdep 41 (by rfl))
                have E131 := hval 48 _ 131 rfl rfl (dep_of hdep 48 (by rfl))
                unfold dtdV at E124 E131
                refine g_plain rfl ?_
                exact does_value (w' := W) (v := .bool true) (by go_simp) ⟨(), .inr rfl, hS⟩
              · have E132 := hval 49 _ 132 rfl rfl (dep_of hdep 49 (by rfl))
                unfold dtdV at E132
                refine g_plain rfl ?_
                exact does_value (w' := W) (v := .bool true) (by go_simp) ⟨(), .inr rfl, hS⟩
            · intro gh W8 hb
              replace HU := hid (HU.out.keep hb)
              replace HV := hid (HV.out.keep hb)
              replace HD0 := hid (HD0.out.keep hb)
              replace HDN := hid (HDN.out.keep hb)
              replace F1 := hid (F1.out.keep hb)
              replace HB := hid (HB.out.trans (hb.mono HB.out.size))
              clear hb
              simp only [putAll, dtdV, Nat.reduceAdd, Nat.zero_add, Act.put, List.setIfInBounds_toArray, List.set_cons_zero, List.set_cons_succ]
              go_wp2_with fail
              go_ret
              exact ⟨rfl, HB.out⟩
          · have HNE := hid (show R0 = q → ¬ N0 = k from fun e1 e2 => he ⟨e1, e2⟩)
            clear he
            have T7 := hid (show hasV (withV u q k) R0 N0 = false from by rw [T4.out]; simp; exact HNE.out)
            have K5 := hid (fun (W : World) (hb : Below W7.heap.size W7 W) => vHas_calls nn1 cc1 AA1 (withV u q k) R0 N0 W (F1.out.keep hb) (by omega))
            simp only [T7.out] at K5
            go_wp2_with fail
            refine wp_region_invG 133 () (dteV A0 n0 c0 q k AA1 nn1 cc1 R0 N0 p2 x) (fun _ _ W => Below W7.heap.size W7 W) (by kernel_rfl) (by kernel_rfl) (by exact Nat.le_refl 133) ?_ ?_ ?_
            · exact (Below.refl _ _).drew
            · intro i o f gh a W hi hf hdep hsame hcl hval hS
              rcases i with _ | _ | _ | _ | _ | _ | _ | _ | _ | _ | _ | _ | _ | _ | _ | _ | _ | _ | _ | _ | _ | _ | _ | _ | _ | _ | _ | _ | _ | _ | _ | _ | _ | _ | _ | _ | _ | _ | _ | _ | _ | _ | _ | _ | _ | _ | _ | _ | _ | _ | _ | i
              all_goals simp only [List.getElem?_cons_succ, List.getElem?_cons_zero, List.getElem?_nil, Option.some.injEq, reduceCtorEq] at hi
              all_goals subst hi
              · have E9 : a.tmps[9]? = some (.bool true) := (same_of hsame 9 (by rfl)).trans rfl
                refine g_plain rfl ?_
                exact does_value (w' := W) (v := .bool true) (by go_simp) ⟨(), .inr rfl, hS⟩
              · have E83 := hval 0 _ 83 rfl rfl (dep_of hdep 0 (by rfl))
                unfold dteV at E83
                refine g_plain rfl ?_
                exact does_value (w' := W) (v := .bool true) (by go_simp) ⟨(), .inr rfl, hS⟩
              · have EG := hval 1 _ 84 rfl rfl (dep_of hdep 1 (by rfl))
                have E0 : a.tmps[0]? = some (.slice A0 n0 c0) := (same_of hsame 0 (by rfl)).trans rfl
                unfold dteV at EG
                refine g_want rfl rfl rfl EG ?_
                exact does_value (w' := W) (v := .slice A0 n0 c0) (by go_simp) ⟨(), .inr rfl, hS⟩
              · have EG := hval 1 _ 84 rfl rfl (dep_of hdep 1 (by rfl))
                have E12 : a.tmps[12]? = some (.pointer (some ⟨p2, 0, none⟩)) := (same_of hsame 12 (by rfl)).trans rfl
                unfold dteV at EG
                refine g_want rfl rfl rfl EG ?_
                exact does_load_dot _ rfl p2 (by rw [eval_getD, E12]; rfl) (HDN.out.keep hS) ⟨(), .inr rfl, hS⟩
              · have EG := hval 1 _ 84 rfl rfl (dep_of hdep 1 (by rfl))
                have E85 := hval 2 _ 85 rfl rfl (dep_of hdep 2 (by rfl))
                have E86 := hval 3 _ 86 rfl rfl (dep_of hdep 3 (by rfl))
                unfold dteV at EG E85 E86
                refine g_want rfl rfl rfl EG ?_
                refine does_call 21 #[.slice A0 n0 c0, .agg #[.int .i64 q, .int .i64 k]] (by go_simp) ((K1.out W hS).mono ?_)
                rintro e w' ⟨rfl, hb⟩
                exact ⟨.bool false, rfl, (), .inr rfl, hS.trans (hb.mono hS.size)⟩
              · have EG := hval 1 _ 84 rfl rfl (dep_of hdep 1 (by rfl))
                have E87 := hval 4 _ 87 rfl rfl (dep_of hdep 4 (by rfl))
                unfold dteV at EG E87
                refine g_want rfl rfl rfl EG ?_
                exact does_value (w' := W) (v := .bool true) (by go_simp) ⟨(), .inr rfl, hS⟩
              · have E84 := hval 1 _ 84 rfl rfl (dep_of hdep 1 (by rfl))
                have E88 := hval 5 _ 88 rfl rfl (dep_of hdep 5 (by rfl))
                unfold dteV at E84 E88
                refine g_plain rfl ?_
                exact does_value (w' := W) (v := .bool true) (by go_simp) ⟨(), .inr rfl, hS⟩
              · have E89 := hval 6 _ 89 rfl rfl (dep_of hdep 6 (by rfl))
                unfold dteV at E89
                refine g_plain rfl ?_
                exact does_value (w' := W) (v := .bool true) (by go_simp) ⟨(), .inr rfl, hS⟩
              · have EG := hval 7 _ 90 rfl rfl (dep_of hdep 7 (by rfl))
                have E13 : a.tmps[13]? = some (.slice AA1 nn1 cc1) := (same_of hsame 13 (by rfl)).trans rfl
                unfold dteV at EG
                refine g_want rfl rfl rfl EG ?_
                exact does_value (w' := W) (v := .slice AA1 nn1 cc1) (by go_simp) ⟨(), .inr rfl, hS⟩
              · have EG := hval 7 _ 90 rfl rfl (dep_of hdep 7 (by rfl))
                have E12 : a.tmps[12]? = some (.pointer (some ⟨p2, 0, none⟩)) := (same_of hsame 12 (by rfl)).trans rfl
                unfold dteV at EG
                refine g_want rfl rfl rfl EG ?_
                exact does_load_dot _ rfl p2 (by rw [eval_getD, E12]; rfl) (HDN.out.keep hS) ⟨(), .inr rfl, hS⟩
              · have EG := hval 7 _ 90 rfl rfl (dep_of hdep 7 (by rfl))
                have E91 := hval 8 _ 91 rfl rfl (dep_of hdep 8 (by rfl))
                have E92 := hval 9 _ 92 rfl rfl (dep_of hdep 9 (by rfl))
                unfold dteV at EG E91 E92
                refine g_want rfl rfl rfl EG ?_
                refine does_call 21 #[.slice AA1 nn1 cc1, .agg #[.int .i64 q, .int .i64 k]] (by go_simp) ((K2.out W hS).mono ?_)
                rintro e w' ⟨rfl, hb⟩
                exact ⟨.bool true, rfl, (), .inr rfl, hS.trans (hb.mono hS.size)⟩
              · have E90 := hval 7 _ 90 rfl rfl (dep_of hdep 7 (by rfl))
                have E93 := hval 10 _ 93 rfl rfl (dep_of hdep 10 (by rfl))
                unfold dteV at E90 E93
                refine g_plain rfl ?_
                exact does_value (w' := W) (v := .bool true) (by go_simp) ⟨(), .inr rfl, hS⟩
              · have E94 := hval 11 _ 94 rfl rfl (dep_of hdep 11 (by rfl))
                unfold dteV at E94
                refine g_plain rfl ?_
                exact does_value (w' := W) (v := .bool true) (by go_simp) ⟨(), .inr rfl, hS⟩
              · have EG := hval 12 _ 95 rfl rfl (dep_of hdep 12 (by rfl))
                have E0 : a.tmps[0]? = some (.slice A0 n0 c0) := (same_of hsame 0 (by rfl)).trans rfl
                unfold dteV at EG
                refine g_want rfl rfl rfl EG ?_
                exact does_value (w' := W) (v := .slice A0 n0 c0) (by go_simp) ⟨(), .inr rfl, hS⟩
              · have EG := hval 12 _ 95 rfl rfl (dep_of hdep 12 (by rfl))
                have E13 : a.tmps[13]? = some (.slice AA1 nn1 cc1) := (same_of hsame 13 (by rfl)).trans rfl
                unfold dteV at EG
                refine g_want rfl rfl rfl EG ?_
                exact does_value (w' := W) (v := .slice AA1 nn1 cc1) (by go_simp) ⟨(), .inr rfl, hS⟩
              · have EG := hval 12 _ 95 rfl rfl (dep_of hdep 12 (by rfl))
                have E96 := hval 13 _ 96 rfl rfl (dep_of hdep 13 (by rfl))
                have E97 := hval 14 _ 97 rfl rfl (dep_of hdep 14 (by rfl))
                unfold dteV at EG E96 E97
                refine g_want rfl rfl rfl EG ?_
                refine does_call 23 #[.slice A0 n0 c0, .slice AA1 nn1 cc1] (by go_simp) ((K3.out W hS).mono ?_)
                rintro e w' ⟨rfl, hb⟩
                exact ⟨.bool true, rfl, (), .inr rfl, hS.trans (hb.mono hS.size)⟩
              · have E95 := hval 12 _ 95 rfl rfl (dep_of hdep 12 (by rfl))
                have E98 := hval 15 _ 98 rfl rfl (dep_of hdep 15 (by rfl))
                unfold dteV at E95 E98
                refine g_plain rfl ?_
                exact does_value (w' := W) (v := .bool true) (by go_simp) ⟨(), .inr rfl, hS⟩
              · have E99 := hval 16 _ 99 rfl rfl (dep_of hdep 16 (by rfl))
                unfold dteV at E99
                refine g_plain rfl ?_
                exact does_value (w' := W) (v := .bool true) (by go_simp) ⟨(), .inr rfl, hS⟩
              · have EG := hval 17 _ 100 rfl rfl (dep_of hdep 17 (by rfl))
                have E13 : a.tmps[13]? = some (.slice AA1 nn1 cc1) := (same_of hsame 13 (by rfl)).trans rfl
                unfold dteV at EG
                refine g_want rfl rfl rfl EG ?_
                exact does_value (w' := W) (v := .slice AA1 nn1 cc1) (by go_simp) ⟨(), .inr rfl, hS⟩
              · have EG := hval 17 _ 100 rfl rfl (dep_of hdep 17 (by rfl))
                have E0 : a.tmps[0]? = some (.slice A0 n0 c0) := (same_of hsame 0 (by rfl)).trans rfl
                unfold dteV at EG
                refine g_want rfl rfl rfl EG ?_
                exact does_value (w' := W) (v := .slice A0 n0 c0) (by go_simp) ⟨(), .inr rfl, hS⟩
              · have EG := hval 17 _ 100 rfl rfl (dep_of hdep 17 (by rfl))
                have E101 := hval 18 _ 101 rfl rfl (dep_of hdep 18 (by rfl))
                have E102 := hval 19 _ 102 rfl rfl (dep_of hdep 19 (by rfl))
                unfold dteV at EG E101 E102
                refine g_want rfl rfl rfl EG ?_
                refine does_call 23 #[.slice AA1 nn1 cc1, .slice A0 n0 c0] (by go_simp) ((K4.out W hS).mono ?_)
                rintro e w' ⟨rfl, hb⟩
                exact ⟨.bool false, rfl, (), .inr rfl, hS.trans (hb.mono hS.size)⟩
              · have EG := hval 17 _ 100 rfl rfl (dep_of hdep 17 (by rfl))
                have E103 := hval 20 _ 103 rfl rfl (dep_of hdep 20 (by rfl))
                unfold dteV at EG E103
                refine g_want rfl rfl rfl EG ?_
                exact does_value (w' := W) (v := .bool true) (by go_simp) ⟨(), .inr rfl, hS⟩
              · have E100 := hval 17 _ 100 rfl rfl (dep_of hdep 17 (by rfl))
                have E104 := hval 21 _ 104 rfl rfl (dep_of hdep 21 (by rfl))
                unfold dteV at E100 E104
                refine g_plain rfl ?_
                exact does_value (w' := W) (v := .bool true) (by go_simp) ⟨(), .inr rfl, hS⟩
              · have E105 := hval 22 _ 105 rfl rfl (dep_of hdep 22 (by rfl))
                unfold dteV at E105
                refine g_plain rfl ?_
                exact does_value (w' := W) (v := .bool true) (by go_simp) ⟨(), .inr rfl, hS⟩
              · have EG := hval 23 _ 106 rfl rfl (dep_of hdep 23 (by rfl))
                have E13 : a.tmps[13]? = some (.slice AA1 nn1 cc1) := (same_of hsame 13 (by rfl)).trans rfl
                unfold dteV at EG
                refine g_want rfl rfl rfl EG ?_
                exact does_value (w' := W) (v := .slice AA1 nn1 cc1) (by go_simp) ⟨(), .inr rfl, hS⟩
              · have EG := hval 23 _ 106 rfl rfl (dep_of hdep 23 (by rfl))
                have E6 : a.tmps[6]? = some (.pointer (some ⟨p0, 0, none⟩)) := (same_of hsame 6 (by rfl)).trans rfl
                unfold dteV at EG
                refine g_want rfl rfl rfl EG ?_
                exact does_load_dot _ rfl p0 (by rw [eval_getD, E6]; rfl) (HD0.out.keep hS) ⟨(), .inr rfl, hS⟩
              · have EG := hval 23 _ 106 rfl rfl (dep_of hdep 23 (by rfl))
                have E107 := hval 24 _ 107 rfl rfl (dep_of hdep 24 (by rfl))
                have E108 := hval 25 _ 108 rfl rfl (dep_of hdep 25 (by rfl))
                unfold dteV at EG E107 E108
                refine g_want rfl rfl rfl EG ?_
                refine does_call 21 #[.slice AA1 nn1 cc1, .agg #[.int .i64 R0, .int .i64 N0]] (by go_simp) ((K5.out W hS).mono ?_)
                rintro e w' ⟨rfl, hb⟩
                exact ⟨.bool false, rfl, (), .inr rfl, hS.trans (hb.mono hS.size)⟩
              · have EG := hval 23 _ 106 rfl rfl (dep_of hdep 23 (by rfl))
                have E10 : a.tmps[10]? = some (.bool false) := (same_of hsame 10 (by rfl)).trans rfl
                unfold dteV at EG
                refine g_want rfl rfl rfl EG ?_
                exact does_value (w' := W) (v := .bool false) (by go_simp) ⟨(), .inr rfl, hS⟩
              · have EG := hval 23 _ 106 rfl rfl (dep_of hdep 23 (by rfl))
                have E110 := hval 27 _ 110 rfl rfl (dep_of hdep 27 (by rfl))
                unfold dteV at EG E110
                refine g_want rfl rfl rfl EG ?_
                exact does_value (w' := W) (v := .bool false) (by go_simp) ⟨(), .inr rfl, hS⟩
              · have EG := hval 28 _ 111 rfl rfl (dep_of hdep 28 (by rfl))
                have E6 : a.tmps[6]? = some (.pointer (some ⟨p0, 0, none⟩)) := (same_of hsame 6 (by rfl)).trans rfl
                unfold dteV at EG
                refine g_want rfl rfl rfl EG ?_
                exact does_load_dot _ rfl p0 (by rw [eval_getD, E6]; rfl) (HD0.out.keep hS) ⟨(), .inr rfl, hS⟩
              · have EG := hval 28 _ 111 rfl rfl (dep_of hdep 28 (by rfl))
                have E12 : a.tmps[12]? = some (.pointer (some ⟨p2, 0, none⟩)) := (same_of hsame 12 (by rfl)).trans rfl
                unfold dteV at EG
                refine g_want rfl rfl rfl EG ?_
                exact does_load_dot _ rfl p2 (by rw [eval_getD, E12]; rfl) (HDN.out.keep hS) ⟨(), .inr rfl, hS⟩
              · have EG := hval 28 _ 111 rfl rfl (dep_of hdep 28 (by rfl))
                have E112 := hval 29 _ 112 rfl rfl (dep_of hdep 29 (by rfl))
                have E113 := hval 30 _ 113 rfl rfl (dep_of hdep 30 (by rfl))
                unfold dteV at EG E112 E113
                refine g_want rfl rfl rfl EG ?_
                exact does_value (w' := W) (v := .bool false) (by go_simp; exact HNE.out) ⟨(), .inr rfl, hS⟩
              · have EG := hval 23 _ 106 rfl rfl (dep_of hdep 23 (by rfl))
                have E111 := hval 28 _ 111 rfl rfl (dep_of hdep 28 (by rfl))
                have E114 := hval 31 _ 114 rfl rfl (dep_of hdep 31 (by rfl))
                unfold dteV at EG E111 E114
                refine g_want rfl rfl rfl EG ?_
                exact does_value (w' := W) (v := .bool false) (by go_simp) ⟨(), .inr rfl, hS⟩
              · have EG := hval 23 _ 106 rfl rfl (dep_of hdep 23 (by rfl))
                have E109 := hval 26 _ 109 rfl rfl (dep_of hdep 26 (by rfl))
                have E115 := hval 32 _ 115 rfl rfl (dep_of hdep 32 (by rfl))
                unfold dteV at EG E109 E115
                refine g_want rfl rfl rfl EG ?_
                exact does_value (w' := W) (v := .bool true) (by go_simp) ⟨(), .inr rfl, hS⟩
              · have E106 := hval 23 _ 106 rfl rfl (dep_of hdep 23 (by rfl))
                have E116 := hval 33 _ 116 rfl rfl (dep_of hdep 33 (by rfl))
                unfold dteV at E106 E116
                refine g_plain rfl ?_
                exact does_value (w' := W) (v := .bool true) (by go_simp) ⟨(), .inr rfl, hS⟩
              · have E117 := hval 34 _ 117 rfl rfl (dep_of hdep 34 (by rfl))
                unfold dteV at E117
                refine g_plain rfl ?_
                exact does_value (w' := W) (v := .bool true) (by go_simp) ⟨(), .inr rfl, hS⟩
              · have EG := hval 35 _ 118 rfl rfl (dep_of hdep 35 (by rfl))
                have E12 : a.tmps[12]? = some (.pointer (some ⟨p2, 0, none⟩)) := (same_of hsame 12 (by rfl)).trans rfl
                unfold dteV at EG
                refine g_want rfl rfl rfl EG ?_
                exact does_value (w' := W) (v := .pointer (some ⟨p2, 0, none⟩)) (by go_simp) ⟨(), .inr rfl, hS⟩
              · have EG := hval 35 _ 118 rfl rfl (dep_of hdep 35 (by rfl))
                have E119 := hval 36 _ 119 rfl rfl (dep_of hdep 36 (by rfl))
                unfold dteV at EG E119
                have kp2 := HDN.out.keep hS
                have c0' := kp2.cell 0 rfl
                have c1' := kp2.cell 1 rfl
                refine g_want rfl rfl rfl EG ?_
                exact does_value (w' := W) (v := .int .i64 q) (by go_simp) ⟨(), .inr rfl, hS⟩
              · have EG := hval 35 _ 118 rfl rfl (dep_of hdep 35 (by rfl))
                have E3 : a.tmps[3]? = some (.int .i64 q) := (same_of hsame 3 (by rfl)).trans rfl
                unfold dteV at EG
                refine g_want rfl rfl rfl EG ?_
                exact does_value (w' := W) (v := .int .i64 q) (by go_simp) ⟨(), .inr rfl, hS⟩
              · have EG := hval 35 _ 118 rfl rfl (dep_of hdep 35 (by rfl))
                have E120 := hval 37 _ 120 rfl rfl (dep_of hdep 37 (by rfl))
                have E121 := hval 38 _ 121 rfl rfl (dep_of hdep 38 (by rfl))
                unfold dteV at EG E120 E121
                refine g_want rfl rfl rfl EG ?_
                exact does_value (w' := W) (v := .bool true) (by go_simp) ⟨(), .inr rfl, hS⟩
              · have E118 := hval 35 _ 118 rfl rfl (dep_of hdep 35 (by rfl))
                have E122 := hval 39 _ 122 rfl rfl (dep_of hdep 39 (by rfl))
                unfold dteV at E118 E122
                refine g_plain rfl ?_
                exact does_value (w' := W) (v := .bool true) (by go_simp) ⟨(), .inr rfl, hS⟩
              · have E123 := hval 40 _ 123 rfl rfl (dep_of hdep 40 (by rfl))
                unfold dteV at E123
                refine g_plain rfl ?_
                exact does_value (w' := W) (v := .bool true) (by go_simp) ⟨(), .inr rfl, hS⟩
              · have EG := hval 41 _ 124 rfl rfl (dep_of hdep 41 (by rfl))
                have E12 : a.tmps[12]? = some (.pointer (some ⟨p2, 0, none⟩)) := (same_of hsame 12 (by rfl)).trans rfl
                unfold dteV at EG
                refine g_want rfl rfl rfl EG ?_
                exact does_value (w' := W) (v := .pointer (some ⟨p2, 1, none⟩)) (by go_simp) ⟨(), .inr rfl, hS⟩
              · have EG := hval 41 _ 124 rfl rfl (dep_of hdep 41 (by rfl))
                have E125 := hval 42 _ 125 rfl rfl (dep_of hdep 42 (by rfl))
                unfold dteV at EG E125
                have kp2 := HDN.out.keep hS
                have c0' := kp2.cell 0 rfl
                have c1' := kp2.cell 1 rfl
                refine g_want rfl rfl rfl EG ?_
                exact does_value (w' := W) (v := .int .i64 k) (by go_simp) ⟨(), .inr rfl, hS⟩
              · have EG := hval 41 _ 124 rfl rfl (dep_of hdep 41 (by rfl))
                have E0 : a.tmps[0]? = some (.slice A0 n0 c0) := (same_of hsame 0 (by rfl)).trans rfl
                unfold dteV at EG
                refine g_want rfl rfl rfl EG ?_
                exact does_value (w' := W) (v := .slice A0 n0 c0) (by go_simp) ⟨(), .inr rfl, hS⟩
              · have EG := hval 41 _ 124 rfl rfl (dep_of hdep 41 (by rfl))
                have E3 : a.tmps[3]? = some (.int .i64 q) := (same_of hsame 3 (by rfl)).trans rfl
                unfold dteV at EG
                refine g_want rfl rfl rfl EG ?_
                exact does_value (w' := W) (v := .int .i64 q) (by go_simp) ⟨(), .inr rfl, hS⟩
              · have EG := hval 41 _ 124 rfl rfl (dep_of hdep 41 (by rfl))
                have E127 := hval 44 _ 127 rfl rfl (dep_of hdep 44 (by rfl))
                have E128 := hval 45 _ 128 rfl rfl (dep_of hdep 45 (by rfl))
                unfold dteV at EG E127 E128
                refine g_want rfl rfl rfl EG ?_
                refine does_call 19 #[.slice A0 n0 c0, .int .i64 q] (by go_simp) ((K6.out W hS).mono ?_)
                rintro e w' ⟨rfl, rfl⟩
                exact ⟨.int .i64 x, rfl, (), .inr rfl, hS⟩
              · have EG := hval 41 _ 124 rfl rfl (dep_of hdep 41 (by rfl))
                have E129 := hval 46 _ 129 rfl rfl (dep_of hdep 46 (by rfl))
                unfold dteV at EG E129
                refine g_want rfl rfl rfl EG ?_
                exact does_value (w' := W) (v := .int .i64 k) (by go_simp) ⟨(), .inr rfl, hS⟩
              · have EG := hval 41 _ 124 rfl rfl (dep_of hdep 41 (by rfl))
                have E126 := hval 43 _ 126 rfl rfl (dep_of hdep 43 (by rfl))
                have E130 := hval 47 _ 130 rfl rfl (dep_of hdep 47 (by rfl))
                unfold dteV at EG E126 E130
                refine g_want rfl rfl rfl EG ?_
                exact does_value (w' := W) (v := .bool true) (by go_simp) ⟨(), .inr rfl, hS⟩
              · have E124 := hval 41 _ 124 rfl rfl (dep_of hdep 41 (by rfl))
                have E131 := hval 48 _ 131 rfl rfl (dep_of hdep 48 (by rfl))
                unfold dteV at E124 E131
                refine g_plain rfl ?_
                exact does_value (w' := W) (v := .bool true) (by go_simp) ⟨(), .inr rfl, hS⟩
              · have E132 := hval 49 _ 132 rfl rfl (dep_of hdep 49 (by rfl))
                unfold dteV at E132
                refine g_plain rfl ?_
                exact does_value (w' := W) (v := .bool true) (by go_simp) ⟨(), .inr rfl, hS⟩
            · intro gh W8 hb
              replace HU := hid (HU.out.keep hb)
              replace HV := hid (HV.out.keep hb)
              replace HD0 := hid (HD0.out.keep hb)
              replace HDN := hid (HDN.out.keep hb)
              replace F1 := hid (F1.out.keep hb)
              replace HB := hid (HB.out.trans (hb.mono HB.out.size))
              clear hb
              simp only [putAll, dteV, Nat.reduceAdd, Nat.zero_add, Act.put, List.setIfInBounds_toArray, List.set_cons_zero, List.set_cons_succ]
              go_wp2_with fail
              go_ret
              exact ⟨rfl, HB.out⟩
end Go.Proofs.Ytfcildpigkobcaa
