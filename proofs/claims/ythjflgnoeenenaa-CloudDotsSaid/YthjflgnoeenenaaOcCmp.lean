/- Contracts of clouds: dots compared, the lesser one, the end. Written by tools/mkoc.py. -/
import Derived.Test.YthjflgnoeenenaaVcNext
import Derived.Test.YthjflgnoeenenaaClRfG
import Derived.Test.YthjflgnoeenenaaOcMgM
import Derived.Sort.Grow
import Derived.Sort.Statements
import Derived.Deep.Draws
namespace Go.Proofs.Ythjflgnoeenenaa
open Go Go.RowKit Cl
open Go.Sort (grow grow_grow alloc_eq_grow SWO)

/-- drawn on, and grown, no more -/
def Grown (w w' : World) : Prop := ∃ q os, w' = grow (w.drewN q) os
theorem Grown.refl (w : World) : Grown w w := ⟨0, #[], by simp [grow, World.drewN]⟩
theorem Grown.drew {w w' : World} (h : Grown w w') : Grown w w'.drew := by
  obtain ⟨q, os, rfl⟩ := h
  exact ⟨q + 1, os, rfl⟩
theorem Grown.alloc {w w' : World} (h : Grown w w') (o : Obj) : Grown w (w'.alloc o) := by
  obtain ⟨q, os, rfl⟩ := h
  exact ⟨q, os ++ #[o], by rw [alloc_eq_grow, grow_grow]⟩
theorem Grown.trans {w w' w'' : World} (h : Grown w w') (k : Grown w' w'') : Grown w w'' := by
  obtain ⟨q, os, rfl⟩ := h
  obtain ⟨q', os', rfl⟩ := k
  exact ⟨q + q', os ++ os', by
    rw [← grow_grow]
    unfold grow World.drewN
    simp [Nat.add_assoc]⟩
theorem Grown.below {w w' : World} (h : Grown w w') : Below w.heap.size w w' := by
  obtain ⟨q, os, rfl⟩ := h
  refine ⟨rfl, rfl, rfl, by simp [grow, World.drewN], fun k hk => ?_⟩
  show (w.heap ++ os)[k]? = w.heap[k]?
  rw [Array.getElem?_append_left hk]
theorem run_slice2 (x y : Int) (W : World) : (Instr.buildSlice 22 2 #[(0, .int .i64 x), (1, .int .i64 y)]).run Try.prog W = .ok (.slice (some ⟨W.heap.size, 0, none⟩) 2 2) (W.alloc (.cells #[.int .i64 x, .int .i64 y] 3)) := by kernel_rfl
set_option maxHeartbeats 1000000 in
theorem ocOr_calls (b : Nat) (x y r : Int) (hr : r = if x = 0 then y else x) (w : World) (h : Blk w b 3 #[.int .i64 x, .int .i64 y]) : Calls Try.prog 73 #[.slice (some ⟨b, 0, none⟩) 2 2] w fun e w' => e = .returned (.int .i64 r) ∧ w = w' := by
  have c0 := h.cell 0 (v := .int .i64 x) rfl
  have c1 := h.cell 1 (v := .int .i64 y) rfl
  have HR := hid hr
  clear h hr
  go_enter Try.func73, Try.ntmps73
  go_wp2_with fail
  go_loopw [8] (fun v8 wr => ∃ k : Nat, v8 = .int .i64 (k : Int) ∧ k ≤ 2 ∧ wr = w ∧ Hid ((0 < k → x = 0) ∧ (1 < k → y = 0))) (fun v8 _ => 2 - (intOf v8).toNat)
  case atStart => exact ⟨0, rfl, by omega, rfl, hid ⟨fun h => absurd h (by omega), fun h => absurd h (by omega)⟩⟩
  case round =>
    obtain ⟨k, rfl, hk, rfl, HK⟩ := hrel
    rcases Nat.lt_or_ge k 2 with h2 | h2
    · rcases Nat.lt_or_ge k 1 with h1 | h1
      · obtain rfl : k = 0 := by omega
        clear h1 h2 hk
        by_cases hx : x = 0
        · have HX := hid hx
          subst hx
          rw [show ((0 : Nat) : Int) = 0 from rfl]
          go_wp2_with fail
          go_roundw
          case rel => exact ⟨1, by simp, by omega, trivial, hid ⟨fun _ => trivial, fun h => absurd h (by omega)⟩⟩
          case measure => simp [intOf]
        · have HE := hid (show x = r from by rw [HR.out, if_neg hx])
          rw [show ((0 : Nat) : Int) = 0 from rfl]
          go_wp2_with fail
          go_ret
          exact ⟨by rw [← HE.out]; rfl, rfl⟩
      · obtain rfl : k = 1 := by omega
        have HX := hid (HK.out.1 (by omega))
        clear h1 h2 hk
        by_cases hy : y = 0
        · subst hy
          rw [show ((1 : Nat) : Int) = 1 from rfl]
          go_wp2_with fail
          go_roundw
          case rel => exact ⟨2, by simp, by omega, trivial, hid ⟨fun _ => HX.out, fun _ => trivial⟩⟩
          case measure => simp [intOf]
        · have HE := hid (show y = r from by rw [HR.out, if_pos HX.out])
          rw [show ((1 : Nat) : Int) = 1 from rfl]
          go_wp2_with fail
          go_ret
          exact ⟨by rw [← HE.out]; rfl, rfl⟩
    · obtain rfl : k = 2 := by omega
      have HE := hid (show 0 = r from by rw [HR.out, if_pos (HK.out.1 (by omega)), HK.out.2 (by omega)])
      rw [show ((2 : Nat) : Int) = 2 from rfl]
      go_wp2_with fail
      go_ret
      exact ⟨by rw [← HE.out]; rfl, rfl⟩
/-- the order of numbers, of dots -/
def cmpI (x y : Int) : Int := if x < y then -1 else if y < x then 1 else 0
def cmpD (a b : Dt) : Int := if cmpI a.1 b.1 = 0 then cmpI a.2 b.2 else cmpI a.1 b.1
theorem cmpI_neg (x y : Int) : cmpI x y < 0 ↔ x < y := by unfold cmpI; split <;> (try split) <;> omega
theorem cmpI_zero (x y : Int) : cmpI x y = 0 ↔ x = y := by unfold cmpI; split <;> (try split) <;> omega
theorem cmpD_neg (a b : Dt) : cmpD a b < 0 ↔ dLt a b := by
  unfold cmpD dLt
  by_cases h : a.1 = b.1
  · rw [if_pos ((cmpI_zero _ _).2 h), cmpI_neg]; omega
  · rw [if_neg (fun k => h ((cmpI_zero _ _).1 k)), cmpI_neg]; omega
theorem cmpD_zero (a b : Dt) : cmpD a b = 0 ↔ a = b := by
  unfold cmpD
  by_cases h : a.1 = b.1
  · rw [if_pos ((cmpI_zero _ _).2 h), cmpI_zero]
    exact ⟨fun k => Prod.ext h k, fun k => by rw [k]⟩
  · rw [if_neg (fun k => h ((cmpI_zero _ _).1 k))]
    constructor
    · intro k; exact absurd ((cmpI_zero _ _).1 k) h
    · intro k; exact absurd (by rw [k]) h
theorem ocNaN_calls (x : Int) (w : World) : Calls Try.prog 91 #[.int .i64 x] w fun e w' => e = .returned (.bool false) ∧ w = w' := by
  have hx : (x != x) = false := by simp
  go_enter Try.func91, Try.ntmps91
  go_wp2_with fail
  go_ret
  exact ⟨rfl, rfl⟩
theorem ocComp_calls (x y : Int) (w : World) : Calls Try.prog 74 #[.int .i64 x, .int .i64 y] w fun e w' => e = .returned (.int .i64 (cmpI x y)) ∧ w = w' := by
  by_cases h1 : x < y
  · have HE := hid (show -1 = cmpI x y from by unfold cmpI; rw [if_pos h1])
    go_enter Try.func74, Try.ntmps74
    go_wp2_with fail
    refine (ocNaN_calls x w).mono ?_
    rintro e w' ⟨rfl, rfl⟩
    go_wp2_with fail
    refine (ocNaN_calls y w).mono ?_
    rintro e w' ⟨rfl, rfl⟩
    go_wp2_with fail
    go_ret
    exact ⟨ret_int HE.out, rfl⟩
  · by_cases h2 : y < x
    · have HE := hid (show 1 = cmpI x y from by unfold cmpI; rw [if_neg h1, if_pos h2])
      go_enter Try.func74, Try.ntmps74
      go_wp2_with fail
      refine (ocNaN_calls x w).mono ?_
      rintro e w' ⟨rfl, rfl⟩
      go_wp2_with fail
      refine (ocNaN_calls y w).mono ?_
      rintro e w' ⟨rfl, rfl⟩
      go_wp2_with fail
      go_ret
      exact ⟨ret_int HE.out, rfl⟩
    · have HE := hid (show 0 = cmpI x y from by unfold cmpI; rw [if_neg h1, if_neg h2])
      go_enter Try.func74, Try.ntmps74
      go_wp2_with fail
      refine (ocNaN_calls x w).mono ?_
      rintro e w' ⟨rfl, rfl⟩
      go_wp2_with fail
      refine (ocNaN_calls y w).mono ?_
      rintro e w' ⟨rfl, rfl⟩
      go_wp2_with fail
      go_ret
      exact ⟨ret_int HE.out, rfl⟩
def vCmp (p : Nat) (p2 : Nat) (x1 : Int) (x2 : Int) (y1 : Int) (y2 : Int) (c1 : Int) (c2 : Int) (res : Int) : Nat → Value → Value
  | 0, _ => .pointer (some ⟨p, 0, none⟩)
  | 1, _ => .int .i64 x1
  | 2, _ => .pointer (some ⟨p2, 0, none⟩)
  | 3, _ => .int .i64 y1
  | 4, _ => .int .i64 c1
  | 5, _ => .pointer (some ⟨p, 1, none⟩)
  | 6, _ => .int .i64 x2
  | 7, _ => .pointer (some ⟨p2, 1, none⟩)
  | 8, _ => .int .i64 y2
  | 9, _ => .int .i64 c2
  | 10, k => k
  | 11, _ => .int .i64 res
  | 12, _ => .int .i64 res
  | _, _ => undef
/-- on the way through a comparison -/
structure CmpS (w : World) (x y : Int) (f : Nat → Bool) (gh : Nat → Value) (W : World) : Prop where
  g : Grown w W
  sl : f 10 = true → ∃ b, gh 10 = .slice (some ⟨b, 0, none⟩) 2 2 ∧ Blk W b 3 #[.int .i64 x, .int .i64 y]
theorem CmpS.step {w W W' : World} {x y : Int} {f : Nat → Bool} {gh : Nat → Value} (h : CmpS w x y f gh W) (hb : Grown W W') (i : Nat) (k : Value) (hi : 10 ≠ i) : CmpS w x y (upd f i) (updN gh i k) W' where
  g := h.g.trans hb
  sl := by
    rw [un_ne hi]
    intro e
    obtain ⟨b, h1, h2⟩ := h.sl e
    exact ⟨b, by rw [unN_ne hi]; exact h1, h2.keep hb.below⟩
set_option maxRecDepth 20000 in
set_option maxHeartbeats 2000000 in
theorem ocCompare_calls (d e : Dt) (w : World) :
    Calls Try.prog 49 #[dvv d, dvv e] w fun x w' => x = .returned (.int .i64 (cmpD d e)) ∧ Grown w w' := by
  obtain ⟨x1, x2⟩ := d
  obtain ⟨y1, y2⟩ := e
  have g1 := ((Grown.refl w).alloc (.cells #[.int .i64 x1, .int .i64 x2] 27)).alloc (.cells #[.int .i64 y1, .int .i64 y2] 27)
  have k1 := (Blk.new w 27 #[.int .i64 x1, .int .i64 x2]).keep (below_new _ (.cells #[.int .i64 y1, .int .i64 y2] 27))
  have k2 := Blk.new (w.alloc (.cells #[.int .i64 x1, .int .i64 x2] 27)) 27 #[.int .i64 y1, .int .i64 y2]
  rw [size_new] at k2
  have HC1 := hid (fun W => ocComp_calls x1 y1 W)
  have HC2 := hid (fun W => ocComp_calls x2 y2 W)
  have HR := hid (show cmpD (x1, x2) (y1, y2) = if cmpI x1 y1 = 0 then cmpI x2 y2 else cmpI x1 y1 from rfl)
  generalize cmpD (x1, x2) (y1, y2) = res at HR ⊢
  generalize cmpI x1 y1 = c1 at HC1 HR
  generalize cmpI x2 y2 = c2 at HC2 HR
  unfold dvv
  go_enter Try.func49, Try.ntmps49
  go_wp2_with fail
  generalize (w.alloc (.cells #[.int .i64 x1, .int .i64 x2] 27)).alloc (.cells #[.int .i64 y1, .int .i64 y2] 27) = w2 at g1 k1 k2 ⊢
  generalize w.heap.size = p at k1 k2 ⊢
  obtain ⟨p2, hp2⟩ : ∃ p2, p + 1 = p2 := ⟨_, rfl⟩
  rw [hp2] at k2 ⊢
  have K1 := hid k1; have K2 := hid k2; have G1 := hid g1
  have HC := hid (fun W (hb : Grown w2 W) => (⟨(K1.out.keep hb.below).cell 0 rfl, (K1.out.keep hb.below).cell 1 rfl, (K2.out.keep hb.below).cell 0 rfl, (K2.out.keep hb.below).cell 1 rfl⟩ : W.cell? ⟨p, 0, none⟩ = some (.int .i64 x1) ∧ W.cell? ⟨p, 1, none⟩ = some (.int .i64 x2) ∧ W.cell? ⟨p2, 0, none⟩ = some (.int .i64 y1) ∧ W.cell? ⟨p2, 1, none⟩ = some (.int .i64 y2)))
  clear k1 k2 g1 hp2
  refine wp_region_invG 17 (.pointer none) (vCmp p p2 x1 x2 y1 y2 c1 c2 res) (CmpS w2 c1 c2) (by kernel_rfl) (by kernel_rfl) (by exact Nat.le_refl 17) ?_ ?_ ?_
  · exact ⟨(Grown.refl _).drew, fun e => by simp at e⟩
  · intro i o f gh a W hi hf hdep hsame hcl hval hS
    rcases i with _ | _ | _ | _ | _ | _ | _ | _ | _ | _ | _ | _ | _ | i
    all_goals simp only [List.getElem?_cons_succ, List.getElem?_cons_zero, List.getElem?_nil, Option.some.injEq, reduceCtorEq] at hi
    all_goals subst hi
    · have E2 : a.tmps[2]? = some (.pointer (some ⟨p, 0, none⟩)) := (same_of hsame 2 (by rfl)).trans rfl
      refine g_plain rfl ?_
      exact does_value (w' := W) (v := .pointer (some ⟨p, 0, none⟩)) (by go_simp) ⟨(.pointer none), .inr rfl, hS.step (Grown.refl _) 0 (.pointer none) (by decide)⟩
    · have E5 := hval 0 _ 5 rfl rfl (dep_of hdep 0 (by rfl))
      unfold vCmp at E5
      obtain ⟨z1, z2, z3, z4⟩ := HC.out W hS.g
      refine g_plain rfl ?_
      exact does_value (w' := W) (v := .int .i64 x1) (by go_simp) ⟨(.pointer none), .inr rfl, hS.step (Grown.refl _) 1 (.pointer none) (by decide)⟩
    · have E3 : a.tmps[3]? = some (.pointer (some ⟨p2, 0, none⟩)) := (same_of hsame 3 (by rfl)).trans rfl
      refine g_plain rfl ?_
      exact does_value (w' := W) (v := .pointer (some ⟨p2, 0, none⟩)) (by go_simp) ⟨(.pointer none), .inr rfl, hS.step (Grown.refl _) 2 (.pointer none) (by decide)⟩
    · have E7 := hval 2 _ 7 rfl rfl (dep_of hdep 2 (by rfl))
      unfold vCmp at E7
      obtain ⟨z1, z2, z3, z4⟩ := HC.out W hS.g
      refine g_plain rfl ?_
      exact does_value (w' := W) (v := .int .i64 y1) (by go_simp) ⟨(.pointer none), .inr rfl, hS.step (Grown.refl _) 3 (.pointer none) (by decide)⟩
    · have E6 := hval 1 _ 6 rfl rfl (dep_of hdep 1 (by rfl))
      have E8 := hval 3 _ 8 rfl rfl (dep_of hdep 3 (by rfl))
      unfold vCmp at E6 E8
      refine g_plain rfl ?_
      refine does_call 74 #[.int .i64 x1, .int .i64 y1] (by go_simp) ((HC1.out W).mono ?_)
      rintro _ W' ⟨rfl, rfl⟩
      exact ⟨_, rfl, .pointer none, .inr rfl, hS.step (Grown.refl _) 4 (.pointer none) (by decide)⟩
    · have E2 : a.tmps[2]? = some (.pointer (some ⟨p, 0, none⟩)) := (same_of hsame 2 (by rfl)).trans rfl
      refine g_plain rfl ?_
      exact does_value (w' := W) (v := .pointer (some ⟨p, 1, none⟩)) (by go_simp) ⟨(.pointer none), .inr rfl, hS.step (Grown.refl _) 5 (.pointer none) (by decide)⟩
    · have E10 := hval 5 _ 10 rfl rfl (dep_of hdep 5 (by rfl))
      unfold vCmp at E10
      obtain ⟨z1, z2, z3, z4⟩ := HC.out W hS.g
      refine g_plain rfl ?_
      exact does_value (w' := W) (v := .int .i64 x2) (by go_simp) ⟨(.pointer none), .inr rfl, hS.step (Grown.refl _) 6 (.pointer none) (by decide)⟩
    · have E3 : a.tmps[3]? = some (.pointer (some ⟨p2, 0, none⟩)) := (same_of hsame 3 (by rfl)).trans rfl
      refine g_plain rfl ?_
      exact does_value (w' := W) (v := .pointer (some ⟨p2, 1, none⟩)) (by go_simp) ⟨(.pointer none), .inr rfl, hS.step (Grown.refl _) 7 (.pointer none) (by decide)⟩
    · have E12 := hval 7 _ 12 rfl rfl (dep_of hdep 7 (by rfl))
      unfold vCmp at E12
      obtain ⟨z1, z2, z3, z4⟩ := HC.out W hS.g
      refine g_plain rfl ?_
      exact does_value (w' := W) (v := .int .i64 y2) (by go_simp) ⟨(.pointer none), .inr rfl, hS.step (Grown.refl _) 8 (.pointer none) (by decide)⟩
    · have E11 := hval 6 _ 11 rfl rfl (dep_of hdep 6 (by rfl))
      have E13 := hval 8 _ 13 rfl rfl (dep_of hdep 8 (by rfl))
      unfold vCmp at E11 E13
      refine g_plain rfl ?_
      refine does_call 74 #[.int .i64 x2, .int .i64 y2] (by go_simp) ((HC2.out W).mono ?_)
      rintro _ W' ⟨rfl, rfl⟩
      exact ⟨_, rfl, .pointer none, .inr rfl, hS.step (Grown.refl _) 9 (.pointer none) (by decide)⟩
    · have E9 := hval 4 _ 9 rfl rfl (dep_of hdep 4 (by rfl))
      have E14 := hval 9 _ 14 rfl rfl (dep_of hdep 9 (by rfl))
      unfold vCmp at E9 E14
      refine g_plain rfl ?_
      have hrun := run_slice2 c1 c2 W
      exact does_value (w' := W.alloc (.cells #[.int .i64 c1, .int .i64 c2] 3)) (v := .slice (some ⟨W.heap.size, 0, none⟩) 2 2) (by go_simp) ⟨.slice (some ⟨W.heap.size, 0, none⟩) 2 2, .inr rfl, hS.g.alloc _, fun _ => ⟨W.heap.size, by simp [updN], Blk.new W _ _⟩⟩
    · have E15 := hval 10 _ 15 rfl rfl (dep_of hdep 10 (by rfl))
      unfold vCmp at E15
      refine g_plain rfl ?_
      obtain ⟨b, eb, hb⟩ := hS.sl (dep_of hdep 10 (by rfl))
      rw [eb] at E15
      refine does_call 73 #[.slice (some ⟨b, 0, none⟩) 2 2] (by go_simp) ((ocOr_calls b c1 c2 res HR.out W hb).mono ?_)
      rintro _ W' ⟨rfl, rfl⟩
      exact ⟨_, rfl, .pointer none, .inr rfl, hS.step (Grown.refl _) 11 (.pointer none) (by decide)⟩
    · have E16 := hval 11 _ 16 rfl rfl (dep_of hdep 11 (by rfl))
      unfold vCmp at E16
      refine g_plain rfl ?_
      exact does_value (w' := W) (v := .int .i64 res) (by go_simp) ⟨(.pointer none), .inr rfl, hS.step (Grown.refl _) 12 (.pointer none) (by decide)⟩
  · intro gh W hS
    have HG := hid (G1.out.trans hS.g)
    simp only [putAll, vCmp, Nat.reduceAdd, Nat.zero_add, Act.put, List.setIfInBounds_toArray, List.set_cons_zero, List.set_cons_succ]
    clear hS HC HC1 HC2
    go_wp2_with fail
    go_ret
    exact ⟨rfl, HG.out⟩
theorem info_dot0 : (Try.prog.info? 27).map (fun i => (i.zero, i.size)) = some (some (.agg #[.int .i64 0, .int .i64 0]), 2) := by kernel_rfl
set_option maxRecDepth 20000 in
theorem ocEnd_calls (w : World) : Calls Try.prog 79 #[] w fun e w' => e = .returned (dvv endD) ∧ Below w.heap.size w w' := by
  have hz := (zero_of_info info_dot0).1
  have HK := hid (Blk.new w 27 #[.int .i64 17, .int .i64 0])
  have HB := hid (below_new w (.cells #[.int .i64 17, .int .i64 0] 27))
  go_enter Try.func79, Try.ntmps79
  go_wp2_with fail
  refine bodyPost_ret (v := .agg #[.int .i64 17, .int .i64 0]) (results_cell1 rfl _ _ ⟨w.heap.size, 0, none⟩ _ rfl (run_load_dot (d := (17, 0)) HK.out)) rfl ?_
  exact ⟨rfl, HB.out⟩
set_option maxRecDepth 20000 in
set_option maxHeartbeats 1000000 in
theorem ocLesser_calls (d e : Dt) (w : World) : Calls Try.prog 80 #[dvv d, dvv e] w fun x w' => x = .returned (dvv (lessD d e)) ∧ Below w.heap.size w w' := by
  have hz := (zero_of_info info_dot0).1
  have b1 := below_new w (.cells #[.int .i64 d.1, .int .i64 d.2] 27)
  have b2 := below_new (w.alloc (.cells #[.int .i64 d.1, .int .i64 d.2] 27)) (.cells #[.int .i64 e.1, .int .i64 e.2] 27)
  have b3 := below_new ((w.alloc (.cells #[.int .i64 d.1, .int .i64 d.2] 27)).alloc (.cells #[.int .i64 e.1, .int .i64 e.2] 27)) (.cells #[.int .i64 0, .int .i64 0] 27)
  have k1 := ((Blk.new w 27 #[.int .i64 d.1, .int .i64 d.2]).keep b2).keep b3
  have k2 := (Blk.new (w.alloc (.cells #[.int .i64 d.1, .int .i64 d.2] 27)) 27 #[.int .i64 e.1, .int .i64 e.2]).keep b3
  have k3 := Blk.new ((w.alloc (.cells #[.int .i64 d.1, .int .i64 d.2] 27)).alloc (.cells #[.int .i64 e.1, .int .i64 e.2] 27)) 27 #[.int .i64 0, .int .i64 0]
  have bb := b1.trans ((b2.trans (b3.mono b2.size)).mono b1.size)
  rw [size_new] at k2
  rw [size_new, size_new] at k3
  obtain ⟨w3, hw3⟩ : ∃ w3, ((w.alloc (.cells #[.int .i64 d.1, .int .i64 d.2] 27)).alloc (.cells #[.int .i64 e.1, .int .i64 e.2] 27)).alloc (.cells #[.int .i64 0, .int .i64 0] 27) = w3 := ⟨_, rfl⟩
  rw [hw3] at k1 k2 k3 bb
  have HW3 := hid hw3; have K1 := hid k1; have K2 := hid k2; have K3 := hid k3; have BB := hid bb
  obtain ⟨p, hp⟩ : ∃ p, w.heap.size = p := ⟨_, rfl⟩
  obtain ⟨p2, hp2⟩ : ∃ p2, p + 1 = p2 := ⟨_, rfl⟩
  obtain ⟨p3, hp3⟩ : ∃ p3, p2 + 1 = p3 := ⟨_, rfl⟩
  have HP := hid hp; have HP2 := hid hp2; have HP3 := hid (show p3 = w.heap.size + 1 + 1 from by omega); have HP4 := hid hp3
  rw [hp] at K1 K2 K3
  rw [hp2] at K2 K3
  rw [hp3] at K3
  clear b1 b2 b3 k1 k2 k3 bb hw3 hp hp2 hp3
  have HC := hid (fun W => ocCompare_calls d e W)
  obtain ⟨c, hc⟩ : ∃ c, cmpD d e = c := ⟨_, rfl⟩
  rw [hc] at HC
  obtain ⟨Z, hZ⟩ : ∃ Z, lessD d e = Z := ⟨_, rfl⟩
  have HN := hid (show c < 0 → d = Z from fun h => by rw [← hZ]; unfold lessD; rw [if_pos]; rw [← cmpD_neg, hc]; exact h)
  have HG := hid (show 0 ≤ c → e = Z from fun h => by rw [← hZ]; unfold lessD; rw [if_neg]; rw [← cmpD_neg, hc]; omega)
  rw [hZ]
  clear hc hZ
  unfold dvv at HC ⊢
  go_enter Try.func80, Try.ntmps80
  go_wp2_with fail
  rw [HW3.out, HP.out, HP2.out, HP4.out]
  go_wp2_with (first | (refine wpList_load_row rfl 27 _ rfl p rfl 27 #[.int .i64 d.1, .int .i64 d.2] (0, 0) _ K1.out Try.underlying27 rfl (by kernel_rfl) ?_) | (refine wpList_load_row rfl 27 _ rfl p2 rfl 27 #[.int .i64 e.1, .int .i64 e.2] (0, 0) _ K2.out Try.underlying27 rfl (by kernel_rfl) ?_))
  refine (HC.out w3).mono ?_
  rintro x W ⟨rfl, hg⟩
  have HGR := hid hg.below
  have K1b := hid (K1.out.keep hg.below); have K2b := hid (K2.out.keep hg.below); have K3b := hid (K3.out.keep hg.below)
  clear hg HC
  by_cases hc : c < 0
  · have HE := hid (HN.out hc)
    go_wp2_with (first | (refine wpList_load_row rfl 27 _ rfl p rfl 27 #[.int .i64 d.1, .int .i64 d.2] (0, 0) _ K1b.out Try.underlying27 rfl (by kernel_rfl) ?_) | (refine wpList_store_blk rfl 27 _ _ rfl p3 #[.int .i64 d.1, .int .i64 d.2] rfl rfl 27 _ K3b.out (by kernel_rfl) rfl (by rfl) ?_; refine Held.go ?_))
    have HK := hid (K3b.out.setRow #[.int .i64 d.1, .int .i64 d.2])
    have HF := hid (show Below w.heap.size w (W.setRow p3 #[.int .i64 d.1, .int .i64 d.2]) from (BB.out.trans (HGR.out.mono BB.out.size)).trans (below_of_grown (grown_setRow _ _ _) (Nat.le_trans BB.out.size HGR.out.size) (fun b e => by injection e with e; have := HP3.out; omega)))
    unfold Held
    go_wp2_with fail
    refine bodyPost_ret (v := .agg #[.int .i64 d.1, .int .i64 d.2]) (results_cell1 rfl _ _ ⟨p3, 0, none⟩ _ rfl (run_load_dot (d := d) HK.out)) rfl ?_
    exact ⟨by rw [HE.out], HF.out⟩
  · have HE := hid (HG.out (by omega))
    go_wp2_with (first | (refine wpList_load_row rfl 27 _ rfl p2 rfl 27 #[.int .i64 e.1, .int .i64 e.2] (0, 0) _ K2b.out Try.underlying27 rfl (by kernel_rfl) ?_) | (refine wpList_store_blk rfl 27 _ _ rfl p3 #[.int .i64 e.1, .int .i64 e.2] rfl rfl 27 _ K3b.out (by kernel_rfl) rfl (by rfl) ?_; refine Held.go ?_))
    have HK := hid (K3b.out.setRow #[.int .i64 e.1, .int .i64 e.2])
    have HF := hid (show Below w.heap.size w (W.setRow p3 #[.int .i64 e.1, .int .i64 e.2]) from (BB.out.trans (HGR.out.mono BB.out.size)).trans (below_of_grown (grown_setRow _ _ _) (Nat.le_trans BB.out.size HGR.out.size) (fun b e => by injection e with e; have := HP3.out; omega)))
    unfold Held
    go_wp2_with fail
    refine bodyPost_ret (v := .agg #[.int .i64 e.1, .int .i64 e.2]) (results_cell1 rfl _ _ ⟨p3, 0, none⟩ _ rfl (run_load_dot (d := e) HK.out)) rfl ?_
    exact ⟨by rw [HE.out], HF.out⟩
end Go.Proofs.Ythjflgnoeenenaa
