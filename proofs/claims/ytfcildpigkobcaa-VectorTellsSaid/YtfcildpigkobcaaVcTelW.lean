/- The law VectorTells, walked. Written by tools/mkvl.py. -/
import Derived.Deep.DeepCutAuto
import Derived.Deep.CutBlock
import Derived.Test.YtfcildpigkobcaaVcLaw
namespace Go.Proofs.Ytfcildpigkobcaa
open Go Go.RowKit Go.Shelf

theorem with_len (zs : List Int) (R N : Int) (h : zs.length ≤ 40) : (withV zs R N).length ≤ 1000000 := by
  unfold withV
  split
  · rw [joinV_length]; simp; omega
  · rename_i hh
    rw [joinV_length, aloneV_length]
    omega
structure TlS (w1 : World) (Z : Nat → List Int) (f : Nat → Bool) (gh : Nat → Value) (W : World) : Prop where
  bel : Below w1.heap.size w1 W
  own : ∀ i, (i = 2 ∨ i = 5 ∨ i = 8) → f i = true → OwnN W w1.heap.size (gh i) (Z i).length (Z i)
  ne : ∀ i j, (i = 2 ∨ i = 5 ∨ i = 8) → (j = 2 ∨ j = 5 ∨ j = 8) → i ≠ j → f i = true → f j = true → ∀ b, (gh i).ownBlock = some b → (gh j).ownBlock ≠ some b
  la : ∀ i j, ((i = 9 ∧ j = 2) ∨ (i = 10 ∧ j = 5) ∨ (i = 11 ∧ j = 8)) → f i = true → f j = true ∧ gh i = gh j
section
variable {w1 W W' : World} {Z : Nat → List Int} {f : Nat → Bool} {gh : Nat → Value}
theorem TlS.start (gh : Nat → Value) : TlS w1 Z (fun j => decide (12 ≤ j)) gh w1.drew := ⟨(Below.refl _ _).drew, fun i hi h => by have := of_decide_eq_true h; omega, fun i j hi _ _ h => by have := of_decide_eq_true h; omega, fun i j hi h => by have := of_decide_eq_true h; omega⟩
theorem TlS.step (h : TlS w1 Z f gh W) (i : Nat) (v : Value) (hi : i ≠ 2 ∧ i ≠ 5 ∧ i ≠ 8 ∧ i ≠ 9 ∧ i ≠ 10 ∧ i ≠ 11) : TlS w1 Z (upd f i) (updN gh i v) W := by
  have key : ∀ j, (j = 2 ∨ j = 5 ∨ j = 8 ∨ j = 9 ∨ j = 10 ∨ j = 11) → upd f i j = f j ∧ updN gh i v j = gh j := fun j hj => ⟨un_ne (by omega), unN_ne (by omega)⟩
  refine ⟨h.bel, fun j hj e => ?_, fun j k hj hk hjk e1 e2 => ?_, fun j k hjk e => ?_⟩
  · obtain ⟨e1, e2⟩ := key j (by omega)
    rw [e1] at e; rw [e2]; exact h.own j hj e
  · obtain ⟨e3, e4⟩ := key j (by omega)
    obtain ⟨e5, e6⟩ := key k (by omega)
    rw [e3] at e1; rw [e5] at e2; rw [e4, e6]; exact h.ne j k hj hk hjk e1 e2
  · obtain ⟨e3, e4⟩ := key j (by omega)
    obtain ⟨e5, e6⟩ := key k (by omega)
    rw [e3] at e; rw [e5, e4, e6]; exact h.la j k hjk e
theorem TlS.asg (h : TlS w1 Z f gh W) (i j : Nat) (hij : (i = 9 ∧ j = 2) ∨ (i = 10 ∧ j = 5) ∨ (i = 11 ∧ j = 8)) (hf : f j = true) : TlS w1 Z (upd f i) (updN gh i (gh j)) W := by
  have key : ∀ k, (k = 2 ∨ k = 5 ∨ k = 8) → upd f i k = f k ∧ updN gh i (gh j) k = gh k := fun k hk => ⟨un_ne (by omega), unN_ne (by omega)⟩
  refine ⟨h.bel, fun k hk e => ?_, fun k l hk hl hkl e1 e2 => ?_, fun k l hkl e => ?_⟩
  · obtain ⟨e1, e2⟩ := key k hk
    rw [e1] at e; rw [e2]; exact h.own k hk e
  · obtain ⟨e3, e4⟩ := key k hk
    obtain ⟨e5, e6⟩ := key l hl
    rw [e3] at e1; rw [e5] at e2; rw [e4, e6]; exact h.ne k l hk hl hkl e1 e2
  · obtain ⟨e5, e6⟩ := key l (by omega)
    by_cases hk : k = i
    · subst hk
      obtain rfl : l = j := by omega
      rw [e5, e6, unN_eq]; exact ⟨hf, rfl⟩
    · rw [un_ne hk] at e; rw [e5, e6, unN_ne hk]; exact h.la k l hkl e
theorem TlS.call (h : TlS w1 Z f gh W) (i : Nat) (v : Value) (hi : i = 2 ∨ i = 5 ∨ i = 8) (hf : f i = false) (ho : OwnN W' W.heap.size v (Z i).length (Z i)) (hb : Below W.heap.size W W') : TlS w1 Z (upd f i) (updN gh i v) W' := by
  have hlt := ho.lt
  refine ⟨h.bel.trans (hb.mono h.bel.size), fun j hj e => ?_, fun j k hj hk hjk e1 e2 => ?_, fun j k hjk e => ?_⟩
  · by_cases hji : j = i
    · subst hji; rw [unN_eq]; exact ho.lower h.bel.size
    · rw [un_ne hji] at e; rw [unN_ne hji]; exact (h.own j hj e).keep hb
  · by_cases hji : j = i
    · subst hji
      rw [un_ne (Ne.symm hjk)] at e2
      rw [unN_eq, unN_ne (Ne.symm hjk)]
      intro b e3 e4
      have h1 := (hlt b e3).1
      have h2 := ((h.own k hk e2).lt b e4).2
      omega
    · rw [un_ne hji] at e1
      rw [unN_ne hji]
      by_cases hki : k = i
      · subst hki
        rw [unN_eq]
        intro b e3 e4
        have h1 := (hlt b e4).1
        have h2 := ((h.own j hj e1).lt b e3).2
        omega
      · rw [un_ne hki] at e2; rw [unN_ne hki]; exact h.ne j k hj hk hjk e1 e2
  · have hji : j ≠ i := by omega
    rw [un_ne hji] at e
    obtain ⟨e1, e2⟩ := h.la j k hjk e
    have hki : k ≠ i := fun e3 => by rw [e3] at e1; rw [hf] at e1; cases e1
    rw [un_ne hki, unN_ne hji, unN_ne hki]
    exact ⟨e1, e2⟩
end
theorem own_apart {a b : Value} (h : ∀ x, a.ownBlock = some x → b.ownBlock ≠ some x) : b.ownBlock = none ∨ b.ownBlock ≠ a.ownBlock := by
  rcases e : b.ownBlock with _ | x
  · exact .inl rfl
  · exact .inr fun e2 => h x e2.symm e
def telV (AA1 : Option Addr) (n0 : Nat) (cc1 : Nat) (AA2 : Option Addr) (n1 : Nat) (cc2 : Nat) (R0 : Int) (N0 : Int) : Nat → Value → Value
  | 0, _ => .slice AA1 n0 cc1
  | 1, _ => .slice AA2 n1 cc2
  | 2, k => k
  | 3, _ => .slice AA1 n0 cc1
  | 4, _ => .slice AA2 n1 cc2
  | 5, k => k
  | 6, _ => .slice AA1 n0 cc1
  | 7, _ => .agg #[.int .i64 R0, .int .i64 N0]
  | 8, k => k
  | 9, k => k
  | 10, k => k
  | 11, k => k
  | _, _ => undef
def tezV (AA1 : Option Addr) (n0 : Nat) (cc1 : Nat) (r : Int) (x : Int) (A0 : Option Addr) (c0 : Nat) (R0 : Int) (N0 : Int) (e : Bool) (AA2 : Option Addr) (n1 : Nat) (cc2 : Nat) (bx : Bool) (A1 : Option Addr) (c1 : Nat) (bz : Bool) (m : Int) (k : Int) : Nat → Unit → Value
  | 0, _ => .bool true
  | 1, _ => .bool true
  | 2, _ => .slice AA1 n0 cc1
  | 3, _ => .int .i64 r
  | 4, _ => .int .i64 x
  | 5, _ => .slice A0 n0 c0
  | 6, _ => .int .i64 r
  | 7, _ => .int .i64 x
  | 8, _ => .bool true
  | 9, _ => .bool true
  | 10, _ => .bool true
  | 11, _ => .slice AA1 n0 cc1
  | 12, _ => .agg #[.int .i64 R0, .int .i64 N0]
  | 13, _ => .bool e
  | 14, _ => .slice A0 n0 c0
  | 15, _ => .agg #[.int .i64 R0, .int .i64 N0]
  | 16, _ => .bool e
  | 17, _ => .bool true
  | 18, _ => .bool true
  | 19, _ => .bool true
  | 20, _ => .slice AA1 n0 cc1
  | 21, _ => .slice AA2 n1 cc2
  | 22, _ => .bool bx
  | 23, _ => .slice A0 n0 c0
  | 24, _ => .slice A1 n1 c1
  | 25, _ => .bool bx
  | 26, _ => .bool true
  | 27, _ => .bool true
  | 28, _ => .bool true
  | 29, _ => .slice AA1 n0 cc1
  | 30, _ => .slice AA2 n1 cc2
  | 31, _ => .bool bz
  | 32, _ => .slice A0 n0 c0
  | 33, _ => .slice A1 n1 c1
  | 34, _ => .bool bz
  | 35, _ => .bool true
  | 36, _ => .bool true
  | 37, _ => .bool true
  | 38, _ => .slice AA1 n0 cc1
  | 39, _ => .int .i64 r
  | 40, _ => .agg #[.int .i64 m, .int .i64 k]
  | 41, _ => .slice A0 n0 c0
  | 42, _ => .int .i64 r
  | 43, _ => .agg #[.int .i64 m, .int .i64 k]
  | 44, _ => .bool true
  | 45, _ => .bool true
  | 46, _ => .bool true
  | _, _ => undef
set_option maxRecDepth 20000 in
set_option maxHeartbeats 16000000 in
theorem tells_calls (R0 N0 r : Int) (n0 c0 n1 c1 : Nat) (A0 A1 : Option Addr) (u v : List Int) (W0 : World) (h0 : NI W0 A0 n0 u) (h1 : NI W0 A1 n1 v) :
    Calls Try.prog 3 #[.slice A0 n0 c0, .slice A1 n1 c1, .agg #[.int .i64 R0, .int .i64 N0], .int .i64 r] W0 fun e w' => e = .returned (.bool true) ∧ Below W0.heap.size W0 w' := by
  obtain ⟨p0, hp0⟩ : ∃ p, W0.heap.size = p := ⟨_, rfl⟩
  obtain ⟨W1, hw1⟩ : ∃ W, W = W0.alloc (.cells #[.int .i64 R0, .int .i64 N0] 24) := ⟨_, rfl⟩
  have hb : Below W0.heap.size W0 W1 := by rw [hw1]; exact below_new _ _
  have hk0 : Blk W1 p0 24 #[.int .i64 R0, .int .i64 N0] := by rw [hw1, ← hp0]; exact Blk.new _ _ _
  have hlu := h0.1
  have hlv := h1.1
  have HLU := hid hlu
  have HLV := hid hlv
  have HD0 := hid hk0; have HU := hid (h0.keep hb); have HV := hid (h1.keep hb); have HB := hid hb; have HW := hid hw1; have HP0 := hid hp0
  clear h0 h1 hw1 hk0 hb hp0 hlu hlv
  go_enter Try.func3, Try.ntmps3
  by_cases hl0 : n0 ≤ 40
  rotate_left
  · have hl0' : ¬ (n0 : Int) ≤ 40 := by omega
    have hc := awake_calls W1
    have HC := hid hc
    clear hc
    go_wp2_with fail
    rw [← HW.out, HP0.out]
    refine HC.out.mono ?_
    rintro e W2 ⟨rfl, hb⟩
    clear HC
    replace HU := hid (HU.out.keep hb)
    replace HV := hid (HV.out.keep hb)
    replace HD0 := hid (HD0.out.keep hb)
    replace HB := hid (HB.out.trans (hb.mono HB.out.size))
    clear hb
    go_wp2_with fail
    go_ret
    exact ⟨rfl, HB.out⟩
  have hl0' : (n0 : Int) ≤ 40 := by omega
  by_cases hl1 : n1 ≤ 40
  rotate_left
  · have hl1' : ¬ (n1 : Int) ≤ 40 := by omega
    have hc := awake_calls W1
    have HC := hid hc
    clear hc
    go_wp2_with fail
    rw [← HW.out, HP0.out]
    refine HC.out.mono ?_
    rintro e W2 ⟨rfl, hb⟩
    clear HC
    replace HU := hid (HU.out.keep hb)
    replace HV := hid (HV.out.keep hb)
    replace HD0 := hid (HD0.out.keep hb)
    replace HB := hid (HB.out.trans (hb.mono HB.out.size))
    clear hb
    go_wp2_with fail
    go_ret
    exact ⟨rfl, HB.out⟩
  have hl1' : (n1 : Int) ≤ 40 := by omega
  have hc := copyI_calls n0 c0 A0 u W1 HU.out (by omega)
  have HC := hid hc
  clear hc
  go_wp2_with fail
  rw [← HW.out, HP0.out]
  refine HC.out.mono ?_
  rintro e W2 ⟨vv1, rfl, ho, hb⟩
  clear HC
  replace HU := hid (HU.out.keep hb)
  replace HV := hid (HV.out.keep hb)
  replace HD0 := hid (HD0.out.keep hb)
  replace HB := hid (HB.out.trans (hb.mono HB.out.size))
  clear hb
  obtain ⟨AA1, cc1, rfl, _, hf, _⟩ := ho.ni
  have F1 : Hid (NI W2 AA1 n0 u) := hf
  clear ho hf
  have hc := copyI_calls n1 c1 A1 v W2 HV.out (by omega)
  have HC := hid hc
  clear hc
  go_wp2_with fail
  refine HC.out.mono ?_
  rintro e W3 ⟨vv2, rfl, ho, hb⟩
  clear HC
  replace HU := hid (HU.out.keep hb)
  replace HV := hid (HV.out.keep hb)
  replace HD0 := hid (HD0.out.keep hb)
  replace F1 := hid (F1.out.keep hb)
  replace HB := hid (HB.out.trans (hb.mono HB.out.size))
  clear hb
  obtain ⟨AA2, cc2, rfl, _, hf, _⟩ := ho.ni
  have F2 : Hid (NI W3 AA2 n1 v) := hf
  clear ho hf
  have HUb := HU
  have HVb := HV
  have HD0b := HD0
  have F1b := F1
  have F2b := F2
  have HB1 := HB
  have HBB := hid (Below.refl W3.heap.size W3)
  have HC1 := hid (fun (W : World) (hb : Below W3.heap.size W3 W) => show Calls Try.prog 11 #[.slice AA1 n0 cc1, .slice AA2 n1 cc2] W (fun e w' => ∃ vv, e = .returned vv ∧ OwnN w' W.heap.size vv (joinV u v).length (joinV u v) ∧ Below W.heap.size W w') from by have hc := join_calls n0 cc1 n1 cc2 AA1 AA2 u v W (F1.out.keep hb) (F2.out.keep hb) (by omega) (by omega); rwa [show max n0 n1 = (joinV u v).length from by rw [joinV_length, HLU.out, HLV.out]] at hc)
  have HC2 := hid (fun (W : World) (hb : Below W3.heap.size W3 W) => show Calls Try.prog 12 #[.slice AA1 n0 cc1, .slice AA2 n1 cc2] W (fun e w' => ∃ vv, e = .returned vv ∧ OwnN w' W.heap.size vv (meetV u v).length (meetV u v) ∧ Below W.heap.size W w') from by have hc := meet_calls n0 cc1 n1 cc2 AA1 AA2 u v W (F1.out.keep hb) (F2.out.keep hb) (by omega) (by omega); rwa [show max n0 n1 = (meetV u v).length from by rw [meetV_length, HLU.out, HLV.out]] at hc)
  have HC3 := hid (fun (W : World) (hb : Below W3.heap.size W3 W) => vWith_calls n0 cc1 AA1 u R0 N0 W (F1.out.keep hb) (by omega))
  obtain ⟨Z, hZ⟩ : ∃ Z : Nat → List Int, Z = fun i => if i = 2 then joinV u v else if i = 5 then meetV u v else withV u R0 N0 := ⟨_, rfl⟩
  have HZ2 := hid (show Z 2 = joinV u v from by rw [hZ]; rfl)
  have HZ5 := hid (show Z 5 = meetV u v from by rw [hZ]; rfl)
  have HZ8 := hid (show Z 8 = withV u R0 N0 from by rw [hZ]; rfl)
  clear hZ
  go_wp2_with fail
  refine wp_region_invG 122 (Value.bool false) (telV AA1 n0 cc1 AA2 n1 cc2 R0 N0) (fun f gh W => TlS W3 Z f gh W) (by kernel_rfl) (by kernel_rfl) (by exact Nat.le_refl 122) ?_ ?_ ?_
  · exact TlS.start _
  · intro i o f gh a W hi hf hdep hsame hcl hval hS
    rcases i with _ | _ | _ | _ | _ | _ | _ | _ | _ | _ | _ | _ | i
    all_goals simp only [List.getElem?_cons_succ, List.getElem?_cons_zero, List.getElem?_nil, Option.some.injEq, reduceCtorEq] at hi
    all_goals subst hi
    · have E9 : a.tmps[9]? = some (.slice AA1 n0 cc1) := (same_of hsame 9 (by rfl)).trans rfl
      refine g_plain rfl ?_
      exact does_value (w' := W) (v := .slice AA1 n0 cc1) (by go_simp) ⟨.bool false, .inr rfl, hS.step 0 _ (by decide)⟩
    · have E10 : a.tmps[10]? = some (.slice AA2 n1 cc2) := (same_of hsame 10 (by rfl)).trans rfl
      refine g_plain rfl ?_
      exact does_value (w' := W) (v := .slice AA2 n1 cc2) (by go_simp) ⟨.bool false, .inr rfl, hS.step 1 _ (by decide)⟩
    · have E28 := hval 0 _ 28 rfl rfl (dep_of hdep 0 (by rfl))
      have E29 := hval 1 _ 29 rfl rfl (dep_of hdep 1 (by rfl))
      unfold telV at E28 E29
      refine g_plain rfl ?_
      refine does_call 11 #[.slice AA1 n0 cc1, .slice AA2 n1 cc2] (by go_simp) ((HC1.out W hS.bel).mono ?_)
      rintro e w' ⟨vv, rfl, ho, hb⟩
      exact ⟨vv, rfl, vv, .inr rfl, hS.call 2 vv (by decide) hf (by rw [HZ2.out]; exact ho) hb⟩
    · have E9 : a.tmps[9]? = some (.slice AA1 n0 cc1) := (same_of hsame 9 (by rfl)).trans rfl
      refine g_plain rfl ?_
      exact does_value (w' := W) (v := .slice AA1 n0 cc1) (by go_simp) ⟨.bool false, .inr rfl, hS.step 3 _ (by decide)⟩
    · have E10 : a.tmps[10]? = some (.slice AA2 n1 cc2) := (same_of hsame 10 (by rfl)).trans rfl
      refine g_plain rfl ?_
      exact does_value (w' := W) (v := .slice AA2 n1 cc2) (by go_simp) ⟨.bool false, .inr rfl, hS.step 4 _ (by decide)⟩
    · have E31 := hval 3 _ 31 rfl rfl (dep_of hdep 3 (by rfl))
      have E32 := hval 4 _ 32 rfl rfl (dep_of hdep 4 (by rfl))
      unfold telV at E31 E32
      refine g_plain rfl ?_
      refine does_call 12 #[.slice AA1 n0 cc1, .slice AA2 n1 cc2] (by go_simp) ((HC2.out W hS.bel).mono ?_)
      rintro e w' ⟨vv, rfl, ho, hb⟩
      exact ⟨vv, rfl, vv, .inr rfl, hS.call 5 vv (by decide) hf (by rw [HZ5.out]; exact ho) hb⟩
    · have E9 : a.tmps[9]? = some (.slice AA1 n0 cc1) := (same_of hsame 9 (by rfl)).trans rfl
      refine g_plain rfl ?_
      exact does_value (w' := W) (v := .slice AA1 n0 cc1) (by go_simp) ⟨.bool false, .inr rfl, hS.step 6 _ (by decide)⟩
    · have E6 : a.tmps[6]? = some (.pointer (some ⟨p0, 0, none⟩)) := (same_of hsame 6 (by rfl)).trans rfl
      refine g_plain rfl ?_
      exact does_load_dot _ rfl p0 (by rw [eval_getD, E6]; rfl) (HD0.out.keep hS.bel) ⟨.bool false, .inr rfl, hS.step 7 _ (by decide)⟩
    · have E34 := hval 6 _ 34 rfl rfl (dep_of hdep 6 (by rfl))
      have E35 := hval 7 _ 35 rfl rfl (dep_of hdep 7 (by rfl))
      unfold telV at E34 E35
      refine g_plain rfl ?_
      refine does_call 13 #[.slice AA1 n0 cc1, .agg #[.int .i64 R0, .int .i64 N0]] (by go_simp) ((HC3.out W hS.bel).mono ?_)
      rintro e w' ⟨vv, rfl, ho, hb⟩
      exact ⟨vv, rfl, vv, .inr rfl, hS.call 8 vv (by decide) hf (by rw [HZ8.out]; exact ho) hb⟩
    · have E30 := hval 2 _ 30 rfl rfl (dep_of hdep 2 (by rfl))
      unfold telV at E30
      refine g_plain rfl ?_
      exact does_value (w' := W) (v := gh 2) (by go_simp) ⟨gh 2, .inr rfl, hS.asg 9 2 (by decide) (dep_of hdep 2 (by rfl))⟩
    · have E33 := hval 5 _ 33 rfl rfl (dep_of hdep 5 (by rfl))
      unfold telV at E33
      refine g_plain rfl ?_
      exact does_value (w' := W) (v := gh 5) (by go_simp) ⟨gh 5, .inr rfl, hS.asg 10 5 (by decide) (dep_of hdep 5 (by rfl))⟩
    · have E36 := hval 8 _ 36 rfl rfl (dep_of hdep 8 (by rfl))
      unfold telV at E36
      refine g_plain rfl ?_
      exact does_value (w' := W) (v := gh 8) (by go_simp) ⟨gh 8, .inr rfl, hS.asg 11 8 (by decide) (dep_of hdep 8 (by rfl))⟩
  · intro gh W4 hS
    have e9 := (hS.la 9 2 (.inl ⟨rfl, rfl⟩) rfl).2
    have e10 := (hS.la 10 5 (.inr (.inl ⟨rfl, rfl⟩)) rfl).2
    have e11 := (hS.la 11 8 (.inr (.inr ⟨rfl, rfl⟩)) rfl).2
    have ho1 := hS.own 2 (.inl rfl) rfl
    have ho2 := hS.own 5 (.inr (.inl rfl)) rfl
    have ho3 := hS.own 8 (.inr (.inr rfl)) rfl
    have q12 := hS.ne 2 5 (.inl rfl) (.inr (.inl rfl)) (by decide) rfl rfl
    have q13 := hS.ne 2 8 (.inl rfl) (.inr (.inr rfl)) (by decide) rfl rfl
    have q23 := hS.ne 5 8 (.inr (.inl rfl)) (.inr (.inr rfl)) (by decide) rfl rfl
    have hb := hS.bel
    clear hS
    replace HBB := hid (HBB.out.trans (hb.mono HBB.out.size))
    replace HU := hid (HU.out.keep hb)
    replace HV := hid (HV.out.keep hb)
    replace HD0 := hid (HD0.out.keep hb)
    replace F1 := hid (F1.out.keep hb)
    replace F2 := hid (F2.out.keep hb)
    replace HB := hid (HB.out.trans (hb.mono HB.out.size))
    clear hb
    simp only [putAll, telV, Nat.reduceAdd, Nat.zero_add, Act.put, List.setIfInBounds_toArray, List.set_cons_zero, List.set_cons_succ]
    rw [e9, e10, e11]
    rw [HZ2.out] at ho1
    rw [HZ5.out] at ho2
    rw [HZ8.out] at ho3
    generalize gh 2 = g2 at ho1 q12 q13 ⊢
    generalize gh 5 = g5 at ho2 q12 q23 ⊢
    generalize gh 8 = g8 at ho3 q13 q23 ⊢
    clear e9 e10 e11 HC1 HC2 HC3 HZ2 HZ5 HZ8
    obtain ⟨nn3, hnn⟩ : ∃ n, (joinV u v).length = n := ⟨_, rfl⟩
    rw [hnn] at ho1
    have hnb3 : nn3 ≤ 1000000 := by rw [← hnn, joinV_length, HLU.out, HLV.out]; omega
    clear hnn
    obtain ⟨AA3, cc3, rfl, _, hf, _⟩ := ho1.ni
    have F3 : Hid (NI W4 AA3 nn3 (joinV u v)) := hf
    have HO3 := hid ho1
    clear ho1 hf
    obtain ⟨nn4, hnn⟩ : ∃ n, (meetV u v).length = n := ⟨_, rfl⟩
    rw [hnn] at ho2
    have hnb4 : nn4 ≤ 1000000 := by rw [← hnn, meetV_length, HLU.out, HLV.out]; omega
    clear hnn
    obtain ⟨AA4, cc4, rfl, _, hf, _⟩ := ho2.ni
    have F4 : Hid (NI W4 AA4 nn4 (meetV u v)) := hf
    have HO4 := hid ho2
    clear ho2 hf
    obtain ⟨nn5, hnn⟩ : ∃ n, (withV u R0 N0).length = n := ⟨_, rfl⟩
    rw [hnn] at ho3
    have hnb5 : nn5 ≤ 1000000 := by rw [← hnn]; exact with_len _ _ _ (by rw [HLU.out]; omega)
    clear hnn
    obtain ⟨AA5, cc5, rfl, _, hf, _⟩ := ho3.ni
    have F5 : Hid (NI W4 AA5 nn5 (withV u R0 N0)) := hf
    have HO5 := hid ho3
    clear ho3 hf
    have Q12 := hid q12
    have Q13 := hid q13
    have Q23 := hid q23
    clear q12 q13 q23
    have hc := rJoin_calls n0 c0 n1 c1 A0 A1 u v W4 HU.out HV.out (by omega) (by omega)
    have HC := hid hc
    clear hc
    go_wp2_with fail
    refine HC.out.mono ?_
    rintro e W5 ⟨vv6, rfl, ho, hb⟩
    clear HC
    replace HU := hid (HU.out.keep hb)
    replace HV := hid (HV.out.keep hb)
    replace HD0 := hid (HD0.out.keep hb)
    replace F1 := hid (F1.out.keep hb)
    replace F2 := hid (F2.out.keep hb)
    replace F3 := hid (F3.out.keep hb)
    replace HO3 := hid (HO3.out.keep hb)
    replace F4 := hid (F4.out.keep hb)
    replace HO4 := hid (HO4.out.keep hb)
    replace F5 := hid (F5.out.keep hb)
    replace HO5 := hid (HO5.out.keep hb)
    replace HB := hid (HB.out.trans (hb.mono HB.out.size))
    replace HBB := hid (HBB.out.trans (hb.mono HBB.out.size))
    clear hb
    obtain ⟨nn6, hnn⟩ : ∃ n, max n0 n1 = n := ⟨_, rfl⟩
    rw [hnn] at ho
    have hnb6 : nn6 ≤ 1000000 := by omega
    clear hnn
    obtain ⟨AA6, cc6, rfl, _, hf, _⟩ := ho.ni
    have F6 : Hid (NI W5 AA6 nn6 (joinV u v)) := hf
    clear ho hf
    have hc := sameI_calls nn3 cc3 nn6 cc6 AA3 AA6 (joinV u v) (joinV u v) W5 F3.out F6.out (by omega) (by omega)
    rw [show ((joinV u v) == (joinV u v)) = true from beq_self_eq_true _] at hc
    have HC := hid hc
    clear hc
    go_wp2_with fail
    refine HC.out.mono ?_
    rintro e W6 ⟨rfl, hb⟩
    clear HC
    replace HU := hid (HU.out.keep hb)
    replace HV := hid (HV.out.keep hb)
    replace HD0 := hid (HD0.out.keep hb)
    replace F1 := hid (F1.out.keep hb)
    replace F2 := hid (F2.out.keep hb)
    replace F3 := hid (F3.out.keep hb)
    replace HO3 := hid (HO3.out.keep hb)
    replace F4 := hid (F4.out.keep hb)
    replace HO4 := hid (HO4.out.keep hb)
    replace F5 := hid (F5.out.keep hb)
    replace HO5 := hid (HO5.out.keep hb)
    replace F6 := hid (F6.out.keep hb)
    replace HB := hid (HB.out.trans (hb.mono HB.out.size))
    replace HBB := hid (HBB.out.trans (hb.mono HBB.out.size))
    clear hb
    have hc := rMeet_calls n0 c0 n1 c1 A0 A1 u v W6 HU.out HV.out (by omega) (by omega)
    have HC := hid hc
    clear hc
    go_wp2_with fail
    refine HC.out.mono ?_
    rintro e W7 ⟨vv7, rfl, ho, hb⟩
    clear HC
    replace HU := hid (HU.out.keep hb)
    replace HV := hid (HV.out.keep hb)
    replace HD0 := hid (HD0.out.keep hb)
    replace F1 := hid (F1.out.keep hb)
    replace F2 := hid (F2.out.keep hb)
    replace F3 := hid (F3.out.keep hb)
    replace HO3 := hid (HO3.out.keep hb)
    replace F4 := hid (F4.out.keep hb)
    replace HO4 := hid (HO4.out.keep hb)
    replace F5 := hid (F5.out.keep hb)
    replace HO5 := hid (HO5.out.keep hb)
    replace F6 := hid (F6.out.keep hb)
    replace HB := hid (HB.out.trans (hb.mono HB.out.size))
    replace HBB := hid (HBB.out.trans (hb.mono HBB.out.size))
    clear hb
    obtain ⟨nn7, hnn⟩ : ∃ n, max n0 n1 = n := ⟨_, rfl⟩
    rw [hnn] at ho
    have hnb7 : nn7 ≤ 1000000 := by omega
    clear hnn
    obtain ⟨AA7, cc7, rfl, _, hf, _⟩ := ho.ni
    have F7 : Hid (NI W7 AA7 nn7 (meetV u v)) := hf
    clear ho hf
    have hc := sameI_calls nn4 cc4 nn7 cc7 AA4 AA7 (meetV u v) (meetV u v) W7 F4.out F7.out (by omega) (by omega)
    rw [show ((meetV u v) == (meetV u v)) = true from beq_self_eq_true _] at hc
    have HC := hid hc
    clear hc
    go_wp2_with fail
    refine HC.out.mono ?_
    rintro e W8 ⟨rfl, hb⟩
    clear HC
    replace HU := hid (HU.out.keep hb)
    replace HV := hid (HV.out.keep hb)
    replace HD0 := hid (HD0.out.keep hb)
    replace F1 := hid (F1.out.keep hb)
    replace F2 := hid (F2.out.keep hb)
    replace F3 := hid (F3.out.keep hb)
    replace HO3 := hid (HO3.out.keep hb)
    replace F4 := hid (F4.out.keep hb)
    replace HO4 := hid (HO4.out.keep hb)
    replace F5 := hid (F5.out.keep hb)
    replace HO5 := hid (HO5.out.keep hb)
    replace F6 := hid (F6.out.keep hb)
    replace F7 := hid (F7.out.keep hb)
    replace HB := hid (HB.out.trans (hb.mono HB.out.size))
    replace HBB := hid (HBB.out.trans (hb.mono HBB.out.size))
    clear hb
    have hc := rWith_calls n0 c0 A0 u R0 N0 W8 HU.out (by omega)
    have HC := hid hc
    clear hc
    have d0 := HD0.out.cell 0 rfl
    have d1 := HD0.out.cell 1 rfl
    go_wp2_with fail
    refine HC.out.mono ?_
    rintro e W9 ⟨vv8, rfl, ho, hb⟩
    clear HC
    replace HU := hid (HU.out.keep hb)
    replace HV := hid (HV.out.keep hb)
    replace HD0 := hid (HD0.out.keep hb)
    replace F1 := hid (F1.out.keep hb)
    replace F2 := hid (F2.out.keep hb)
    replace F3 := hid (F3.out.keep hb)
    replace HO3 := hid (HO3.out.keep hb)
    replace F4 := hid (F4.out.keep hb)
    replace HO4 := hid (HO4.out.keep hb)
    replace F5 := hid (F5.out.keep hb)
    replace HO5 := hid (HO5.out.keep hb)
    replace F6 := hid (F6.out.keep hb)
    replace F7 := hid (F7.out.keep hb)
    replace HB := hid (HB.out.trans (hb.mono HB.out.size))
    replace HBB := hid (HBB.out.trans (hb.mono HBB.out.size))
    clear hb
    obtain ⟨nn8, hnn⟩ : ∃ n, (withV u R0 N0).length = n := ⟨_, rfl⟩
    rw [hnn] at ho
    have hnb8 : nn8 ≤ 1000000 := by rw [← hnn]; exact with_len _ _ _ (by rw [HLU.out]; omega)
    clear hnn
    obtain ⟨AA8, cc8, rfl, _, hf, _⟩ := ho.ni
    have F8 : Hid (NI W9 AA8 nn8 (withV u R0 N0)) := hf
    clear ho hf
    clear d0 d1
    have hc := sameI_calls nn5 cc5 nn8 cc8 AA5 AA8 (withV u R0 N0) (withV u R0 N0) W9 F5.out F8.out (by omega) (by omega)
    rw [show ((withV u R0 N0) == (withV u R0 N0)) = true from beq_self_eq_true _] at hc
    have HC := hid hc
    clear hc
    go_wp2_with fail
    refine HC.out.mono ?_
    rintro e W10 ⟨rfl, hb⟩
    clear HC
    replace HU := hid (HU.out.keep hb)
    replace HV := hid (HV.out.keep hb)
    replace HD0 := hid (HD0.out.keep hb)
    replace F1 := hid (F1.out.keep hb)
    replace F2 := hid (F2.out.keep hb)
    replace F3 := hid (F3.out.keep hb)
    replace HO3 := hid (HO3.out.keep hb)
    replace F4 := hid (F4.out.keep hb)
    replace HO4 := hid (HO4.out.keep hb)
    replace F5 := hid (F5.out.keep hb)
    replace HO5 := hid (HO5.out.keep hb)
    replace F6 := hid (F6.out.keep hb)
    replace F7 := hid (F7.out.keep hb)
    replace F8 := hid (F8.out.keep hb)
    replace HB := hid (HB.out.trans (hb.mono HB.out.size))
    replace HBB := hid (HBB.out.trans (hb.mono HBB.out.size))
    clear hb
    clear HU HV HD0 F1 F2 F3 F4 F5 F6 F7 F8 HB
    have hc := overI_calls _ _ _ _ W10 HO3.out (by omega)
    have HC := hid hc
    clear hc
    go_wp2_with fail
    refine HC.out.mono ?_
    rintro e W11 ⟨⟨u9, rfl⟩, _, _, hg⟩
    clear HC
    replace HO4 := hid (HO4.out.kept hg (own_apart Q12.out))
    replace HO5 := hid (HO5.out.kept hg (own_apart Q13.out))
    replace HBB := hid (HBB.out.trans (below_of_grown hg HBB.out.size (fun g e => (HO3.out.lt g e).1)))
    clear hg HO3
    have hc := overI_calls _ _ _ _ W11 HO4.out (by omega)
    have HC := hid hc
    clear hc
    go_wp2_with fail
    refine HC.out.mono ?_
    rintro e W12 ⟨⟨u9, rfl⟩, _, _, hg⟩
    clear HC
    replace HO5 := hid (HO5.out.kept hg (own_apart Q23.out))
    replace HBB := hid (HBB.out.trans (below_of_grown hg HBB.out.size (fun g e => (HO4.out.lt g e).1)))
    clear hg HO4
    have hc := overI_calls _ _ _ _ W12 HO5.out (by omega)
    have HC := hid hc
    clear hc
    go_wp2_with fail
    refine HC.out.mono ?_
    rintro e W13 ⟨⟨u9, rfl⟩, _, _, hg⟩
    clear HC
    replace HBB := hid (HBB.out.trans (below_of_grown hg HBB.out.size (fun g e => (HO5.out.lt g e).1)))
    clear hg HO5
    have HU := hid (HUb.out.keep HBB.out)
    have HV := hid (HVb.out.keep HBB.out)
    have HD0 := hid (HD0b.out.keep HBB.out)
    have F1 := hid (F1b.out.keep HBB.out)
    have F2 := hid (F2b.out.keep HBB.out)
    have HB := hid (HB1.out.trans (HBB.out.mono HB1.out.size))
    clear HUb HVb HD0b F1b F2b HB1 HBB
    obtain ⟨x, hx⟩ : ∃ x, atV u r = x := ⟨_, rfl⟩
    obtain ⟨e, he⟩ : ∃ e, hasV u R0 N0 = e := ⟨_, rfl⟩
    obtain ⟨bx, hbx⟩ : ∃ b, leqV u v = b := ⟨_, rfl⟩
    obtain ⟨bz, hbz⟩ : ∃ b, (leqV u v && leqV v u) = b := ⟨_, rfl⟩
    obtain ⟨m, hm⟩ : ∃ m, (nextV u r).1 = m := ⟨_, rfl⟩
    obtain ⟨k, hk⟩ : ∃ k, (nextV u r).2 = k := ⟨_, rfl⟩
    have K1 := hid (fun (W : World) (hb : Below W13.heap.size W13 W) => vAt_calls n0 cc1 AA1 u r W (F1.out.keep hb) (by omega))
    simp only [hx] at K1
    have K2 := hid (fun (W : World) (hb : Below W13.heap.size W13 W) => rAt_calls n0 c0 A0 u r W (HU.out.keep hb) (by omega))
    simp only [hx] at K2
    have K3 := hid (fun (W : World) (hb : Below W13.heap.size W13 W) => vHas_calls n0 cc1 AA1 u R0 N0 W (F1.out.keep hb) (by omega))
    simp only [he] at K3
    have K4 := hid (fun (W : World) (hb : Below W13.heap.size W13 W) => rHas_calls n0 c0 A0 u R0 N0 W (HU.out.keep hb) (by omega))
    simp only [he] at K4
    have K5 := hid (fun (W : World) (hb : Below W13.heap.size W13 W) => leq_calls n0 cc1 n1 cc2 AA1 AA2 u v W (F1.out.keep hb) (F2.out.keep hb) (by omega) (by omega))
    simp only [hbx] at K5
    have K6 := hid (fun (W : World) (hb : Below W13.heap.size W13 W) => rLeq_calls n0 c0 n1 c1 A0 A1 u v W (HU.out.keep hb) (HV.out.keep hb) (by omega) (by omega))
    simp only [hbx] at K6
    have K7 := hid (fun (W : World) (hb : Below W13.heap.size W13 W) => same_calls n0 cc1 n1 cc2 AA1 AA2 u v W (F1.out.keep hb) (F2.out.keep hb) (by omega) (by omega))
    simp only [hbz] at K7
    have K8 := hid (fun (W : World) (hb : Below W13.heap.size W13 W) => rSame_calls n0 c0 n1 c1 A0 A1 u v W (HU.out.keep hb) (HV.out.keep hb) (by omega) (by omega))
    simp only [hbz] at K8
    have K9 := hid (fun (W : World) (hb : Below W13.heap.size W13 W) => vNext_calls n0 cc1 AA1 u r W (F1.out.keep hb) (by omega))
    simp only [hm, hk] at K9
    have K10 := hid (fun (W : World) (hb : Below W13.heap.size W13 W) => rNext_calls n0 c0 A0 u r W (HU.out.keep hb) (by omega))
    simp only [hm, hk] at K10
    clear hx he hbx hbz hm hk
    go_wp2_with fail
    refine wp_region_invG 122 () (tezV AA1 n0 cc1 r x A0 c0 R0 N0 e AA2 n1 cc2 bx A1 c1 bz m k) (fun _ _ W => Below W13.heap.size W13 W) (by kernel_rfl) (by kernel_rfl) (by exact Nat.le_refl 122) ?_ ?_ ?_
    · exact (Below.refl _ _).drew
    · intro i o f gh a W hi hf hdep hsame hcl hval hS
      rcases i with _ | _ | _ | _ | _ | _ | _ | _ | _ | _ | _ | _ | _ | _ | _ | _ | _ | _ | _ | _ | _ | _ | _ | _ | _ | _ | _ | _ | _ | _ | _ | _ | _ | _ | _ | _ | _ | _ | _ | _ | _ | _ | _ | _ | _ | _ | _ | i
      all_goals simp only [List.getElem?_cons_succ, List.getElem?_cons_zero, List.getElem?_nil, Option.some.injEq, reduceCtorEq] at hi
      all_goals subst hi
      · have n1 := not_yet hcl hf 1 (by rfl)
        have n9 := not_yet hcl n1 9 (by rfl)
        have n10 := not_yet hcl n9 10 (by rfl)
        have n18 := not_yet hcl n10 18 (by rfl)
        have n19 := not_yet hcl n18 19 (by rfl)
        have n27 := not_yet hcl n19 27 (by rfl)
        have n28 := not_yet hcl n27 28 (by rfl)
        have n36 := not_yet hcl n28 36 (by rfl)
        have n37 := not_yet hcl n36 37 (by rfl)
        have n45 := not_yet hcl n37 45 (by rfl)
        have n46 := not_yet hcl n45 46 (by rfl)
        have E14 : a.tmps[14]? = some (.bool true) := (same_but hsame 14 46 n46 (by rfl)).trans rfl
        refine g_plain rfl ?_
        exact does_value (w' := W) (v := .bool true) (by go_simp) ⟨(), .inr rfl, hS⟩
      · have E62 := hval 0 _ 62 rfl rfl (dep_of hdep 0 (by rfl))
        unfold tezV at E62
        refine g_plain rfl ?_
        exact does_value (w' := W) (v := .bool true) (by go_simp) ⟨(), .inr rfl, hS⟩
      · have EG := hval 1 _ 63 rfl rfl (dep_of hdep 1 (by rfl))
        have E9 : a.tmps[9]? = some (.slice AA1 n0 cc1) := (same_of hsame 9 (by rfl)).trans rfl
        unfold tezV at EG
        refine g_want rfl rfl rfl EG ?_
        exact does_value (w' := W) (v := .slice AA1 n0 cc1) (by go_simp) ⟨(), .inr rfl, hS⟩
      · have EG := hval 1 _ 63 rfl rfl (dep_of hdep 1 (by rfl))
        have E3 : a.tmps[3]? = some (.int .i64 r) := (same_of hsame 3 (by rfl)).trans rfl
        unfold tezV at EG
        refine g_want rfl rfl rfl EG ?_
        exact does_value (w' := W) (v := .int .i64 r) (by go_simp) ⟨(), .inr rfl, hS⟩
      · have EG := hval 1 _ 63 rfl rfl (dep_of hdep 1 (by rfl))
        have E64 := hval 2 _ 64 rfl rfl (dep_of hdep 2 (by rfl))
        have E65 := hval 3 _ 65 rfl rfl (dep_of hdep 3 (by rfl))
        unfold tezV at EG E64 E65
        refine g_want rfl rfl rfl EG ?_
        refine does_call 19 #[.slice AA1 n0 cc1, .int .i64 r] (by go_simp) ((K1.out W hS).mono ?_)
        rintro e w' ⟨rfl, rfl⟩
        exact ⟨.int .i64 x, rfl, (), .inr rfl, hS⟩
      · have EG := hval 1 _ 63 rfl rfl (dep_of hdep 1 (by rfl))
        have E0 : a.tmps[0]? = some (.slice A0 n0 c0) := (same_of hsame 0 (by rfl)).trans rfl
        unfold tezV at EG
        refine g_want rfl rfl rfl EG ?_
        exact does_value (w' := W) (v := .slice A0 n0 c0) (by go_simp) ⟨(), .inr rfl, hS⟩
      · have EG := hval 1 _ 63 rfl rfl (dep_of hdep 1 (by rfl))
        have E3 : a.tmps[3]? = some (.int .i64 r) := (same_of hsame 3 (by rfl)).trans rfl
        unfold tezV at EG
        refine g_want rfl rfl rfl EG ?_
        exact does_value (w' := W) (v := .int .i64 r) (by go_simp) ⟨(), .inr rfl, hS⟩
      · have EG := hval 1 _ 63 rfl rfl (dep_of hdep 1 (by rfl))
        have E67 := hval 5 _ 67 rfl rfl (dep_of hdep 5 (by rfl))
        have E68 := hval 6 _ 68 rfl rfl (dep_of hdep 6 (by rfl))
        unfold tezV at EG E67 E68
        refine g_want rfl rfl rfl EG ?_
        refine does_call 20 #[.slice A0 n0 c0, .int .i64 r] (by go_simp) ((K2.out W hS).mono ?_)
        rintro e w' ⟨rfl, rfl⟩
        exact ⟨.int .i64 x, rfl, (), .inr rfl, hS⟩
      · have EG := hval 1 _ 63 rfl rfl (dep_of hdep 1 (by rfl))
        have E66 := hval 4 _ 66 rfl rfl (dep_of hdep 4 (by rfl))
        have E69 := hval 7 _ 69 rfl rfl (dep_of hdep 7 (by rfl))
        unfold tezV at EG E66 E69
        refine g_want rfl rfl rfl EG ?_
        exact does_value (w' := W) (v := .bool true) (by go_simp) ⟨(), .inr rfl, hS⟩
      · have E63 := hval 1 _ 63 rfl rfl (dep_of hdep 1 (by rfl))
        have E70 := hval 8 _ 70 rfl rfl (dep_of hdep 8 (by rfl))
        unfold tezV at E63 E70
        refine g_plain rfl ?_
        exact does_value (w' := W) (v := .bool true) (by go_simp) ⟨(), .inr rfl, hS⟩
      · have E71 := hval 9 _ 71 rfl rfl (dep_of hdep 9 (by rfl))
        unfold tezV at E71
        refine g_plain rfl ?_
        exact does_value (w' := W) (v := .bool true) (by go_simp) ⟨(), .inr rfl, hS⟩
      · have EG := hval 10 _ 72 rfl rfl (dep_of hdep 10 (by rfl))
        have E9 : a.tmps[9]? = some (.slice AA1 n0 cc1) := (same_of hsame 9 (by rfl)).trans rfl
        unfold tezV at EG
        refine g_want rfl rfl rfl EG ?_
        exact does_value (w' := W) (v := .slice AA1 n0 cc1) (by go_simp) ⟨(), .inr rfl, hS⟩
      · have EG := hval 10 _ 72 rfl rfl (dep_of hdep 10 (by rfl))
        have E6 : a.tmps[6]? = some (.pointer (some ⟨p0, 0, none⟩)) := (same_of hsame 6 (by rfl)).trans rfl
        unfold tezV at EG
        refine g_want rfl rfl rfl EG ?_
        exact does_load_dot _ rfl p0 (by rw [eval_getD, E6]; rfl) (HD0.out.keep hS) ⟨(), .inr rfl, hS⟩
      · have EG := hval 10 _ 72 rfl rfl (dep_of hdep 10 (by rfl))
        have E73 := hval 11 _ 73 rfl rfl (dep_of hdep 11 (by rfl))
        have E74 := hval 12 _ 74 rfl rfl (dep_of hdep 12 (by rfl))
        unfold tezV at EG E73 E74
        refine g_want rfl rfl rfl EG ?_
        refine does_call 21 #[.slice AA1 n0 cc1, .agg #[.int .i64 R0, .int .i64 N0]] (by go_simp) ((K3.out W hS).mono ?_)
        rintro e w' ⟨rfl, hb⟩
        exact ⟨.bool e, rfl, (), .inr rfl, hS.trans (hb.mono hS.size)⟩
      · have EG := hval 10 _ 72 rfl rfl (dep_of hdep 10 (by rfl))
        have E0 : a.tmps[0]? = some (.slice A0 n0 c0) := (same_of hsame 0 (by rfl)).trans rfl
        unfold tezV at EG
        refine g_want rfl rfl rfl EG ?_
        exact does_value (w' := W) (v := .slice A0 n0 c0) (by go_simp) ⟨(), .inr rfl, hS⟩
      · have EG := hval 10 _ 72 rfl rfl (dep_of hdep 10 (by rfl))
        have E6 : a.tmps[6]? = some (.pointer (some ⟨p0, 0, none⟩)) := (same_of hsame 6 (by rfl)).trans rfl
        unfold tezV at EG
        refine g_want rfl rfl rfl EG ?_
        exact does_load_dot _ rfl p0 (by rw [eval_getD, E6]; rfl) (HD0.out.keep hS) ⟨(), .inr rfl, hS⟩
      · have EG := hval 10 _ 72 rfl rfl (dep_of hdep 10 (by rfl))
        have E76 := hval 14 _ 76 rfl rfl (dep_of hdep 14 (by rfl))
        have E77 := hval 15 _ 77 rfl rfl (dep_of hdep 15 (by rfl))
        unfold tezV at EG E76 E77
        refine g_want rfl rfl rfl EG ?_
        refine does_call 22 #[.slice A0 n0 c0, .agg #[.int .i64 R0, .int .i64 N0]] (by go_simp) ((K4.out W hS).mono ?_)
        rintro e w' ⟨rfl, hb⟩
        exact ⟨.bool e, rfl, (), .inr rfl, hS.trans (hb.mono hS.size)⟩
      · have EG := hval 10 _ 72 rfl rfl (dep_of hdep 10 (by rfl))
        have E75 := hval 13 _ 75 rfl rfl (dep_of hdep 13 (by rfl))
        have E78 := hval 16 _ 78 rfl rfl (dep_of hdep 16 (by rfl))
        unfold tezV at EG E75 E78
        refine g_want rfl rfl rfl EG ?_
        exact does_value (w' := W) (v := .bool true) (by go_simp) ⟨(), .inr rfl, hS⟩
      · have E72 := hval 10 _ 72 rfl rfl (dep_of hdep 10 (by rfl))
        have E79 := hval 17 _ 79 rfl rfl (dep_of hdep 17 (by rfl))
        unfold tezV at E72 E79
        refine g_plain rfl ?_
        exact does_value (w' := W) (v := .bool true) (by go_simp) ⟨(), .inr rfl, hS⟩
      · have E80 := hval 18 _ 80 rfl rfl (dep_of hdep 18 (by rfl))
        unfold tezV at E80
        refine g_plain rfl ?_
        exact does_value (w' := W) (v := .bool true) (by go_simp) ⟨(), .inr rfl, hS⟩
      · have EG := hval 19 _ 81 rfl rfl (dep_of hdep 19 (by rfl))
        have E9 : a.tmps[9]? = some (.slice AA1 n0 cc1) := (same_of hsame 9 (by rfl)).trans rfl
        unfold tezV at EG
        refine g_want rfl rfl rfl EG ?_
        exact does_value (w' := W) (v := .slice AA1 n0 cc1) (by go_simp) ⟨(), .inr rfl, hS⟩
      · have EG := hval 19 _ 81 rfl rfl (dep_of hdep 19 (by rfl))
        have E10 : a.tmps[10]? = some (.slice AA2 n1 cc2) := (same_of hsame 10 (by rfl)).trans rfl
        unfold tezV at EG
        refine g_want rfl rfl rfl EG ?_
        exact does_value (w' := W) (v := .slice AA2 n1 cc2) (by go_simp) ⟨(), .inr rfl, hS⟩
      · have EG := hval 19 _ 81 rfl rfl (dep_of hdep 19 (by rfl))
        have E82 := hval 20 _ 82 rfl rfl (dep_of hdep 20 (by rfl))
        have E83 := hval 21 _ 83 rfl rfl (dep_of hdep 21 (by rfl))
        unfold tezV at EG E82 E83
        refine g_want rfl rfl rfl EG ?_
        refine does_call 23 #[.slice AA1 n0 cc1, .slice AA2 n1 cc2] (by go_simp) ((K5.out W hS).mono ?_)
        rintro e w' ⟨rfl, hb⟩
        exact ⟨.bool bx, rfl, (), .inr rfl, hS.trans (hb.mono hS.size)⟩
      · have EG := hval 19 _ 81 rfl rfl (dep_of hdep 19 (by rfl))
        have E0 : a.tmps[0]? = some (.slice A0 n0 c0) := (same_of hsame 0 (by rfl)).trans rfl
        unfold tezV at EG
        refine g_want rfl rfl rfl EG ?_
        exact does_value (w' := W) (v := .slice A0 n0 c0) (by go_simp) ⟨(), .inr rfl, hS⟩
      · have EG := hval 19 _ 81 rfl rfl (dep_of hdep 19 (by rfl))
        have E1 : a.tmps[1]? = some (.slice A1 n1 c1) := (same_of hsame 1 (by rfl)).trans rfl
        unfold tezV at EG
        refine g_want rfl rfl rfl EG ?_
        exact does_value (w' := W) (v := .slice A1 n1 c1) (by go_simp) ⟨(), .inr rfl, hS⟩
      · have EG := hval 19 _ 81 rfl rfl (dep_of hdep 19 (by rfl))
        have E85 := hval 23 _ 85 rfl rfl (dep_of hdep 23 (by rfl))
        have E86 := hval 24 _ 86 rfl rfl (dep_of hdep 24 (by rfl))
        unfold tezV at EG E85 E86
        refine g_want rfl rfl rfl EG ?_
        refine does_call 24 #[.slice A0 n0 c0, .slice A1 n1 c1] (by go_simp) ((K6.out W hS).mono ?_)
        rintro e w' ⟨rfl, rfl⟩
        exact ⟨.bool bx, rfl, (), .inr rfl, hS⟩
      · have EG := hval 19 _ 81 rfl rfl (dep_of hdep 19 (by rfl))
        have E84 := hval 22 _ 84 rfl rfl (dep_of hdep 22 (by rfl))
        have E87 := hval 25 _ 87 rfl rfl (dep_of hdep 25 (by rfl))
        unfold tezV at EG E84 E87
        refine g_want rfl rfl rfl EG ?_
        exact does_value (w' := W) (v := .bool true) (by go_simp) ⟨(), .inr rfl, hS⟩
      · have E81 := hval 19 _ 81 rfl rfl (dep_of hdep 19 (by rfl))
        have E88 := hval 26 _ 88 rfl rfl (dep_of hdep 26 (by rfl))
        unfold tezV at E81 E88
        refine g_plain rfl ?_
        exact does_value (w' := W) (v := .bool true) (by go_simp) ⟨(), .inr rfl, hS⟩
      · have E89 := hval 27 _ 89 rfl rfl (dep_of hdep 27 (by rfl))
        unfold tezV at E89
        refine g_plain rfl ?_
        exact does_value (w' := W) (v := .bool true) (by go_simp) ⟨(), .inr rfl, hS⟩
      · have EG := hval 28 _ 90 rfl rfl (dep_of hdep 28 (by rfl))
        have E9 : a.tmps[9]? = some (.slice AA1 n0 cc1) := (same_of hsame 9 (by rfl)).trans rfl
        unfold tezV at EG
        refine g_want rfl rfl rfl EG ?_
        exact does_value (w' := W) (v := .slice AA1 n0 cc1) (by go_simp) ⟨(), .inr rfl, hS⟩
      · have EG := hval 28 _ 90 rfl rfl (dep_of hdep 28 (by rfl))
        have E10 : a.tmps[10]? = some (.slice AA2 n1 cc2) := (same_of hsame 10 (by rfl)).trans rfl
        unfold tezV at EG
        refine g_want rfl rfl rfl EG ?_
        exact does_value (w' := W) (v := .slice AA2 n1 cc2) (by go_simp) ⟨(), .inr rfl, hS⟩
      · have EG := hval 28 _ 90 rfl rfl (dep_of hdep 28 (by rfl))
        have E91 := hval 29 _ 91 rfl rfl (dep_of hdep 29 (by rfl))
        have E92 := hval 30 _ 92 rfl rfl (dep_of hdep 30 (by rfl))
        unfold tezV at EG E91 E92
        refine g_want rfl rfl rfl EG ?_
        refine does_call 25 #[.slice AA1 n0 cc1, .slice AA2 n1 cc2] (by go_simp) ((K7.out W hS).mono ?_)
        rintro e w' ⟨rfl, hb⟩
        exact ⟨.bool bz, rfl, (), .inr rfl, hS.trans (hb.mono hS.size)⟩
      · have EG := hval 28 _ 90 rfl rfl (dep_of hdep 28 (by rfl))
        have E0 : a.tmps[0]? = some (.slice A0 n0 c0) := (same_of hsame 0 (by rfl)).trans rfl
        unfold tezV at EG
        refine g_want rfl rfl rfl EG ?_
        exact does_value (w' := W) (v := .slice A0 n0 c0) (by go_simp) ⟨(), .inr rfl, hS⟩
      · have EG := hval 28 _ 90 rfl rfl (dep_of hdep 28 (by rfl))
        have E1 : a.tmps[1]? = some (.slice A1 n1 c1) := (same_of hsame 1 (by rfl)).trans rfl
        unfold tezV at EG
        refine g_want rfl rfl rfl EG ?_
        exact does_value (w' := W) (v := .slice A1 n1 c1) (by go_simp) ⟨(), .inr rfl, hS⟩
      · have EG := hval 28 _ 90 rfl rfl (dep_of hdep 28 (by rfl))
        have E94 := hval 32 _ 94 rfl rfl (dep_of hdep 32 (by rfl))
        have E95 := hval 33 _ 95 rfl rfl (dep_of hdep 33 (by rfl))
        unfold tezV at EG E94 E95
        refine g_want rfl rfl rfl EG ?_
        refine does_call 26 #[.slice A0 n0 c0, .slice A1 n1 c1] (by go_simp) ((K8.out W hS).mono ?_)
        rintro e w' ⟨rfl, rfl⟩
        exact ⟨.bool bz, rfl, (), .inr rfl, hS⟩
      · have EG := hval 28 _ 90 rfl rfl (dep_of hdep 28 (by rfl))
        have E93 := hval 31 _ 93 rfl rfl (dep_of hdep 31 (by rfl))
        have E96 := hval 34 _ 96 rfl rfl (dep_of hdep 34 (by rfl))
        unfold tezV at EG E93 E96
        refine g_want rfl rfl rfl EG ?_
        exact does_value (w' := W) (v := .bool true) (by go_simp) ⟨(), .inr rfl, hS⟩
      · have E90 := hval 28 _ 90 rfl rfl (dep_of hdep 28 (by rfl))
        have E97 := hval 35 _ 97 rfl rfl (dep_of hdep 35 (by rfl))
        unfold tezV at E90 E97
        refine g_plain rfl ?_
        exact does_value (w' := W) (v := .bool true) (by go_simp) ⟨(), .inr rfl, hS⟩
      · have E98 := hval 36 _ 98 rfl rfl (dep_of hdep 36 (by rfl))
        unfold tezV at E98
        refine g_plain rfl ?_
        exact does_value (w' := W) (v := .bool true) (by go_simp) ⟨(), .inr rfl, hS⟩
      · have EG := hval 37 _ 99 rfl rfl (dep_of hdep 37 (by rfl))
        have E9 : a.tmps[9]? = some (.slice AA1 n0 cc1) := (same_of hsame 9 (by rfl)).trans rfl
        unfold tezV at EG
        refine g_want rfl rfl rfl EG ?_
        exact does_value (w' := W) (v := .slice AA1 n0 cc1) (by go_simp) ⟨(), .inr rfl, hS⟩
      · have EG := hval 37 _ 99 rfl rfl (dep_of hdep 37 (by rfl))
        have E3 : a.tmps[3]? = some (.int .i64 r) := (same_of hsame 3 (by rfl)).trans rfl
        unfold tezV at EG
        refine g_want rfl rfl rfl EG ?_
        exact does_value (w' := W) (v := .int .i64 r) (by go_simp) ⟨(), .inr rfl, hS⟩
      · have EG := hval 37 _ 99 rfl rfl (dep_of hdep 37 (by rfl))
        have E100 := hval 38 _ 100 rfl rfl (dep_of hdep 38 (by rfl))
        have E101 := hval 39 _ 101 rfl rfl (dep_of hdep 39 (by rfl))
        unfold tezV at EG E100 E101
        refine g_want rfl rfl rfl EG ?_
        refine does_call 27 #[.slice AA1 n0 cc1, .int .i64 r] (by go_simp) ((K9.out W hS).mono ?_)
        rintro e w' ⟨rfl, hb⟩
        exact ⟨.agg #[.int .i64 m, .int .i64 k], rfl, (), .inr rfl, hS.trans (hb.mono hS.size)⟩
      · have EG := hval 37 _ 99 rfl rfl (dep_of hdep 37 (by rfl))
        have E0 : a.tmps[0]? = some (.slice A0 n0 c0) := (same_of hsame 0 (by rfl)).trans rfl
        unfold tezV at EG
        refine g_want rfl rfl rfl EG ?_
        exact does_value (w' := W) (v := .slice A0 n0 c0) (by go_simp) ⟨(), .inr rfl, hS⟩
      · have EG := hval 37 _ 99 rfl rfl (dep_of hdep 37 (by rfl))
        have E3 : a.tmps[3]? = some (.int .i64 r) := (same_of hsame 3 (by rfl)).trans rfl
        unfold tezV at EG
        refine g_want rfl rfl rfl EG ?_
        exact does_value (w' := W) (v := .int .i64 r) (by go_simp) ⟨(), .inr rfl, hS⟩
      · have EG := hval 37 _ 99 rfl rfl (dep_of hdep 37 (by rfl))
        have E103 := hval 41 _ 103 rfl rfl (dep_of hdep 41 (by rfl))
        have E104 := hval 42 _ 104 rfl rfl (dep_of hdep 42 (by rfl))
        unfold tezV at EG E103 E104
        refine g_want rfl rfl rfl EG ?_
        refine does_call 28 #[.slice A0 n0 c0, .int .i64 r] (by go_simp) ((K10.out W hS).mono ?_)
        rintro e w' ⟨rfl, hb⟩
        exact ⟨.agg #[.int .i64 m, .int .i64 k], rfl, (), .inr rfl, hS.trans (hb.mono hS.size)⟩
      · have EG := hval 37 _ 99 rfl rfl (dep_of hdep 37 (by rfl))
        have E102 := hval 40 _ 102 rfl rfl (dep_of hdep 40 (by rfl))
        have E105 := hval 43 _ 105 rfl rfl (dep_of hdep 43 (by rfl))
        unfold tezV at EG E102 E105
        refine g_want rfl rfl rfl EG ?_
        exact does_value (w' := W) (v := .bool true) (by go_simp) ⟨(), .inr rfl, hS⟩
      · have E99 := hval 37 _ 99 rfl rfl (dep_of hdep 37 (by rfl))
        have E106 := hval 44 _ 106 rfl rfl (dep_of hdep 44 (by rfl))
        unfold tezV at E99 E106
        refine g_plain rfl ?_
        exact does_value (w' := W) (v := .bool true) (by go_simp) ⟨(), .inr rfl, hS⟩
      · have E107 := hval 45 _ 107 rfl rfl (dep_of hdep 45 (by rfl))
        unfold tezV at E107
        refine g_plain rfl ?_
        exact does_value (w' := W) (v := .bool true) (by go_simp) ⟨(), .inr rfl, hS⟩
    · intro gh W14 hb
      replace HU := hid (HU.out.keep hb)
      replace HV := hid (HV.out.keep hb)
      replace HD0 := hid (HD0.out.keep hb)
      replace F1 := hid (F1.out.keep hb)
      replace F2 := hid (F2.out.keep hb)
      replace HB := hid (HB.out.trans (hb.mono HB.out.size))
      clear hb
      simp only [putAll, tezV, Nat.reduceAdd, Nat.zero_add, Act.put, List.setIfInBounds_toArray, List.set_cons_zero, List.set_cons_succ]
      clear K1 K2 K3 K4 K5 K6 K7 K8 K9 K10
      have hc := sameI_calls n0 cc1 n0 c0 AA1 A0 u u W14 F1.out HU.out (by omega) (by omega)
      rw [show (u == u) = true from beq_self_eq_true _] at hc
      have HC := hid hc
      clear hc
      go_wp2_with fail
      refine HC.out.mono ?_
      rintro e W15 ⟨rfl, hb⟩
      clear HC
      replace HU := hid (HU.out.keep hb)
      replace HV := hid (HV.out.keep hb)
      replace HD0 := hid (HD0.out.keep hb)
      replace F1 := hid (F1.out.keep hb)
      replace F2 := hid (F2.out.keep hb)
      replace HB := hid (HB.out.trans (hb.mono HB.out.size))
      clear hb
      have hc := sameI_calls n1 cc2 n1 c1 AA2 A1 v v W15 F2.out HV.out (by omega) (by omega)
      rw [show (v == v) = true from beq_self_eq_true _] at hc
      have HC := hid hc
      clear hc
      go_wp2_with fail
      refine HC.out.mono ?_
      rintro e W16 ⟨rfl, hb⟩
      clear HC
      replace HU := hid (HU.out.keep hb)
      replace HV := hid (HV.out.keep hb)
      replace HD0 := hid (HD0.out.keep hb)
      replace F1 := hid (F1.out.keep hb)
      replace F2 := hid (F2.out.keep hb)
      replace HB := hid (HB.out.trans (hb.mono HB.out.size))
      clear hb
      have hc := awake_calls W16
      have HC := hid hc
      clear hc
      go_wp2_with fail
      refine HC.out.mono ?_
      rintro e W17 ⟨rfl, hb⟩
      clear HC
      replace HU := hid (HU.out.keep hb)
      replace HV := hid (HV.out.keep hb)
      replace HD0 := hid (HD0.out.keep hb)
      replace F1 := hid (F1.out.keep hb)
      replace F2 := hid (F2.out.keep hb)
      replace HB := hid (HB.out.trans (hb.mono HB.out.size))
      clear hb
      go_wp2_with fail
      go_ret
      exact ⟨rfl, HB.out⟩
end Go.Proofs.Ytfcildpigkobcaa
