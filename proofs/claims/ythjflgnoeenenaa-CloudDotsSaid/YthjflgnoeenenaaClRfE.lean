/- Contracts of the reference of clouds: Check. -/
import Derived.Test.YthjflgnoeenenaaClRfD
namespace Go.Proofs.Ythjflgnoeenenaa
open Go Go.RowKit Cl

structure CkS (w1 : World) (v : List Int) (ds : List Dt) (f : Nat → Bool) (gh : Nat → Value) (W : World) : Prop where
  low : Below w1.heap.size w1 W
  got : f 4 = true → ∃ V D, gh 4 = .agg #[V, D] ∧ OwnN W w1.heap.size V (formedV v ds).1.length (formedV v ds).1 ∧ OwnD W w1.heap.size D (formedV v ds).2.length (formedV v ds).2
theorem CkS.same {w1 W W' : World} {v : List Int} {ds : List Dt} {f : Nat → Bool} {gh : Nat → Value} (h : CkS w1 v ds f gh W) (hb : Below W.heap.size W W') (i : Nat) (g : Value) (n4 : 4 ≠ i) : CkS w1 v ds (upd f i) (updN gh i g) W' :=
  ⟨h.low.trans (hb.mono h.low.size), fun e => by
    rw [la_ne n4] at e; rw [laN_ne n4]
    obtain ⟨V, D, h1, h2, h3⟩ := h.got e
    exact ⟨V, D, h1, h2.keep hb, h3.keep hb⟩⟩
theorem CkS.start (w1 : World) (v : List Int) (ds : List Dt) (gh : Nat → Value) : CkS w1 v ds (fun j => decide (9 ≤ j)) gh w1.drew := ⟨(Below.refl _ _).drew, fun e => by have := of_decide_eq_true e; omega⟩
theorem check_tail {v : List Int} {ds : List Dt} (h : ranged v ds) (k : ¬ 4096 < ds.length) : checkC (v, ds) = if decide (formedV v ds = (v, ds)) then 0 else 2 := by
  unfold checkC
  by_cases hq : formedV v ds = (v, ds)
  · rw [if_pos h, if_neg k, if_pos hq, decide_eq_true hq]; rfl
  · rw [if_pos h, if_neg k, if_neg hq, decide_eq_false hq]; rfl
def vCk (A : Option Addr) (n c : Nat) (B : Option Addr) (m e : Nat) (p : Nat) (q : Bool) : Nat → Value → Value
  | 0, _ => .pointer (some ⟨p, 0, none⟩)
  | 1, _ => .slice A n c
  | 2, _ => .pointer (some ⟨p, 1, none⟩)
  | 3, _ => .slice B m e
  | 4, g => g
  | 5, _ => .agg #[.slice A n c, .slice B m e]
  | 6, _ => .bool q
  | 7, _ => .bool (!q)
  | 8, _ => .bool (!q)
  | _, _ => undef
set_option maxRecDepth 20000 in
set_option maxHeartbeats 2000000 in
theorem rCheck_calls (n c m e : Nat) (A B : Option Addr) (v : List Int) (ds : List Dt) (w : World) (h1 : NI w A n v) (h2 : ND w B m ds) (hn : n ≤ 1000000) (hm : m ≤ 900000) :
    Calls Try.prog 19 #[cdv A n c B m e] w fun x w' => x = .returned (.int .i64 (checkC (v, ds))) ∧ Below w.heap.size w w' := by
  have HB := hid (below_new w (.cells #[.slice A n c, .slice B m e] 25))
  have hk := Blk.new w 25 #[.slice A n c, .slice B m e]
  have HSZ := hid (size_new w (.cells #[.slice A n c, .slice B m e] 25))
  obtain ⟨w1, hw1⟩ : ∃ w1, w.alloc (.cells #[.slice A n c, .slice B m e] 25) = w1 := ⟨_, rfl⟩
  have HW1 := hid hw1
  rw [hw1] at HB hk HSZ
  obtain ⟨p, hp⟩ : ∃ p, w.heap.size = p := ⟨_, rfl⟩
  have HPP := hid hp
  rw [hp] at hk
  have H1 := hid (h1.keep HB.out); have H2 := hid (h2.keep HB.out)
  have L1 := hid h1.1; have L2 := hid h2.1
  have HRG := hid (rRanged_calls n c m e A B v ds w1 H1.out H2.out hn (by omega))
  obtain ⟨Z, hZ⟩ : ∃ Z, checkC (v, ds) = Z := ⟨_, rfl⟩
  rw [hZ]
  have HZ := hid hZ
  have HK := hid hk
  have c0 := hk.cell 0 rfl; have c1 := hk.cell 1 rfl
  clear h1 h2 hw1 hp hk hZ
  show Calls Try.prog 19 #[.agg #[.slice A n c, .slice B m e]] w _
  by_cases hr : ranged v ds
  · rw [decide_eq_true hr] at HRG
    have HRA := hid hr
    clear hr
    go_enter Try.func19, Try.ntmps19
    go_wp2_with fail
    rw [HW1.out, HPP.out]
    go_wp2_with fail
    refine HRG.out.mono ?_
    rintro y W2 ⟨rfl, hb2⟩
    have HB2 := hid hb2
    have HK2 := hid (HK.out.keep hb2)
    clear c0 c1 hb2
    have c0 := HK2.out.cell 0 rfl; have c1 := HK2.out.cell 1 rfl
    by_cases hf : (4096 : Int) < (m : Int)
    · have HE := hid (show (10 : Int) = Z from by rw [← HZ.out]; unfold checkC; rw [if_pos HRA.out, if_pos (by rw [L2.out]; omega)])
      have HF := hid (HB.out.trans (HB2.out.mono HB.out.size))
      go_wp2_with fail
      go_ret
      exact ⟨ret_int HE.out, HF.out⟩
    · have hf' : ¬ 4096 < m := by omega
      obtain ⟨q, hq⟩ : ∃ q, decide (formedV v ds = (v, ds)) = q := ⟨_, rfl⟩
      have HQ := hid hq
      have HE := hid (show (if q then (0 : Int) else 2) = Z from by
        rw [← HZ.out, ← hq]; exact (check_tail HRA.out (by rw [L2.out]; exact hf')).symm)
      clear hq
      go_wp2_with fail
      refine wp_region_invG 24 (.pointer none) (vCk A n c B m e p q) (CkS W2 v ds) (by kernel_rfl) (by kernel_rfl) (by exact Nat.le_refl 24) ?_ ?_ ?_
      · exact CkS.start W2 v ds _
      · intro i o f gh a W hi hf hdep hsame hcl hval hS
        have kp := HK2.out.keep hS.low
        have b0 := kp.cell 0 rfl
        have b1 := kp.cell 1 rfl
        rcases i with _ | _ | _ | _ | _ | _ | _ | _ | _ | i
        all_goals simp only [List.getElem?_cons_succ, List.getElem?_cons_zero, List.getElem?_nil, Option.some.injEq, reduceCtorEq] at hi
        all_goals subst hi
        · have E1 : a.tmps[1]? = some (.pointer (some ⟨p, 0, none⟩)) := (same_of hsame 1 (by rfl)).trans rfl
          refine g_plain rfl ?_
          exact does_value (w' := W) (v := .pointer (some ⟨p, 0, none⟩)) (by go_simp) ⟨.pointer none, .inr rfl, hS.same (Below.refl _ _) 0 _ (by decide)⟩
        · have E16 := hval 0 _ 16 rfl rfl (dep_of hdep 0 (by rfl))
          unfold vCk at E16
          refine g_plain rfl ?_
          exact does_value (w' := W) (v := .slice A n c) (by go_simp) ⟨.pointer none, .inr rfl, hS.same (Below.refl _ _) 1 _ (by decide)⟩
        · have E1 : a.tmps[1]? = some (.pointer (some ⟨p, 0, none⟩)) := (same_of hsame 1 (by rfl)).trans rfl
          refine g_plain rfl ?_
          exact does_value (w' := W) (v := .pointer (some ⟨p, 1, none⟩)) (by go_simp) ⟨.pointer none, .inr rfl, hS.same (Below.refl _ _) 2 _ (by decide)⟩
        · have E18 := hval 2 _ 18 rfl rfl (dep_of hdep 2 (by rfl))
          unfold vCk at E18
          refine g_plain rfl ?_
          exact does_value (w' := W) (v := .slice B m e) (by go_simp) ⟨.pointer none, .inr rfl, hS.same (Below.refl _ _) 3 _ (by decide)⟩
        · have E17 := hval 1 _ 17 rfl rfl (dep_of hdep 1 (by rfl))
          have E19 := hval 3 _ 19 rfl rfl (dep_of hdep 3 (by rfl))
          unfold vCk at E17 E19
          refine g_plain rfl ?_
          refine does_call 43 #[.slice A n c, .slice B m e] (by go_simp) ((rFormed_calls n c m e A B v ds W ((H1.out.keep HB2.out).keep hS.low) ((H2.out.keep HB2.out).keep hS.low) HRA.out hm).mono ?_)
          rintro _ W' ⟨V, D, rfl, ho, hod, -, hb⟩
          refine ⟨_, rfl, .agg #[V, D], .inr rfl, ⟨hS.low.trans (hb.mono hS.low.size), fun _ => ⟨V, D, laN_eq, ho.lower hS.low.size, hod.lower hS.low.size⟩⟩⟩
        · have E1 : a.tmps[1]? = some (.pointer (some ⟨p, 0, none⟩)) := (same_of hsame 1 (by rfl)).trans rfl
          refine g_plain rfl ?_
          exact does_load_cloud _ rfl p rfl (by rw [eval_getD, E1]; rfl) kp ⟨.pointer none, .inr rfl, hS.same (Below.refl _ _) 5 _ (by decide)⟩
        · have E20 := hval 4 _ 20 rfl rfl (dep_of hdep 4 (by rfl))
          have E21 := hval 5 _ 21 rfl rfl (dep_of hdep 5 (by rfl))
          unfold vCk at E20 E21
          obtain ⟨V, D, e1, ho, hod⟩ := hS.got (dep_of hdep 4 (by rfl))
          rw [e1] at E20
          obtain ⟨AV, cV, rfl, -, hni, -⟩ := ho.ni
          obtain ⟨AD, cD, rfl, -, hnd, -⟩ := hod.nd
          have hfr := formed_ranged HRA.out
          have hfl := formed_len v ds
          refine g_plain rfl ?_
          refine does_call 47 #[cdv AV (formedV v ds).1.length cV AD (formedV v ds).2.length cD, cdv A n c B m e] (by unfold cdv; go_simp) ((rSame_calls _ cV _ cD n c m e AV AD A B _ v _ ds W hni hnd ((H1.out.keep HB2.out).keep hS.low) ((H2.out.keep HB2.out).keep hS.low) (by have := hfr.1; omega) (by rw [L2.out] at hfl; omega) hn (by omega)).mono ?_)
          rintro _ W' ⟨rfl, hb⟩
          exact ⟨_, rfl, .pointer none, .inr (by rw [← HQ.out]; rfl), hS.same hb 6 _ (by decide)⟩
        · have E22 := hval 6 _ 22 rfl rfl (dep_of hdep 6 (by rfl))
          unfold vCk at E22
          refine g_plain rfl ?_
          exact does_value (w' := W) (v := .bool (!q)) (by go_simp) ⟨.pointer none, .inr rfl, hS.same (Below.refl _ _) 7 _ (by decide)⟩
        · have E23 := hval 7 _ 23 rfl rfl (dep_of hdep 7 (by rfl))
          unfold vCk at E23
          refine g_plain rfl ?_
          exact does_value (w' := W) (v := .bool (!q)) (by go_simp) ⟨.pointer none, .inr rfl, hS.same (Below.refl _ _) 8 _ (by decide)⟩
      · intro gh W5 hS
        have HF := hid (HB.out.trans ((HB2.out.trans (hS.low.mono HB2.out.size)).mono HB.out.size))
        clear hS
        simp only [putAll, vCk, Nat.reduceAdd, Nat.zero_add, Act.put, List.setIfInBounds_toArray, List.set_cons_zero, List.set_cons_succ]
        generalize gh 4 = g4
        clear HQ
        cases q with
        | true =>
          have HE2 := hid (show (0 : Int) = Z from HE.out)
          go_wp2_with fail
          go_ret
          exact ⟨ret_int HE2.out, HF.out⟩
        | false =>
          have HE2 := hid (show (2 : Int) = Z from HE.out)
          go_wp2_with fail
          go_ret
          exact ⟨ret_int HE2.out, HF.out⟩
  · rw [decide_eq_false hr] at HRG
    have HE := hid (show (3 : Int) = Z from by rw [← HZ.out]; unfold checkC; rw [if_neg hr])
    clear hr
    go_enter Try.func19, Try.ntmps19
    go_wp2_with fail
    rw [HW1.out, HPP.out]
    go_wp2_with fail
    refine HRG.out.mono ?_
    rintro y W2 ⟨rfl, hb2⟩
    have HF := hid (HB.out.trans (hb2.mono HB.out.size))
    clear hb2
    go_wp2_with fail
    go_ret
    exact ⟨ret_int HE.out, HF.out⟩
end Go.Proofs.Ythjflgnoeenenaa
