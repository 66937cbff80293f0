/- Contract: the part that writes what stands behind a manifest's title. Written by tools/mkmd.py out of XMdBody.tpl. -/
import Derived.Test.YtljnpaikjljmbaaMdEq
namespace Go.Proofs.Ytljnpaikjljmbaa
open Go.RowKit

def MOK (m : MM) : Prop := DOK m.c ∧ m.t.length ≤ 549755813888 ∧ m.l.length ≤ 1000000 ∧ m.u.length ≤ 1000000 ∧ lt63 m.k ∧ (∀ d ∈ m.l, DOK d) ∧ ∀ d ∈ m.u, DOK d
def bodyG (m : MM) : List (List Item) := if m.k = 4 then listG m.u else descG m.c ++ listG m.l
theorem desc_part (base g f : Nat) (r : Option Nat) (lim : Nat) (d : DD) (w : World) (hd : DOK d) (hfp : ∀ x ∈ fpw g f r, x < w.heap.size) :
    Calls Try.prog 61 #[.pointer (some ⟨g, 0, none⟩), .agg (dcs d).toArray] w fun e w' => ∃ v, e = .returned (fnV v) ∧ PartC w' base g f r lim v (descG d) ∧ Below w.heap.size w w' :=
  (desc_calls g d w).mono fun e w' ⟨he, h1, h2, hb⟩ => ⟨_, he, DEnv.part ⟨h1, h2⟩ hd (env_ne g f r w hfp (Nat.le_refl _)) (env_ne g f r w hfp (by omega)), hb⟩
def bodVal (b : Nat) (g : Nat) (cc : Array Value) (A : Option Addr) (n : Nat) (c : Nat) : Nat → Value → Value
  | 0, _ => .pointer (some ⟨g, 0, none⟩)
  | 1, _ => .pointer (some ⟨b + 1, 2, none⟩)
  | 2, _ => .agg cc
  | 3, k => k
  | 4, _ => .pointer (some ⟨g, 0, none⟩)
  | 5, _ => .pointer (some ⟨b + 1, 37, none⟩)
  | 6, _ => .slice A n c
  | 7, k => k
  | 8, k => k
  | 9, k => k
  | _, _ => undef
set_option maxRecDepth 20000 in
set_option maxHeartbeats 2000000 in
theorem ptBody1 (base g f : Nat) (r : Option Nat) (lim : Nat) (s0 : WS) (w : World) (b B : Nat) (m : MM) (v1 v2 : Value) (hm : MOK m) (hi : MIn w B m v1 v2) (h : WrB w base g f r lim s0) (h0 : Blk w b 52 #[.pointer (some ⟨g, 0, none⟩)]) (h1 : Blk w (b + 1) 28 (mcs m v1 v2).toArray) :
    Calls Try.prog 60 (bxFn 0 b).cap w fun e w' => e = .returned (.tuple #[]) ∧ PtPost w base g f r lim ((descG m.c ++ listG m.l).foldl (putW lim) s0) w' := by
  have HW := hid h
  have hfp : ∀ x ∈ fpw g f r, x < w.heap.size := fun x hx => (h.fp_lt x hx).2
  have fpK := hid (fun W (hb : Below w.heap.size w W) => (fun x hx => Nat.lt_of_lt_of_le (hfp x hx) hb.size : ∀ x ∈ fpw g f r, x < W.heap.size))
  obtain ⟨h32, A, c, A2, c2, e1, e2, hs1, hs2, hc1, hc2⟩ := hi
  have HSI := hid (size_desc h32)
  have HM1 := hid (fun W => desc_part base g f r lim m.c W hm.1)
  have HM2 := hid (fun W (hb : Below w.heap.size w W) => descs_calls base g f r lim B m.l.length c A m.l W (hs1.keep hb) hm.2.2.1 hm.2.2.2.2.2.1)
  have HC := hid (fun W (hb : Below w.heap.size w W) => (⟨(h0.keep hb).cell 0 rfl, (h1.keep hb).cell 37 (by rw [List.getElem?_toArray]; exact mcs_37 h32 _ _), by have := h1.keep hb; rw [mcs_part] at this; exact this⟩ : W.cell? ⟨b, 0, none⟩ = some (.pointer (some ⟨g, 0, none⟩)) ∧ W.cell? ⟨b + 1, 37, none⟩ = some v1 ∧ Blk W (b + 1) 28 (part [.int .i64 m.k, .string (strB m.t)] (dcs m.c) [v1, v2])))
  rw [e1] at HC
  have HF := hid (show (descG m.c ++ listG m.l).foldl (putW lim) s0 = (([descG m.c, listG m.l] : List (List (List Item))).flatten.foldl (putW lim) s0) from by simp)
  generalize (descG m.c ++ listG m.l).foldl (putW lim) s0 = S' at HF ⊢
  generalize descG m.c = G0 at HM1 HF
  generalize listG m.l = G1 at HM2 HF
  generalize hcc : (dcs m.c).toArray = cc at HM1
  have HCC := hid hcc
  generalize m.l.length = n at HM2 HC
  clear h h0 h1 hm hs1 hs2 hc1 hc2 e1 e2 hfp hcc h32
  unfold bxFn
  dsimp only
  go_enter Try.func60, Try.ntmps60
  go_wp2_with fail
  refine wp_region_invG 12 (.pointer none) (bodVal b g cc A n c) (PtS w base g f r lim s0 [(3, G0), (7, G1)] 8 9) (by kernel_rfl) (by kernel_rfl) (by exact Nat.le_refl 12) ?_ ?_ ?_
  · exact PtS.start 10 HW.out _ (by simp) (by decide)
  · intro i o f gh a W hi hf hdep hsame hcl hval hS
    rcases i with _ | _ | _ | _ | _ | _ | _ | _ | _ | _ | i
    all_goals simp only [List.getElem?_cons_succ, List.getElem?_cons_zero, List.getElem?_nil, Option.some.injEq, reduceCtorEq] at hi
    all_goals subst hi
    · have E0 : a.tmps[0]? = some (.pointer (some ⟨b, 0, none⟩)) := (same_of hsame 0 (by rfl)).trans rfl
      have n3 := not_yet hcl hf 3 (by rfl)
      have n8 := not_yet hcl n3 8 (by rfl)
      have n9 := not_yet hcl n8 9 (by rfl)
      have hB0 := hS.pre n9
      have hCC := HC.out W hB0
      obtain ⟨c0, c1, -⟩ := hCC
      refine g_plain rfl ?_
      exact does_value (w' := W) (v := .pointer (some ⟨g, 0, none⟩)) (by go_simp) ⟨(.pointer none), .inr rfl, (hS.step (Below.refl _ _) 0 (.pointer none) (by decide) (by decide) n9 (by simp))⟩
    · have E1 : a.tmps[1]? = some (.pointer (some ⟨b + 1, 0, none⟩)) := (same_of hsame 1 (by rfl)).trans rfl
      have n2 := not_yet hcl hf 2 (by rfl)
      have n3 := not_yet hcl n2 3 (by rfl)
      have n8 := not_yet hcl n3 8 (by rfl)
      have n9 := not_yet hcl n8 9 (by rfl)
      have hB0 := hS.pre n9
      have hCC := HC.out W hB0
      obtain ⟨c0, c1, -⟩ := hCC
      refine g_plain rfl ?_
      exact does_value (w' := W) (v := .pointer (some ⟨b + 1, 2, none⟩)) (by go_simp) ⟨(.pointer none), .inr rfl, (hS.step (Below.refl _ _) 1 (.pointer none) (by decide) (by decide) n9 (by simp))⟩
    · have E3 := hval 1 _ 3 rfl rfl (dep_of hdep 1 (by rfl))
      unfold bodVal at E3
      have n3 := not_yet hcl hf 3 (by rfl)
      have n8 := not_yet hcl n3 8 (by rfl)
      have n9 := not_yet hcl n8 9 (by rfl)
      have hB0 := hS.pre n9
      have hCC := HC.out W hB0
      refine g_plain rfl ?_
      exact does_load_part 25 _ rfl (b + 1) 2 (by rw [eval_getD, E3]; rfl) (hCC.2.2) (by rfl) Try.underlying25 rfl HSI.out ⟨(.pointer none), .inr (congrArg Value.agg HCC.out), hS.step (Below.refl _ _) 2 (.pointer none) (by decide) (by decide) n9 (by simp)⟩
    · have E2 := hval 0 _ 2 rfl rfl (dep_of hdep 0 (by rfl))
      have E4 := hval 2 _ 4 rfl rfl (dep_of hdep 2 (by rfl))
      unfold bodVal at E2 E4
      have n8 := not_yet hcl hf 8 (by rfl)
      have n9 := not_yet hcl n8 9 (by rfl)
      have hB0 := hS.pre n9
      have hCC := HC.out W hB0
      refine g_plain rfl ?_
      refine does_call 61 #[.pointer (some ⟨g, 0, none⟩), .agg cc] (by go_simp) ((HM1.out W (fpK.out W hB0)).mono ?_)
      rintro _ W' ⟨v, rfl, hp, hb⟩
      exact ⟨fnV v, rfl, fnV v, .inr rfl, hS.call 3 _ (by simp) (by simp) hf hb v hp⟩
    · have E0 : a.tmps[0]? = some (.pointer (some ⟨b, 0, none⟩)) := (same_of hsame 0 (by rfl)).trans rfl
      have n7 := not_yet hcl hf 7 (by rfl)
      have n8 := not_yet hcl n7 8 (by rfl)
      have n9 := not_yet hcl n8 9 (by rfl)
      have hB0 := hS.pre n9
      have hCC := HC.out W hB0
      obtain ⟨c0, c1, -⟩ := hCC
      refine g_plain rfl ?_
      exact does_value (w' := W) (v := .pointer (some ⟨g, 0, none⟩)) (by go_simp) ⟨(.pointer none), .inr rfl, (hS.step (Below.refl _ _) 4 (.pointer none) (by decide) (by decide) n9 (by simp))⟩
    · have E1 : a.tmps[1]? = some (.pointer (some ⟨b + 1, 0, none⟩)) := (same_of hsame 1 (by rfl)).trans rfl
      have n6 := not_yet hcl hf 6 (by rfl)
      have n7 := not_yet hcl n6 7 (by rfl)
      have n8 := not_yet hcl n7 8 (by rfl)
      have n9 := not_yet hcl n8 9 (by rfl)
      have hB0 := hS.pre n9
      have hCC := HC.out W hB0
      obtain ⟨c0, c1, -⟩ := hCC
      refine g_plain rfl ?_
      exact does_value (w' := W) (v := .pointer (some ⟨b + 1, 37, none⟩)) (by go_simp) ⟨(.pointer none), .inr rfl, (hS.step (Below.refl _ _) 5 (.pointer none) (by decide) (by decide) n9 (by simp))⟩
    · have E7 := hval 5 _ 7 rfl rfl (dep_of hdep 5 (by rfl))
      unfold bodVal at E7
      have n7 := not_yet hcl hf 7 (by rfl)
      have n8 := not_yet hcl n7 8 (by rfl)
      have n9 := not_yet hcl n8 9 (by rfl)
      have hB0 := hS.pre n9
      have hCC := HC.out W hB0
      obtain ⟨c0, c1, -⟩ := hCC
      refine g_plain rfl ?_
      exact does_value (w' := W) (v := .slice A n c) (by go_simp) ⟨(.pointer none), .inr rfl, (hS.step (Below.refl _ _) 6 (.pointer none) (by decide) (by decide) n9 (by simp))⟩
    · have E6 := hval 4 _ 6 rfl rfl (dep_of hdep 4 (by rfl))
      have E8 := hval 6 _ 8 rfl rfl (dep_of hdep 6 (by rfl))
      unfold bodVal at E6 E8
      have n8 := not_yet hcl hf 8 (by rfl)
      have n9 := not_yet hcl n8 9 (by rfl)
      have hB0 := hS.pre n9
      have hCC := HC.out W hB0
      refine g_plain rfl ?_
      refine does_call 59 #[.pointer (some ⟨g, 0, none⟩), .slice A n c] (by go_simp) ((HM2.out W hB0 (fpK.out W hB0)).mono ?_)
      rintro _ W' ⟨v, rfl, hp, hb⟩
      exact ⟨fnV v, rfl, fnV v, .inr rfl, hS.call 7 _ (by simp) (by simp) hf hb v hp⟩
    · have E5 := hval 3 _ 5 rfl rfl (dep_of hdep 3 (by rfl))
      have E9 := hval 7 _ 9 rfl rfl (dep_of hdep 7 (by rfl))
      unfold bodVal at E5 E9
      have n9 := not_yet hcl hf 9 (by rfl)
      have hB0 := hS.pre n9
      have hCC := HC.out W hB0
      refine g_plain rfl ?_
      obtain ⟨x3, e3, -⟩ := hS.pt n9 (3, G0) (by simp) (dep_of hdep 3 (by rfl))
      obtain ⟨x7, e7, -⟩ := hS.pt n9 (7, G1) (by simp) (dep_of hdep 7 (by rfl))
      dsimp only at e3 e7
      have hBU := hS.build hf (by simp only [List.forall_mem_cons]; exact ⟨dep_of hdep 3 (by rfl), dep_of hdep 7 (by rfl), by simp⟩) 2 rfl
      simp only [List.map_cons, List.map_nil, e3, e7] at hBU
      rw [e3] at E5
      rw [e7] at E9
      unfold fnV at E5 E9 hBU
      exact does_value (w' := W.alloc (.cells #[.func (.func x3.k) x3.first x3.cap, .func (.func x7.k) x7.first x7.cap] 60)) (v := .slice (some ⟨W.heap.size, 0, none⟩) 2 2) (by go_simp) ⟨.slice (some ⟨W.heap.size, 0, none⟩) 2 2, .inr rfl, hBU⟩
    · have E10 := hval 8 _ 10 rfl rfl (dep_of hdep 8 (by rfl))
      unfold bodVal at E10
      refine g_plain rfl ?_
      obtain ⟨q, eq, hc⟩ := hS.write (dep_of hdep 8 (by rfl)) hf (by simp) 2 rfl
      rw [eq] at E10
      refine does_call 32 #[.slice (some ⟨q, 0, none⟩) 2 2] (by go_simp) (hc.mono ?_)
      rintro _ W' ⟨v, rfl, rfl, hs⟩
      exact ⟨_, rfl, _, .inr rfl, hs⟩
  · intro gh W hS
    have HP := hid (hS.post rfl).2
    simp only [List.map_cons, List.map_nil] at HP
    rw [← HF.out] at HP
    clear hS HM1 HM2 HC
    simp only [putAll, bodVal, Nat.reduceAdd, Nat.zero_add, Act.put, List.setIfInBounds_toArray, List.set_cons_zero, List.set_cons_succ]
    go_wp2_with fail
    go_end0
    exact ⟨rfl, HP.out⟩
theorem enters_body1 : EntersV 60 := enters_of Try.func60 (by kernel_rfl) rfl
set_option maxHeartbeats 1000000 in
theorem body_calls (base g f : Nat) (r : Option Nat) (lim : Nat) (B : Nat) (m : MM) (v1 v2 : Value) (w : World) (hm : MOK m) (hi : MIn w B m v1 v2) (hfp : ∀ x ∈ fpw g f r, B ≤ x ∧ x < w.heap.size) :
    Calls Try.prog 35 #[.pointer (some ⟨g, 0, none⟩), .agg (mcs m v1 v2).toArray] w fun e w' => ∃ v, e = .returned (fnV v) ∧ PartC w' base g f r lim v (bodyG m) ∧ Below w.heap.size w w' := by
  obtain ⟨k0, k1, hb⟩ := two_new w #[.pointer (some ⟨g, 0, none⟩)] (mcs m v1 v2).toArray 52 28
  have hi2 := hi.keep hb
  have hfp2 : ∀ x ∈ fpw g f r, x < w.heap.size := fun x hx => (hfp x hx).2
  have h32 := hi.1
  have c0 := k0.cell 0 rfl
  have d0 := k1.cell 0 (by rw [List.getElem?_toArray]; exact mcs_0 m v1 v2)
  have d38 := k1.cell 38 (by rw [List.getElem?_toArray]; exact mcs_38 h32 v1 v2)
  by_cases h4 : m.k = 4
  · have e4 : bodyG m = listG m.u := if_pos h4
    rw [e4]
    rw [h4] at d0
    obtain ⟨-, A, c, A2, c2, e1, e2, hs1, hs2, hc1, hc2⟩ := hi2
    clear k0 k1
    generalize (mcs m v1 v2).toArray = cm at c0 d0 d38 hs1 hs2 hb ⊢
    rw [e2] at d38
    have HD := hid (descs_calls base g f r lim B m.u.length c2 A2 m.u _ hs2 hm.2.2.2.1 hm.2.2.2.2.2.2 (fun x hx => Nat.lt_of_lt_of_le (hfp2 x hx) hb.size))
    have HB := hid hb
    generalize listG m.u = G at HD ⊢
    generalize m.u.length = n at HD d38
    clear hb hs1 hs2 hi hm hfp hfp2 e1 e2 hc1 hc2 e4 h4 h32
    go_enter Try.func35, Try.ntmps35
    go_wp2_with fail
    refine HD.out.mono ?_
    rintro _ w2 ⟨v, rfl, hp, hb2⟩
    have HP := hid hp
    have HB2 := hid (HB.out.trans (hb2.mono HB.out.size))
    unfold fnV
    clear hp hb2 HD
    go_wp2_with fail
    go_ret
    exact ⟨v, rfl, HP.out, HB2.out⟩
  · have e4 : bodyG m = descG m.c ++ listG m.l := if_neg h4
    rw [e4]
    have hP : PartC ((w.alloc (.cells #[.pointer (some ⟨g, 0, none⟩)] 52)).alloc (.cells (mcs m v1 v2).toArray 28)) base g f r lim (bxFn 60 w.heap.size) (descG m.c ++ listG m.l) :=
      ⟨enters_body1, fun w2 r2 s2 hc _ hw => ptBody1 base g f r2 lim s2 w2 w.heap.size B m v1 v2 hm (hi2.chg hc (fun x hx => (hfp x hx).1)) hw (k0.chg hc (env_ne g f r w hfp2 (Nat.le_refl _))) (k1.chg hc (env_ne g f r w hfp2 (by omega)))⟩
    have HP := hid hP
    have HB := hid hb
    generalize descG m.c ++ listG m.l = G at HP ⊢
    generalize (mcs m v1 v2).toArray = cm at d0 HP HB ⊢
    generalize m.k = k at d0 h4
    clear k0 k1 hb hi hm hfp hfp2 e4 h32 hi2 hP c0 d38
    go_enter Try.func35, Try.ntmps35
    go_wp2_with fail
    go_ret
    exact ⟨bxFn 60 w.heap.size, rfl, HP.out, HB.out⟩
end Go.Proofs.Ytljnpaikjljmbaa
