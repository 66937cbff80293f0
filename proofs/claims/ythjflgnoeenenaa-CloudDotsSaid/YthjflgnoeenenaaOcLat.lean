/- CloudLattice: the law's walk. Written by tools/mkol.py. -/
import Derived.Test.YthjflgnoeenenaaOcKnown
namespace Go.Proofs.Ythjflgnoeenenaa
open Go Go.RowKit Go.Shelf Cl

def longC (n m : Nat) : Bool := decide (20 < n) || decide (30 < m)
theorem longC_no {n m : Nat} (h : longC n m = false) : n ≤ 20 ∧ m ≤ 30 := by unfold longC at h; simp at h; omega
theorem longC_calls (n c m e : Nat) (A B : Option Addr) (w : World) : Calls Try.prog 8 #[.agg #[.slice A n c, .slice B m e]] w fun x w' => x = .returned (.bool (longC n m)) ∧ Below w.heap.size w w' := by
  have hb := below_new w (.cells #[.slice A n c, .slice B m e] 25)
  have hk := Blk.new w 25 #[.slice A n c, .slice B m e]
  have c0 := hk.cell 0 rfl; have c1 := hk.cell 1 rfl
  have HB := hid hb
  clear hb hk
  by_cases h : 20 < n
  · have HE := hid (show true = longC n m from by unfold longC; simp [h])
    have h2 : (20 : Int) < (n : Int) := by omega
    go_enter Try.func8, Try.ntmps8
    go_wp2_with fail
    go_ret
    exact ⟨ret_bool HE.out, HB.out⟩
  · have h2 : ¬ (20 : Int) < (n : Int) := by omega
    by_cases k : 30 < m
    · have HE := hid (show true = longC n m from by unfold longC; simp [k])
      have k2 : (30 : Int) < (m : Int) := by omega
      go_enter Try.func8, Try.ntmps8
      go_wp2_with fail
      go_ret
      exact ⟨ret_bool HE.out, HB.out⟩
    · have HE := hid (show false = longC n m from by unfold longC; simp [h, k])
      have k2 : ¬ (30 : Int) < (m : Int) := by omega
      go_enter Try.func8, Try.ntmps8
      go_wp2_with fail
      go_ret
      exact ⟨ret_bool HE.out, HB.out⟩
theorem three_clouds (w : World) (cs ds es : Array Value) : ∃ w3, w3 = ((w.alloc (.cells cs 25)).alloc (.cells ds 25)).alloc (.cells es 25) ∧ Blk w3 w.heap.size 25 cs ∧ Blk w3 (w.heap.size + 1) 25 ds ∧ Blk w3 (w.heap.size + 1 + 1) 25 es ∧ Below w.heap.size w w3 := by
  obtain ⟨w2, hw2, k1, k2, hb⟩ := two_clouds w cs ds
  have hb3 := below_new w2 (.cells es 25)
  have k3 := Blk.new w2 25 es
  have hs : w2.heap.size = w.heap.size + 1 + 1 := by rw [hw2]; simp
  rw [hs] at k3
  exact ⟨_, by rw [hw2], k1.keep hb3, k2.keep hb3, k3, hb.trans (hb3.mono hb.size)⟩
theorem same_true {v : List Int} {d : List Dt} : decide ((v, d) = (v, d)) = true := decide_eq_true rfl
theorem leq_true {q : Bool} : (decide ((q, (0 : Int)).2 = 0) && ((q, (0 : Int)).1 == q)) = true := by simp
structure LatM (a b c : Cd) (v8 : List Int) (d8 : List Dt) (v14 : List Int) (d14 : List Dt) (v16 : List Int) (d16 : List Dt) (qq : Bool) : Prop where
  ab : joinB a b = ((v8, d8), 0)
  ba : joinB b a = ((v8, d8), 0)
  aa : joinB a a = (a, 0)
  abc : joinB (v8, d8) c = ((v14, d14), 0)
  bc : joinB b c = ((v16, d16), 0)
  abc2 : joinB a (v16, d16) = ((v14, d14), 0)
  ok : checkC (v8, d8) = 0
  q : decide ((v8, d8) = b) = qq
  leq : leqB a b = (qq, 0)
  leqa : leqB a (v8, d8) = (true, 0)
  leqb : leqB b (v8, d8) = (true, 0)
  l8 : v8.length ≤ 20
  l14 : v14.length ≤ 20
  l16 : v16.length ≤ 20
  m8 : d8.length ≤ 100
  m14 : d14.length ≤ 100
  m16 : d16.length ≤ 100
theorem lat_math {a b c : Cd} (ha : checkC a = 0) (hb : checkC b = 0) (hc : checkC c = 0) (la : a.2.length ≤ 30) (lb : b.2.length ≤ 30) (lc : c.2.length ≤ 30) : ∃ v8 d8 v14 d14 v16 d16 qq, LatM a b c v8 d8 v14 d14 v16 d16 qq := by
  have oa := check_ok ha; have ob := check_ok hb; have oc := check_ok hc
  have oab := join_ok oa ob; have obc := join_ok ob oc; have oabc := join_ok oab oc
  have l1 := join_len a b; have l2 := join_len b c; have l3 := join_len (joinC a b) c
  have cab := check_of oab (by omega); have cbc := check_of obc (by omega)
  have hl : ∀ {x y : Cd}, checkC x = 0 → checkC y = 0 → leqB x y = (decide (joinC x y = y), 0) := fun {x y} hx hy => by unfold leqB; rw [if_pos ((both_iff x y).2 ⟨hx, hy⟩)]
  have pa : joinC a (joinC a b) = joinC a b := (part_iff oa oab).1 fun d hd => (join_in oa ob d).2 (.inl hd)
  have pb : joinC b (joinC a b) = joinC a b := (part_iff ob oab).1 fun d hd => (join_in oa ob d).2 (.inr hd)
  refine ⟨(joinC a b).1, (joinC a b).2, (joinC (joinC a b) c).1, (joinC (joinC a b) c).2, (joinC b c).1, (joinC b c).2, decide (joinC a b = b), ?_, ?_, ?_, ?_, ?_, ?_, cab, rfl, hl ha hb, ?_, ?_, ?_, ?_, ?_, by omega, by omega, by omega⟩
  · exact joinB_ok ha hb (by omega)
  · rw [joinB_ok hb ha (by omega), join_comm ob oa]
  · rw [joinB_ok ha ha (by omega), join_self oa]
  · exact joinB_ok cab hc (by show (joinC a b).2.length + _ ≤ _; omega)
  · exact joinB_ok hb hc (by omega)
  · show joinB a (joinC b c) = _
    rw [joinB_ok ha cbc (by omega), ← join_assoc oa ob oc]
  · show leqB a (joinC a b) = _
    rw [hl ha cab, decide_eq_true pa]
  · show leqB b (joinC a b) = _
    rw [hl hb cab, decide_eq_true pb]
  · have := oab.rg.1; omega
  · have := oabc.rg.1; omega
  · have := obc.rg.1; omega
set_option maxRecDepth 100000 in
set_option maxHeartbeats 8000000 in
theorem lattice_calls (na ca ma ea nb cb mb eb nc cc mc ec : Nat) (Aa Ba Ab Bb Ac Bc : Option Addr) (va vb vc : List Int) (da db dc : List Dt) (w : World) (h1 : NI w Aa na va) (h2 : ND w Ba ma da) (h3 : NI w Ab nb vb) (h4 : ND w Bb mb db) (h5 : NI w Ac nc vc) (h6 : ND w Bc mc dc) (hac : na ≤ ca) (hae : ma ≤ ea) (hbc : nb ≤ cb) (hbe : mb ≤ eb) (hcc : nc ≤ cc) (hce : mc ≤ ec) :
    Calls Try.prog 6 #[cdv Aa na ca Ba ma ea, cdv Ab nb cb Bb mb eb, cdv Ac nc cc Bc mc ec] w fun e w' => e = .returned (.bool true) ∧ Below w.heap.size w w' := by
  obtain rfl := h1.1
  obtain rfl := h2.1
  obtain rfl := h3.1
  obtain rfl := h4.1
  obtain rfl := h5.1
  obtain rfl := h6.1
  have hzc := (zero_of_info info_cloud).1
  obtain ⟨W0, hW0, k3, k4, k5, hb⟩ := three_clouds w #[.slice Aa va.length ca, .slice Ba da.length ea] #[.slice Ab vb.length cb, .slice Bb db.length eb] #[.slice Ac vc.length cc, .slice Bc dc.length ec]
  have HW0 := hid hW0; have HB := hid hb; have K3 := hid k3; have K4 := hid k4; have K5 := hid k5
  have Na := hid (h1.keep hb); have Da := hid (h2.keep hb); have Nb := hid (h3.keep hb); have Db := hid (h4.keep hb); have Nc := hid (h5.keep hb); have Dc := hid (h6.keep hb)
  obtain ⟨p3, hp3⟩ : ∃ p3, w.heap.size = p3 := ⟨_, rfl⟩
  obtain ⟨p4, hp4⟩ : ∃ p4, p3 + 1 = p4 := ⟨_, rfl⟩
  obtain ⟨p5, hp5⟩ : ∃ p5, p4 + 1 = p5 := ⟨_, rfl⟩
  have HP3 := hid hp3; have HP4 := hid hp4; have HP5 := hid hp5
  rw [hp3] at K3 K4 K5
  rw [hp4] at K4 K5
  rw [hp5] at K5
  clear h1 h2 h3 h4 h5 h6 hW0 hb k3 k4 k5 hp3 hp4 hp5
  unfold cdv
  go_enter Try.func6, Try.ntmps6
  go_wp2_with fail
  rw [← HW0.out, HP3.out, HP4.out, HP5.out]
  have hc : Calls Try.prog 5 #[] W0 (fun e w' => e = .returned (.bool true) ∧ Below W0.heap.size W0 w') := by
    have h := known_calls W0
    exact h
  have HC := hid hc
  clear hc
  go_wp2_with fail
  refine HC.out.mono ?_
  rintro e W1 ⟨rfl, hb⟩
  clear HC
  replace Na := hid (Na.out.keep hb)
  replace Da := hid (Da.out.keep hb)
  replace Nb := hid (Nb.out.keep hb)
  replace Db := hid (Db.out.keep hb)
  replace Nc := hid (Nc.out.keep hb)
  replace Dc := hid (Dc.out.keep hb)
  replace K3 := hid (K3.out.keep hb)
  replace K4 := hid (K4.out.keep hb)
  replace K5 := hid (K5.out.keep hb)
  replace HB := hid (HB.out.trans (hb.mono HB.out.size))
  clear hb
  obtain ⟨q, hq⟩ : ∃ q, longC va.length da.length = q := ⟨_, rfl⟩
  have hc : Calls Try.prog 8 #[.agg #[.slice Aa va.length ca, .slice Ba da.length ea]] W1 (fun e w' => e = .returned (.bool q) ∧ Below W1.heap.size W1 w') := by
    have h := longC_calls va.length ca da.length ea Aa Ba W1
    rw [hq] at h
    exact h
  have HC := hid hc
  clear hc
  have q0K3 := K3.out.cell 0 rfl
  have q1K3 := K3.out.cell 1 rfl
  go_wp2_with fail
  clear q0K3 q1K3
  refine HC.out.mono ?_
  rintro e W2 ⟨rfl, hb⟩
  clear HC
  replace Na := hid (Na.out.keep hb)
  replace Da := hid (Da.out.keep hb)
  replace Nb := hid (Nb.out.keep hb)
  replace Db := hid (Db.out.keep hb)
  replace Nc := hid (Nc.out.keep hb)
  replace Dc := hid (Dc.out.keep hb)
  replace K3 := hid (K3.out.keep hb)
  replace K4 := hid (K4.out.keep hb)
  replace K5 := hid (K5.out.keep hb)
  replace HB := hid (HB.out.trans (hb.mono HB.out.size))
  clear hb
  have HQ := hid hq
  clear hq
  cases q
  case true =>
    go_wp2_with fail
    go_ret
    exact ⟨rfl, HB.out⟩
  have La := hid (longC_no HQ.out)
  clear HQ
  obtain ⟨q, hq⟩ : ∃ q, longC vb.length db.length = q := ⟨_, rfl⟩
  have hc : Calls Try.prog 8 #[.agg #[.slice Ab vb.length cb, .slice Bb db.length eb]] W2 (fun e w' => e = .returned (.bool q) ∧ Below W2.heap.size W2 w') := by
    have h := longC_calls vb.length cb db.length eb Ab Bb W2
    rw [hq] at h
    exact h
  have HC := hid hc
  clear hc
  have q0K4 := K4.out.cell 0 rfl
  have q1K4 := K4.out.cell 1 rfl
  go_wp2_with fail
  clear q0K4 q1K4
  refine HC.out.mono ?_
  rintro e W3 ⟨rfl, hb⟩
  clear HC
  replace Na := hid (Na.out.keep hb)
  replace Da := hid (Da.out.keep hb)
  replace Nb := hid (Nb.out.keep hb)
  replace Db := hid (Db.out.keep hb)
  replace Nc := hid (Nc.out.keep hb)
  replace Dc := hid (Dc.out.keep hb)
  replace K3 := hid (K3.out.keep hb)
  replace K4 := hid (K4.out.keep hb)
  replace K5 := hid (K5.out.keep hb)
  replace HB := hid (HB.out.trans (hb.mono HB.out.size))
  clear hb
  have HQ := hid hq
  clear hq
  cases q
  case true =>
    go_wp2_with fail
    go_ret
    exact ⟨rfl, HB.out⟩
  have Lb := hid (longC_no HQ.out)
  clear HQ
  obtain ⟨q, hq⟩ : ∃ q, longC vc.length dc.length = q := ⟨_, rfl⟩
  have hc : Calls Try.prog 8 #[.agg #[.slice Ac vc.length cc, .slice Bc dc.length ec]] W3 (fun e w' => e = .returned (.bool q) ∧ Below W3.heap.size W3 w') := by
    have h := longC_calls vc.length cc dc.length ec Ac Bc W3
    rw [hq] at h
    exact h
  have HC := hid hc
  clear hc
  have q0K5 := K5.out.cell 0 rfl
  have q1K5 := K5.out.cell 1 rfl
  go_wp2_with fail
  clear q0K5 q1K5
  refine HC.out.mono ?_
  rintro e W4 ⟨rfl, hb⟩
  clear HC
  replace Na := hid (Na.out.keep hb)
  replace Da := hid (Da.out.keep hb)
  replace Nb := hid (Nb.out.keep hb)
  replace Db := hid (Db.out.keep hb)
  replace Nc := hid (Nc.out.keep hb)
  replace Dc := hid (Dc.out.keep hb)
  replace K3 := hid (K3.out.keep hb)
  replace K4 := hid (K4.out.keep hb)
  replace K5 := hid (K5.out.keep hb)
  replace HB := hid (HB.out.trans (hb.mono HB.out.size))
  clear hb
  have HQ := hid hq
  clear hq
  cases q
  case true =>
    go_wp2_with fail
    go_ret
    exact ⟨rfl, HB.out⟩
  have Lc := hid (longC_no HQ.out)
  clear HQ
  obtain ⟨z, hz⟩ : ∃ z, checkC (va, da) = z := ⟨_, rfl⟩
  have hc : Calls Try.prog 18 #[.agg #[.slice Aa va.length ca, .slice Ba da.length ea]] W4 (fun e w' => e = .returned (.int .i64 z) ∧ Below W4.heap.size W4 w') := by
    have h := ocCheck_calls va.length ca da.length ea Aa Ba va da W4 Na.out Da.out (by have := La.out; omega) (by have := La.out; omega) hac
    rw [hz] at h
    exact h
  have HC := hid hc
  clear hc
  have q0K3 := K3.out.cell 0 rfl
  have q1K3 := K3.out.cell 1 rfl
  go_wp2_with fail
  clear q0K3 q1K3
  refine HC.out.mono ?_
  rintro e W5 ⟨rfl, hb⟩
  clear HC
  replace Na := hid (Na.out.keep hb)
  replace Da := hid (Da.out.keep hb)
  replace Nb := hid (Nb.out.keep hb)
  replace Db := hid (Db.out.keep hb)
  replace Nc := hid (Nc.out.keep hb)
  replace Dc := hid (Dc.out.keep hb)
  replace K3 := hid (K3.out.keep hb)
  replace K4 := hid (K4.out.keep hb)
  replace K5 := hid (K5.out.keep hb)
  replace HB := hid (HB.out.trans (hb.mono HB.out.size))
  clear hb
  have HZ := hid hz
  clear hz
  by_cases h0 : z = 0
  case neg =>
    have hzq : (z == 0) = false := by simpa using h0
    go_wp2_with fail
    go_ret
    exact ⟨rfl, HB.out⟩
  subst h0
  have Oa := HZ
  clear HZ
  obtain ⟨z, hz⟩ : ∃ z, checkC (vb, db) = z := ⟨_, rfl⟩
  have hc : Calls Try.prog 18 #[.agg #[.slice Ab vb.length cb, .slice Bb db.length eb]] W5 (fun e w' => e = .returned (.int .i64 z) ∧ Below W5.heap.size W5 w') := by
    have h := ocCheck_calls vb.length cb db.length eb Ab Bb vb db W5 Nb.out Db.out (by have := Lb.out; omega) (by have := Lb.out; omega) hbc
    rw [hz] at h
    exact h
  have HC := hid hc
  clear hc
  have q0K4 := K4.out.cell 0 rfl
  have q1K4 := K4.out.cell 1 rfl
  go_wp2_with fail
  clear q0K4 q1K4
  refine HC.out.mono ?_
  rintro e W6 ⟨rfl, hb⟩
  clear HC
  replace Na := hid (Na.out.keep hb)
  replace Da := hid (Da.out.keep hb)
  replace Nb := hid (Nb.out.keep hb)
  replace Db := hid (Db.out.keep hb)
  replace Nc := hid (Nc.out.keep hb)
  replace Dc := hid (Dc.out.keep hb)
  replace K3 := hid (K3.out.keep hb)
  replace K4 := hid (K4.out.keep hb)
  replace K5 := hid (K5.out.keep hb)
  replace HB := hid (HB.out.trans (hb.mono HB.out.size))
  clear hb
  have HZ := hid hz
  clear hz
  by_cases h0 : z = 0
  case neg =>
    have hzq : (z == 0) = false := by simpa using h0
    go_wp2_with fail
    go_ret
    exact ⟨rfl, HB.out⟩
  subst h0
  have Ob := HZ
  clear HZ
  obtain ⟨z, hz⟩ : ∃ z, checkC (vc, dc) = z := ⟨_, rfl⟩
  have hc : Calls Try.prog 18 #[.agg #[.slice Ac vc.length cc, .slice Bc dc.length ec]] W6 (fun e w' => e = .returned (.int .i64 z) ∧ Below W6.heap.size W6 w') := by
    have h := ocCheck_calls vc.length cc dc.length ec Ac Bc vc dc W6 Nc.out Dc.out (by have := Lc.out; omega) (by have := Lc.out; omega) hcc
    rw [hz] at h
    exact h
  have HC := hid hc
  clear hc
  have q0K5 := K5.out.cell 0 rfl
  have q1K5 := K5.out.cell 1 rfl
  go_wp2_with fail
  clear q0K5 q1K5
  refine HC.out.mono ?_
  rintro e W7 ⟨rfl, hb⟩
  clear HC
  replace Na := hid (Na.out.keep hb)
  replace Da := hid (Da.out.keep hb)
  replace Nb := hid (Nb.out.keep hb)
  replace Db := hid (Db.out.keep hb)
  replace Nc := hid (Nc.out.keep hb)
  replace Dc := hid (Dc.out.keep hb)
  replace K3 := hid (K3.out.keep hb)
  replace K4 := hid (K4.out.keep hb)
  replace K5 := hid (K5.out.keep hb)
  replace HB := hid (HB.out.trans (hb.mono HB.out.size))
  clear hb
  have HZ := hid hz
  clear hz
  by_cases h0 : z = 0
  case neg =>
    have hzq : (z == 0) = false := by simpa using h0
    go_wp2_with fail
    go_ret
    exact ⟨rfl, HB.out⟩
  subst h0
  have Oc := HZ
  clear HZ
  obtain ⟨v8, d8, v14, d14, v16, d16, qq, hm⟩ := lat_math Oa.out Ob.out Oc.out La.out.2 Lb.out.2 Lc.out.2
  have M := hid hm
  clear hm
  have hc : Calls Try.prog 27 #[.agg #[.slice Aa va.length ca, .slice Ba da.length ea], .agg #[.slice Ab vb.length cb, .slice Bb db.length eb]] W7 (fun e w' => ∃ V D, e = .returned (.tuple #[.agg #[V, D], .int .i64 0]) ∧ ClO W7.heap.size w' V D (v8, d8) ∧ Below W7.heap.size W7 w') := by
    have h := ocJoin_calls va.length ca da.length ea vb.length cb db.length eb Aa Ba Ab Bb va vb da db W7 Na.out Da.out Nb.out Db.out (by have := La.out.1; omega) (by have := Lb.out.1; omega) (by have := La.out.2; have := Lb.out.2; omega) hac hbc hae hbe
    rw [M.out.ab] at h
    exact h
  have HC := hid hc
  clear hc
  have q0K3 := K3.out.cell 0 rfl
  have q1K3 := K3.out.cell 1 rfl
  have q0K4 := K4.out.cell 0 rfl
  have q1K4 := K4.out.cell 1 rfl
  go_wp2_with fail
  clear q0K3 q1K3 q0K4 q1K4
  refine HC.out.mono ?_
  rintro e W8 ⟨V8, D8, rfl, ⟨ho1, ho2, -⟩, hb⟩
  clear HC
  replace Na := hid (Na.out.keep hb)
  replace Da := hid (Da.out.keep hb)
  replace Nb := hid (Nb.out.keep hb)
  replace Db := hid (Db.out.keep hb)
  replace Nc := hid (Nc.out.keep hb)
  replace Dc := hid (Dc.out.keep hb)
  replace K3 := hid (K3.out.keep hb)
  replace K4 := hid (K4.out.keep hb)
  replace K5 := hid (K5.out.keep hb)
  replace HB := hid (HB.out.trans (hb.mono HB.out.size))
  clear hb
  obtain ⟨A8, c8, rfl, ll, hf, -⟩ := ho1.ni
  obtain ⟨B8, e8, rfl, kk, hg, -⟩ := ho2.nd
  have l8 := hid ll; have k8 := hid kk
  clear ll kk
  have F8 : Hid (NI W8 A8 v8.length v8) := hf
  have G8 : Hid (ND W8 B8 d8.length d8) := hg
  clear ho1 ho2 hf hg
  have hk3 := Blk.new W8 25 #[.slice none 0 0, .slice none 0 0]
  have HK3 := hid hk3
  have HK4 := hid (hk3.setRow #[.slice A8 v8.length c8, .slice B8 d8.length e8])
  have HB4 := hid (show Below W8.heap.size W8 ((W8.alloc (.cells #[.slice none 0 0, .slice none 0 0] 25)).setRow W8.heap.size #[.slice A8 v8.length c8, .slice B8 d8.length e8]) from (below_new _ _).trans (below_of_grown (grown_setRow _ _ _) (by rw [size_new]; omega) (fun g e => by cases e; exact Nat.le_refl _)))
  clear hk3
  go_wp2_with (refine wpList_store_blk rfl _ _ _ rfl W8.heap.size #[.slice A8 v8.length c8, .slice B8 d8.length e8] rfl rfl _ _ HK3.out (by kernel_rfl) rfl (by rfl) ?_; refine Held.go ?_)
  unfold Held
  obtain ⟨W9, hW4⟩ : ∃ WX, WX = (W8.alloc (.cells #[.slice none 0 0, .slice none 0 0] 25)).setRow W8.heap.size #[.slice A8 v8.length c8, .slice B8 d8.length e8] := ⟨_, rfl⟩
  rw [← hW4] at HK4 HB4 ⊢
  clear hW4 HK3
  obtain ⟨g8, hg⟩ : ∃ g, W8.heap.size = g := ⟨_, rfl⟩
  rw [hg] at HK4 ⊢
  clear hg
  have hb := HB4.out
  clear HB4
  replace Na := hid (Na.out.keep hb)
  replace Da := hid (Da.out.keep hb)
  replace Nb := hid (Nb.out.keep hb)
  replace Db := hid (Db.out.keep hb)
  replace Nc := hid (Nc.out.keep hb)
  replace Dc := hid (Dc.out.keep hb)
  replace F8 := hid (F8.out.keep hb)
  replace G8 := hid (G8.out.keep hb)
  replace K3 := hid (K3.out.keep hb)
  replace K4 := hid (K4.out.keep hb)
  replace K5 := hid (K5.out.keep hb)
  replace HB := hid (HB.out.trans (hb.mono HB.out.size))
  clear hb
  have K8 := HK4
  clear HK4
  have hc : Calls Try.prog 27 #[.agg #[.slice Ab vb.length cb, .slice Bb db.length eb], .agg #[.slice Aa va.length ca, .slice Ba da.length ea]] W9 (fun e w' => ∃ V D, e = .returned (.tuple #[.agg #[V, D], .int .i64 0]) ∧ ClO W9.heap.size w' V D (v8, d8) ∧ Below W9.heap.size W9 w') := by
    have h := ocJoin_calls vb.length cb db.length eb va.length ca da.length ea Ab Bb Aa Ba vb va db da W9 Nb.out Db.out Na.out Da.out (by have := Lb.out.1; omega) (by have := La.out.1; omega) (by have := Lb.out.2; have := La.out.2; omega) hbc hac hbe hae
    rw [M.out.ba] at h
    exact h
  have HC := hid hc
  clear hc
  have q0K3 := K3.out.cell 0 rfl
  have q1K3 := K3.out.cell 1 rfl
  have q0K4 := K4.out.cell 0 rfl
  have q1K4 := K4.out.cell 1 rfl
  go_wp2_with fail
  clear q0K3 q1K3 q0K4 q1K4
  refine HC.out.mono ?_
  rintro e W10 ⟨V10, D10, rfl, ⟨ho1, ho2, -⟩, hb⟩
  clear HC
  replace Na := hid (Na.out.keep hb)
  replace Da := hid (Da.out.keep hb)
  replace Nb := hid (Nb.out.keep hb)
  replace Db := hid (Db.out.keep hb)
  replace Nc := hid (Nc.out.keep hb)
  replace Dc := hid (Dc.out.keep hb)
  replace F8 := hid (F8.out.keep hb)
  replace G8 := hid (G8.out.keep hb)
  replace K3 := hid (K3.out.keep hb)
  replace K4 := hid (K4.out.keep hb)
  replace K5 := hid (K5.out.keep hb)
  replace K8 := hid (K8.out.keep hb)
  replace HB := hid (HB.out.trans (hb.mono HB.out.size))
  clear hb
  obtain ⟨A10, c10, rfl, ll, hf, -⟩ := ho1.ni
  obtain ⟨B10, e10, rfl, kk, hg, -⟩ := ho2.nd
  have l10 := hid ll; have k10 := hid kk
  clear ll kk
  have F10 : Hid (NI W10 A10 v8.length v8) := hf
  have G10 : Hid (ND W10 B10 d8.length d8) := hg
  clear ho1 ho2 hf hg
  have hk3 := Blk.new W10 25 #[.slice none 0 0, .slice none 0 0]
  have HK3 := hid hk3
  have HK4 := hid (hk3.setRow #[.slice A10 v8.length c10, .slice B10 d8.length e10])
  have HB4 := hid (show Below W10.heap.size W10 ((W10.alloc (.cells #[.slice none 0 0, .slice none 0 0] 25)).setRow W10.heap.size #[.slice A10 v8.length c10, .slice B10 d8.length e10]) from (below_new _ _).trans (below_of_grown (grown_setRow _ _ _) (by rw [size_new]; omega) (fun g e => by cases e; exact Nat.le_refl _)))
  clear hk3
  go_wp2_with (refine wpList_store_blk rfl _ _ _ rfl W10.heap.size #[.slice A10 v8.length c10, .slice B10 d8.length e10] rfl rfl _ _ HK3.out (by kernel_rfl) rfl (by rfl) ?_; refine Held.go ?_)
  unfold Held
  obtain ⟨W11, hW4⟩ : ∃ WX, WX = (W10.alloc (.cells #[.slice none 0 0, .slice none 0 0] 25)).setRow W10.heap.size #[.slice A10 v8.length c10, .slice B10 d8.length e10] := ⟨_, rfl⟩
  rw [← hW4] at HK4 HB4 ⊢
  clear hW4 HK3
  obtain ⟨g10, hg⟩ : ∃ g, W10.heap.size = g := ⟨_, rfl⟩
  rw [hg] at HK4 ⊢
  clear hg
  have hb := HB4.out
  clear HB4
  replace Na := hid (Na.out.keep hb)
  replace Da := hid (Da.out.keep hb)
  replace Nb := hid (Nb.out.keep hb)
  replace Db := hid (Db.out.keep hb)
  replace Nc := hid (Nc.out.keep hb)
  replace Dc := hid (Dc.out.keep hb)
  replace F8 := hid (F8.out.keep hb)
  replace G8 := hid (G8.out.keep hb)
  replace F10 := hid (F10.out.keep hb)
  replace G10 := hid (G10.out.keep hb)
  replace K3 := hid (K3.out.keep hb)
  replace K4 := hid (K4.out.keep hb)
  replace K5 := hid (K5.out.keep hb)
  replace K8 := hid (K8.out.keep hb)
  replace HB := hid (HB.out.trans (hb.mono HB.out.size))
  clear hb
  have K10 := HK4
  clear HK4
  have hc : Calls Try.prog 27 #[.agg #[.slice Aa va.length ca, .slice Ba da.length ea], .agg #[.slice Aa va.length ca, .slice Ba da.length ea]] W11 (fun e w' => ∃ V D, e = .returned (.tuple #[.agg #[V, D], .int .i64 0]) ∧ ClO W11.heap.size w' V D (va, da) ∧ Below W11.heap.size W11 w') := by
    have h := ocJoin_calls va.length ca da.length ea va.length ca da.length ea Aa Ba Aa Ba va va da da W11 Na.out Da.out Na.out Da.out (by have := La.out.1; omega) (by have := La.out.1; omega) (by have := La.out.2; have := La.out.2; omega) hac hac hae hae
    rw [M.out.aa] at h
    exact h
  have HC := hid hc
  clear hc
  have q0K3 := K3.out.cell 0 rfl
  have q1K3 := K3.out.cell 1 rfl
  go_wp2_with fail
  clear q0K3 q1K3
  refine HC.out.mono ?_
  rintro e W12 ⟨V12, D12, rfl, ⟨ho1, ho2, -⟩, hb⟩
  clear HC
  replace Na := hid (Na.out.keep hb)
  replace Da := hid (Da.out.keep hb)
  replace Nb := hid (Nb.out.keep hb)
  replace Db := hid (Db.out.keep hb)
  replace Nc := hid (Nc.out.keep hb)
  replace Dc := hid (Dc.out.keep hb)
  replace F8 := hid (F8.out.keep hb)
  replace G8 := hid (G8.out.keep hb)
  replace F10 := hid (F10.out.keep hb)
  replace G10 := hid (G10.out.keep hb)
  replace K3 := hid (K3.out.keep hb)
  replace K4 := hid (K4.out.keep hb)
  replace K5 := hid (K5.out.keep hb)
  replace K8 := hid (K8.out.keep hb)
  replace K10 := hid (K10.out.keep hb)
  replace HB := hid (HB.out.trans (hb.mono HB.out.size))
  clear hb
  obtain ⟨A12, c12, rfl, ll, hf, -⟩ := ho1.ni
  obtain ⟨B12, e12, rfl, kk, hg, -⟩ := ho2.nd
  have l12 := hid ll; have k12 := hid kk
  clear ll kk
  have F12 : Hid (NI W12 A12 va.length va) := hf
  have G12 : Hid (ND W12 B12 da.length da) := hg
  clear ho1 ho2 hf hg
  have hk3 := Blk.new W12 25 #[.slice none 0 0, .slice none 0 0]
  have HK3 := hid hk3
  have HK4 := hid (hk3.setRow #[.slice A12 va.length c12, .slice B12 da.length e12])
  have HB4 := hid (show Below W12.heap.size W12 ((W12.alloc (.cells #[.slice none 0 0, .slice none 0 0] 25)).setRow W12.heap.size #[.slice A12 va.length c12, .slice B12 da.length e12]) from (below_new _ _).trans (below_of_grown (grown_setRow _ _ _) (by rw [size_new]; omega) (fun g e => by cases e; exact Nat.le_refl _)))
  clear hk3
  go_wp2_with (refine wpList_store_blk rfl _ _ _ rfl W12.heap.size #[.slice A12 va.length c12, .slice B12 da.length e12] rfl rfl _ _ HK3.out (by kernel_rfl) rfl (by rfl) ?_; refine Held.go ?_)
  unfold Held
  obtain ⟨W13, hW4⟩ : ∃ WX, WX = (W12.alloc (.cells #[.slice none 0 0, .slice none 0 0] 25)).setRow W12.heap.size #[.slice A12 va.length c12, .slice B12 da.length e12] := ⟨_, rfl⟩
  rw [← hW4] at HK4 HB4 ⊢
  clear hW4 HK3
  obtain ⟨g12, hg⟩ : ∃ g, W12.heap.size = g := ⟨_, rfl⟩
  rw [hg] at HK4 ⊢
  clear hg
  have hb := HB4.out
  clear HB4
  replace Na := hid (Na.out.keep hb)
  replace Da := hid (Da.out.keep hb)
  replace Nb := hid (Nb.out.keep hb)
  replace Db := hid (Db.out.keep hb)
  replace Nc := hid (Nc.out.keep hb)
  replace Dc := hid (Dc.out.keep hb)
  replace F8 := hid (F8.out.keep hb)
  replace G8 := hid (G8.out.keep hb)
  replace F10 := hid (F10.out.keep hb)
  replace G10 := hid (G10.out.keep hb)
  replace F12 := hid (F12.out.keep hb)
  replace G12 := hid (G12.out.keep hb)
  replace K3 := hid (K3.out.keep hb)
  replace K4 := hid (K4.out.keep hb)
  replace K5 := hid (K5.out.keep hb)
  replace K8 := hid (K8.out.keep hb)
  replace K10 := hid (K10.out.keep hb)
  replace HB := hid (HB.out.trans (hb.mono HB.out.size))
  clear hb
  have K12 := HK4
  clear HK4
  have hc : Calls Try.prog 27 #[.agg #[.slice A8 v8.length c8, .slice B8 d8.length e8], .agg #[.slice Ac vc.length cc, .slice Bc dc.length ec]] W13 (fun e w' => ∃ V D, e = .returned (.tuple #[.agg #[V, D], .int .i64 0]) ∧ ClO W13.heap.size w' V D (v14, d14) ∧ Below W13.heap.size W13 w') := by
    have h := ocJoin_calls v8.length c8 d8.length e8 vc.length cc dc.length ec A8 B8 Ac Bc v8 vc d8 dc W13 F8.out G8.out Nc.out Dc.out (by have := M.out.l8; omega) (by have := Lc.out.1; omega) (by have := M.out.m8; have := Lc.out.2; omega) l8.out hcc k8.out hce
    rw [M.out.abc] at h
    exact h
  have HC := hid hc
  clear hc
  have q0K5 := K5.out.cell 0 rfl
  have q1K5 := K5.out.cell 1 rfl
  have q0K8 := K8.out.cell 0 rfl
  have q1K8 := K8.out.cell 1 rfl
  go_wp2_with fail
  clear q0K5 q1K5 q0K8 q1K8
  refine HC.out.mono ?_
  rintro e W14 ⟨V14, D14, rfl, ⟨ho1, ho2, -⟩, hb⟩
  clear HC
  replace Na := hid (Na.out.keep hb)
  replace Da := hid (Da.out.keep hb)
  replace Nb := hid (Nb.out.keep hb)
  replace Db := hid (Db.out.keep hb)
  replace Nc := hid (Nc.out.keep hb)
  replace Dc := hid (Dc.out.keep hb)
  replace F8 := hid (F8.out.keep hb)
  replace G8 := hid (G8.out.keep hb)
  replace F10 := hid (F10.out.keep hb)
  replace G10 := hid (G10.out.keep hb)
  replace F12 := hid (F12.out.keep hb)
  replace G12 := hid (G12.out.keep hb)
  replace K3 := hid (K3.out.keep hb)
  replace K4 := hid (K4.out.keep hb)
  replace K5 := hid (K5.out.keep hb)
  replace K8 := hid (K8.out.keep hb)
  replace K10 := hid (K10.out.keep hb)
  replace K12 := hid (K12.out.keep hb)
  replace HB := hid (HB.out.trans (hb.mono HB.out.size))
  clear hb
  obtain ⟨A14, c14, rfl, ll, hf, -⟩ := ho1.ni
  obtain ⟨B14, e14, rfl, kk, hg, -⟩ := ho2.nd
  have l14 := hid ll; have k14 := hid kk
  clear ll kk
  have F14 : Hid (NI W14 A14 v14.length v14) := hf
  have G14 : Hid (ND W14 B14 d14.length d14) := hg
  clear ho1 ho2 hf hg
  have hk3 := Blk.new W14 25 #[.slice none 0 0, .slice none 0 0]
  have HK3 := hid hk3
  have HK4 := hid (hk3.setRow #[.slice A14 v14.length c14, .slice B14 d14.length e14])
  have HB4 := hid (show Below W14.heap.size W14 ((W14.alloc (.cells #[.slice none 0 0, .slice none 0 0] 25)).setRow W14.heap.size #[.slice A14 v14.length c14, .slice B14 d14.length e14]) from (below_new _ _).trans (below_of_grown (grown_setRow _ _ _) (by rw [size_new]; omega) (fun g e => by cases e; exact Nat.le_refl _)))
  clear hk3
  go_wp2_with (refine wpList_store_blk rfl _ _ _ rfl W14.heap.size #[.slice A14 v14.length c14, .slice B14 d14.length e14] rfl rfl _ _ HK3.out (by kernel_rfl) rfl (by rfl) ?_; refine Held.go ?_)
  unfold Held
  obtain ⟨W15, hW4⟩ : ∃ WX, WX = (W14.alloc (.cells #[.slice none 0 0, .slice none 0 0] 25)).setRow W14.heap.size #[.slice A14 v14.length c14, .slice B14 d14.length e14] := ⟨_, rfl⟩
  rw [← hW4] at HK4 HB4 ⊢
  clear hW4 HK3
  obtain ⟨g14, hg⟩ : ∃ g, W14.heap.size = g := ⟨_, rfl⟩
  rw [hg] at HK4 ⊢
  clear hg
  have hb := HB4.out
  clear HB4
  replace Na := hid (Na.out.keep hb)
  replace Da := hid (Da.out.keep hb)
  replace Nb := hid (Nb.out.keep hb)
  replace Db := hid (Db.out.keep hb)
  replace Nc := hid (Nc.out.keep hb)
  replace Dc := hid (Dc.out.keep hb)
  replace F8 := hid (F8.out.keep hb)
  replace G8 := hid (G8.out.keep hb)
  replace F10 := hid (F10.out.keep hb)
  replace G10 := hid (G10.out.keep hb)
  replace F12 := hid (F12.out.keep hb)
  replace G12 := hid (G12.out.keep hb)
  replace F14 := hid (F14.out.keep hb)
  replace G14 := hid (G14.out.keep hb)
  replace K3 := hid (K3.out.keep hb)
  replace K4 := hid (K4.out.keep hb)
  replace K5 := hid (K5.out.keep hb)
  replace K8 := hid (K8.out.keep hb)
  replace K10 := hid (K10.out.keep hb)
  replace K12 := hid (K12.out.keep hb)
  replace HB := hid (HB.out.trans (hb.mono HB.out.size))
  clear hb
  have K14 := HK4
  clear HK4
  have hc : Calls Try.prog 27 #[.agg #[.slice Ab vb.length cb, .slice Bb db.length eb], .agg #[.slice Ac vc.length cc, .slice Bc dc.length ec]] W15 (fun e w' => ∃ V D, e = .returned (.tuple #[.agg #[V, D], .int .i64 0]) ∧ ClO W15.heap.size w' V D (v16, d16) ∧ Below W15.heap.size W15 w') := by
    have h := ocJoin_calls vb.length cb db.length eb vc.length cc dc.length ec Ab Bb Ac Bc vb vc db dc W15 Nb.out Db.out Nc.out Dc.out (by have := Lb.out.1; omega) (by have := Lc.out.1; omega) (by have := Lb.out.2; have := Lc.out.2; omega) hbc hcc hbe hce
    rw [M.out.bc] at h
    exact h
  have HC := hid hc
  clear hc
  have q0K4 := K4.out.cell 0 rfl
  have q1K4 := K4.out.cell 1 rfl
  have q0K5 := K5.out.cell 0 rfl
  have q1K5 := K5.out.cell 1 rfl
  go_wp2_with fail
  clear q0K4 q1K4 q0K5 q1K5
  refine HC.out.mono ?_
  rintro e W16 ⟨V16, D16, rfl, ⟨ho1, ho2, -⟩, hb⟩
  clear HC
  replace Na := hid (Na.out.keep hb)
  replace Da := hid (Da.out.keep hb)
  replace Nb := hid (Nb.out.keep hb)
  replace Db := hid (Db.out.keep hb)
  replace Nc := hid (Nc.out.keep hb)
  replace Dc := hid (Dc.out.keep hb)
  replace F8 := hid (F8.out.keep hb)
  replace G8 := hid (G8.out.keep hb)
  replace F10 := hid (F10.out.keep hb)
  replace G10 := hid (G10.out.keep hb)
  replace F12 := hid (F12.out.keep hb)
  replace G12 := hid (G12.out.keep hb)
  replace F14 := hid (F14.out.keep hb)
  replace G14 := hid (G14.out.keep hb)
  replace K3 := hid (K3.out.keep hb)
  replace K4 := hid (K4.out.keep hb)
  replace K5 := hid (K5.out.keep hb)
  replace K8 := hid (K8.out.keep hb)
  replace K10 := hid (K10.out.keep hb)
  replace K12 := hid (K12.out.keep hb)
  replace K14 := hid (K14.out.keep hb)
  replace HB := hid (HB.out.trans (hb.mono HB.out.size))
  clear hb
  obtain ⟨A16, c16, rfl, ll, hf, -⟩ := ho1.ni
  obtain ⟨B16, e16, rfl, kk, hg, -⟩ := ho2.nd
  have l16 := hid ll; have k16 := hid kk
  clear ll kk
  have F16 : Hid (NI W16 A16 v16.length v16) := hf
  have G16 : Hid (ND W16 B16 d16.length d16) := hg
  clear ho1 ho2 hf hg
  have hk3 := Blk.new W16 25 #[.slice none 0 0, .slice none 0 0]
  have HK3 := hid hk3
  have HK4 := hid (hk3.setRow #[.slice A16 v16.length c16, .slice B16 d16.length e16])
  have HB4 := hid (show Below W16.heap.size W16 ((W16.alloc (.cells #[.slice none 0 0, .slice none 0 0] 25)).setRow W16.heap.size #[.slice A16 v16.length c16, .slice B16 d16.length e16]) from (below_new _ _).trans (below_of_grown (grown_setRow _ _ _) (by rw [size_new]; omega) (fun g e => by cases e; exact Nat.le_refl _)))
  clear hk3
  go_wp2_with (refine wpList_store_blk rfl _ _ _ rfl W16.heap.size #[.slice A16 v16.length c16, .slice B16 d16.length e16] rfl rfl _ _ HK3.out (by kernel_rfl) rfl (by rfl) ?_; refine Held.go ?_)
  unfold Held
  obtain ⟨W17, hW4⟩ : ∃ WX, WX = (W16.alloc (.cells #[.slice none 0 0, .slice none 0 0] 25)).setRow W16.heap.size #[.slice A16 v16.length c16, .slice B16 d16.length e16] := ⟨_, rfl⟩
  rw [← hW4] at HK4 HB4 ⊢
  clear hW4 HK3
  obtain ⟨g16, hg⟩ : ∃ g, W16.heap.size = g := ⟨_, rfl⟩
  rw [hg] at HK4 ⊢
  clear hg
  have hb := HB4.out
  clear HB4
  replace Na := hid (Na.out.keep hb)
  replace Da := hid (Da.out.keep hb)
  replace Nb := hid (Nb.out.keep hb)
  replace Db := hid (Db.out.keep hb)
  replace Nc := hid (Nc.out.keep hb)
  replace Dc := hid (Dc.out.keep hb)
  replace F8 := hid (F8.out.keep hb)
  replace G8 := hid (G8.out.keep hb)
  replace F10 := hid (F10.out.keep hb)
  replace G10 := hid (G10.out.keep hb)
  replace F12 := hid (F12.out.keep hb)
  replace G12 := hid (G12.out.keep hb)
  replace F14 := hid (F14.out.keep hb)
  replace G14 := hid (G14.out.keep hb)
  replace F16 := hid (F16.out.keep hb)
  replace G16 := hid (G16.out.keep hb)
  replace K3 := hid (K3.out.keep hb)
  replace K4 := hid (K4.out.keep hb)
  replace K5 := hid (K5.out.keep hb)
  replace K8 := hid (K8.out.keep hb)
  replace K10 := hid (K10.out.keep hb)
  replace K12 := hid (K12.out.keep hb)
  replace K14 := hid (K14.out.keep hb)
  replace HB := hid (HB.out.trans (hb.mono HB.out.size))
  clear hb
  have K16 := HK4
  clear HK4
  have hc : Calls Try.prog 27 #[.agg #[.slice Aa va.length ca, .slice Ba da.length ea], .agg #[.slice A16 v16.length c16, .slice B16 d16.length e16]] W17 (fun e w' => ∃ V D, e = .returned (.tuple #[.agg #[V, D], .int .i64 0]) ∧ ClO W17.heap.size w' V D (v14, d14) ∧ Below W17.heap.size W17 w') := by
    have h := ocJoin_calls va.length ca da.length ea v16.length c16 d16.length e16 Aa Ba A16 B16 va v16 da d16 W17 Na.out Da.out F16.out G16.out (by have := La.out.1; omega) (by have := M.out.l16; omega) (by have := La.out.2; have := M.out.m16; omega) hac l16.out hae k16.out
    rw [M.out.abc2] at h
    exact h
  have HC := hid hc
  clear hc
  have q0K3 := K3.out.cell 0 rfl
  have q1K3 := K3.out.cell 1 rfl
  have q0K16 := K16.out.cell 0 rfl
  have q1K16 := K16.out.cell 1 rfl
  go_wp2_with fail
  clear q0K3 q1K3 q0K16 q1K16
  refine HC.out.mono ?_
  rintro e W18 ⟨V18, D18, rfl, ⟨ho1, ho2, -⟩, hb⟩
  clear HC
  replace Na := hid (Na.out.keep hb)
  replace Da := hid (Da.out.keep hb)
  replace Nb := hid (Nb.out.keep hb)
  replace Db := hid (Db.out.keep hb)
  replace Nc := hid (Nc.out.keep hb)
  replace Dc := hid (Dc.out.keep hb)
  replace F8 := hid (F8.out.keep hb)
  replace G8 := hid (G8.out.keep hb)
  replace F10 := hid (F10.out.keep hb)
  replace G10 := hid (G10.out.keep hb)
  replace F12 := hid (F12.out.keep hb)
  replace G12 := hid (G12.out.keep hb)
  replace F14 := hid (F14.out.keep hb)
  replace G14 := hid (G14.out.keep hb)
  replace F16 := hid (F16.out.keep hb)
  replace G16 := hid (G16.out.keep hb)
  replace K3 := hid (K3.out.keep hb)
  replace K4 := hid (K4.out.keep hb)
  replace K5 := hid (K5.out.keep hb)
  replace K8 := hid (K8.out.keep hb)
  replace K10 := hid (K10.out.keep hb)
  replace K12 := hid (K12.out.keep hb)
  replace K14 := hid (K14.out.keep hb)
  replace K16 := hid (K16.out.keep hb)
  replace HB := hid (HB.out.trans (hb.mono HB.out.size))
  clear hb
  obtain ⟨A18, c18, rfl, ll, hf, -⟩ := ho1.ni
  obtain ⟨B18, e18, rfl, kk, hg, -⟩ := ho2.nd
  have l18 := hid ll; have k18 := hid kk
  clear ll kk
  have F18 : Hid (NI W18 A18 v14.length v14) := hf
  have G18 : Hid (ND W18 B18 d14.length d14) := hg
  clear ho1 ho2 hf hg
  have hk3 := Blk.new W18 25 #[.slice none 0 0, .slice none 0 0]
  have HK3 := hid hk3
  have HK4 := hid (hk3.setRow #[.slice A18 v14.length c18, .slice B18 d14.length e18])
  have HB4 := hid (show Below W18.heap.size W18 ((W18.alloc (.cells #[.slice none 0 0, .slice none 0 0] 25)).setRow W18.heap.size #[.slice A18 v14.length c18, .slice B18 d14.length e18]) from (below_new _ _).trans (below_of_grown (grown_setRow _ _ _) (by rw [size_new]; omega) (fun g e => by cases e; exact Nat.le_refl _)))
  clear hk3
  go_wp2_with (refine wpList_store_blk rfl _ _ _ rfl W18.heap.size #[.slice A18 v14.length c18, .slice B18 d14.length e18] rfl rfl _ _ HK3.out (by kernel_rfl) rfl (by rfl) ?_; refine Held.go ?_)
  unfold Held
  obtain ⟨W19, hW4⟩ : ∃ WX, WX = (W18.alloc (.cells #[.slice none 0 0, .slice none 0 0] 25)).setRow W18.heap.size #[.slice A18 v14.length c18, .slice B18 d14.length e18] := ⟨_, rfl⟩
  rw [← hW4] at HK4 HB4 ⊢
  clear hW4 HK3
  obtain ⟨g18, hg⟩ : ∃ g, W18.heap.size = g := ⟨_, rfl⟩
  rw [hg] at HK4 ⊢
  clear hg
  have hb := HB4.out
  clear HB4
  replace Na := hid (Na.out.keep hb)
  replace Da := hid (Da.out.keep hb)
  replace Nb := hid (Nb.out.keep hb)
  replace Db := hid (Db.out.keep hb)
  replace Nc := hid (Nc.out.keep hb)
  replace Dc := hid (Dc.out.keep hb)
  replace F8 := hid (F8.out.keep hb)
  replace G8 := hid (G8.out.keep hb)
  replace F10 := hid (F10.out.keep hb)
  replace G10 := hid (G10.out.keep hb)
  replace F12 := hid (F12.out.keep hb)
  replace G12 := hid (G12.out.keep hb)
  replace F14 := hid (F14.out.keep hb)
  replace G14 := hid (G14.out.keep hb)
  replace F16 := hid (F16.out.keep hb)
  replace G16 := hid (G16.out.keep hb)
  replace F18 := hid (F18.out.keep hb)
  replace G18 := hid (G18.out.keep hb)
  replace K3 := hid (K3.out.keep hb)
  replace K4 := hid (K4.out.keep hb)
  replace K5 := hid (K5.out.keep hb)
  replace K8 := hid (K8.out.keep hb)
  replace K10 := hid (K10.out.keep hb)
  replace K12 := hid (K12.out.keep hb)
  replace K14 := hid (K14.out.keep hb)
  replace K16 := hid (K16.out.keep hb)
  replace HB := hid (HB.out.trans (hb.mono HB.out.size))
  clear hb
  have K18 := HK4
  clear HK4
  have hc : Calls Try.prog 17 #[.agg #[.slice A8 v8.length c8, .slice B8 d8.length e8], .agg #[.slice Ab vb.length cb, .slice Bb db.length eb]] W19 (fun e w' => e = .returned (.bool qq) ∧ Below W19.heap.size W19 w') := by
    have h := sameC_calls v8.length c8 d8.length e8 vb.length cb db.length eb A8 B8 Ab Bb v8 vb d8 db W19 F8.out G8.out Nb.out Db.out (by have := M.out.l8; omega) (by have := M.out.m8; omega) (by have := Lb.out.1; omega) (by have := Lb.out.2; omega)
    rw [M.out.q] at h
    exact h
  have HC := hid hc
  clear hc
  have q0K4 := K4.out.cell 0 rfl
  have q1K4 := K4.out.cell 1 rfl
  have q0K8 := K8.out.cell 0 rfl
  have q1K8 := K8.out.cell 1 rfl
  go_wp2_with fail
  clear q0K4 q1K4 q0K8 q1K8
  refine HC.out.mono ?_
  rintro e W20 ⟨rfl, hb⟩
  clear HC
  replace Na := hid (Na.out.keep hb)
  replace Da := hid (Da.out.keep hb)
  replace Nb := hid (Nb.out.keep hb)
  replace Db := hid (Db.out.keep hb)
  replace Nc := hid (Nc.out.keep hb)
  replace Dc := hid (Dc.out.keep hb)
  replace F8 := hid (F8.out.keep hb)
  replace G8 := hid (G8.out.keep hb)
  replace F10 := hid (F10.out.keep hb)
  replace G10 := hid (G10.out.keep hb)
  replace F12 := hid (F12.out.keep hb)
  replace G12 := hid (G12.out.keep hb)
  replace F14 := hid (F14.out.keep hb)
  replace G14 := hid (G14.out.keep hb)
  replace F16 := hid (F16.out.keep hb)
  replace G16 := hid (G16.out.keep hb)
  replace F18 := hid (F18.out.keep hb)
  replace G18 := hid (G18.out.keep hb)
  replace K3 := hid (K3.out.keep hb)
  replace K4 := hid (K4.out.keep hb)
  replace K5 := hid (K5.out.keep hb)
  replace K8 := hid (K8.out.keep hb)
  replace K10 := hid (K10.out.keep hb)
  replace K12 := hid (K12.out.keep hb)
  replace K14 := hid (K14.out.keep hb)
  replace K16 := hid (K16.out.keep hb)
  replace K18 := hid (K18.out.keep hb)
  replace HB := hid (HB.out.trans (hb.mono HB.out.size))
  clear hb
  have hc : Calls Try.prog 17 #[.agg #[.slice A8 v8.length c8, .slice B8 d8.length e8], .agg #[.slice A10 v8.length c10, .slice B10 d8.length e10]] W20 (fun e w' => e = .returned (.bool true) ∧ Below W20.heap.size W20 w') := by
    have h := sameC_calls v8.length c8 d8.length e8 v8.length c10 d8.length e10 A8 B8 A10 B10 v8 v8 d8 d8 W20 F8.out G8.out F10.out G10.out (by have := M.out.l8; omega) (by have := M.out.m8; omega) (by have := M.out.l8; omega) (by have := M.out.m8; omega)
    rw [same_true] at h
    exact h
  have HC := hid hc
  clear hc
  have q0K8 := K8.out.cell 0 rfl
  have q1K8 := K8.out.cell 1 rfl
  have q0K10 := K10.out.cell 0 rfl
  have q1K10 := K10.out.cell 1 rfl
  go_wp2_with fail
  clear q0K8 q1K8 q0K10 q1K10
  refine HC.out.mono ?_
  rintro e W21 ⟨rfl, hb⟩
  clear HC
  replace Na := hid (Na.out.keep hb)
  replace Da := hid (Da.out.keep hb)
  replace Nb := hid (Nb.out.keep hb)
  replace Db := hid (Db.out.keep hb)
  replace Nc := hid (Nc.out.keep hb)
  replace Dc := hid (Dc.out.keep hb)
  replace F8 := hid (F8.out.keep hb)
  replace G8 := hid (G8.out.keep hb)
  replace F10 := hid (F10.out.keep hb)
  replace G10 := hid (G10.out.keep hb)
  replace F12 := hid (F12.out.keep hb)
  replace G12 := hid (G12.out.keep hb)
  replace F14 := hid (F14.out.keep hb)
  replace G14 := hid (G14.out.keep hb)
  replace F16 := hid (F16.out.keep hb)
  replace G16 := hid (G16.out.keep hb)
  replace F18 := hid (F18.out.keep hb)
  replace G18 := hid (G18.out.keep hb)
  replace K3 := hid (K3.out.keep hb)
  replace K4 := hid (K4.out.keep hb)
  replace K5 := hid (K5.out.keep hb)
  replace K8 := hid (K8.out.keep hb)
  replace K10 := hid (K10.out.keep hb)
  replace K12 := hid (K12.out.keep hb)
  replace K14 := hid (K14.out.keep hb)
  replace K16 := hid (K16.out.keep hb)
  replace K18 := hid (K18.out.keep hb)
  replace HB := hid (HB.out.trans (hb.mono HB.out.size))
  clear hb
  have hc : Calls Try.prog 17 #[.agg #[.slice A12 va.length c12, .slice B12 da.length e12], .agg #[.slice Aa va.length ca, .slice Ba da.length ea]] W21 (fun e w' => e = .returned (.bool true) ∧ Below W21.heap.size W21 w') := by
    have h := sameC_calls va.length c12 da.length e12 va.length ca da.length ea A12 B12 Aa Ba va va da da W21 F12.out G12.out Na.out Da.out (by have := La.out.1; omega) (by have := La.out.2; omega) (by have := La.out.1; omega) (by have := La.out.2; omega)
    rw [same_true] at h
    exact h
  have HC := hid hc
  clear hc
  have q0K3 := K3.out.cell 0 rfl
  have q1K3 := K3.out.cell 1 rfl
  have q0K12 := K12.out.cell 0 rfl
  have q1K12 := K12.out.cell 1 rfl
  go_wp2_with fail
  clear q0K3 q1K3 q0K12 q1K12
  refine HC.out.mono ?_
  rintro e W22 ⟨rfl, hb⟩
  clear HC
  replace Na := hid (Na.out.keep hb)
  replace Da := hid (Da.out.keep hb)
  replace Nb := hid (Nb.out.keep hb)
  replace Db := hid (Db.out.keep hb)
  replace Nc := hid (Nc.out.keep hb)
  replace Dc := hid (Dc.out.keep hb)
  replace F8 := hid (F8.out.keep hb)
  replace G8 := hid (G8.out.keep hb)
  replace F10 := hid (F10.out.keep hb)
  replace G10 := hid (G10.out.keep hb)
  replace F12 := hid (F12.out.keep hb)
  replace G12 := hid (G12.out.keep hb)
  replace F14 := hid (F14.out.keep hb)
  replace G14 := hid (G14.out.keep hb)
  replace F16 := hid (F16.out.keep hb)
  replace G16 := hid (G16.out.keep hb)
  replace F18 := hid (F18.out.keep hb)
  replace G18 := hid (G18.out.keep hb)
  replace K3 := hid (K3.out.keep hb)
  replace K4 := hid (K4.out.keep hb)
  replace K5 := hid (K5.out.keep hb)
  replace K8 := hid (K8.out.keep hb)
  replace K10 := hid (K10.out.keep hb)
  replace K12 := hid (K12.out.keep hb)
  replace K14 := hid (K14.out.keep hb)
  replace K16 := hid (K16.out.keep hb)
  replace K18 := hid (K18.out.keep hb)
  replace HB := hid (HB.out.trans (hb.mono HB.out.size))
  clear hb
  have hc : Calls Try.prog 17 #[.agg #[.slice A14 v14.length c14, .slice B14 d14.length e14], .agg #[.slice A18 v14.length c18, .slice B18 d14.length e18]] W22 (fun e w' => e = .returned (.bool true) ∧ Below W22.heap.size W22 w') := by
    have h := sameC_calls v14.length c14 d14.length e14 v14.length c18 d14.length e18 A14 B14 A18 B18 v14 v14 d14 d14 W22 F14.out G14.out F18.out G18.out (by have := M.out.l14; omega) (by have := M.out.m14; omega) (by have := M.out.l14; omega) (by have := M.out.m14; omega)
    rw [same_true] at h
    exact h
  have HC := hid hc
  clear hc
  have q0K14 := K14.out.cell 0 rfl
  have q1K14 := K14.out.cell 1 rfl
  have q0K18 := K18.out.cell 0 rfl
  have q1K18 := K18.out.cell 1 rfl
  go_wp2_with fail
  clear q0K14 q1K14 q0K18 q1K18
  refine HC.out.mono ?_
  rintro e W23 ⟨rfl, hb⟩
  clear HC
  replace Na := hid (Na.out.keep hb)
  replace Da := hid (Da.out.keep hb)
  replace Nb := hid (Nb.out.keep hb)
  replace Db := hid (Db.out.keep hb)
  replace Nc := hid (Nc.out.keep hb)
  replace Dc := hid (Dc.out.keep hb)
  replace F8 := hid (F8.out.keep hb)
  replace G8 := hid (G8.out.keep hb)
  replace F10 := hid (F10.out.keep hb)
  replace G10 := hid (G10.out.keep hb)
  replace F12 := hid (F12.out.keep hb)
  replace G12 := hid (G12.out.keep hb)
  replace F14 := hid (F14.out.keep hb)
  replace G14 := hid (G14.out.keep hb)
  replace F16 := hid (F16.out.keep hb)
  replace G16 := hid (G16.out.keep hb)
  replace F18 := hid (F18.out.keep hb)
  replace G18 := hid (G18.out.keep hb)
  replace K3 := hid (K3.out.keep hb)
  replace K4 := hid (K4.out.keep hb)
  replace K5 := hid (K5.out.keep hb)
  replace K8 := hid (K8.out.keep hb)
  replace K10 := hid (K10.out.keep hb)
  replace K12 := hid (K12.out.keep hb)
  replace K14 := hid (K14.out.keep hb)
  replace K16 := hid (K16.out.keep hb)
  replace K18 := hid (K18.out.keep hb)
  replace HB := hid (HB.out.trans (hb.mono HB.out.size))
  clear hb
  have hc : Calls Try.prog 18 #[.agg #[.slice A8 v8.length c8, .slice B8 d8.length e8]] W23 (fun e w' => e = .returned (.int .i64 0) ∧ Below W23.heap.size W23 w') := by
    have h := ocCheck_calls v8.length c8 d8.length e8 A8 B8 v8 d8 W23 F8.out G8.out (by have := M.out.l8; omega) (by have := M.out.m8; omega) l8.out
    rw [M.out.ok] at h
    exact h
  have HC := hid hc
  clear hc
  have q0K8 := K8.out.cell 0 rfl
  have q1K8 := K8.out.cell 1 rfl
  go_wp2_with fail
  clear q0K8 q1K8
  refine HC.out.mono ?_
  rintro e W24 ⟨rfl, hb⟩
  clear HC
  replace Na := hid (Na.out.keep hb)
  replace Da := hid (Da.out.keep hb)
  replace Nb := hid (Nb.out.keep hb)
  replace Db := hid (Db.out.keep hb)
  replace Nc := hid (Nc.out.keep hb)
  replace Dc := hid (Dc.out.keep hb)
  replace F8 := hid (F8.out.keep hb)
  replace G8 := hid (G8.out.keep hb)
  replace F10 := hid (F10.out.keep hb)
  replace G10 := hid (G10.out.keep hb)
  replace F12 := hid (F12.out.keep hb)
  replace G12 := hid (G12.out.keep hb)
  replace F14 := hid (F14.out.keep hb)
  replace G14 := hid (G14.out.keep hb)
  replace F16 := hid (F16.out.keep hb)
  replace G16 := hid (G16.out.keep hb)
  replace F18 := hid (F18.out.keep hb)
  replace G18 := hid (G18.out.keep hb)
  replace K3 := hid (K3.out.keep hb)
  replace K4 := hid (K4.out.keep hb)
  replace K5 := hid (K5.out.keep hb)
  replace K8 := hid (K8.out.keep hb)
  replace K10 := hid (K10.out.keep hb)
  replace K12 := hid (K12.out.keep hb)
  replace K14 := hid (K14.out.keep hb)
  replace K16 := hid (K16.out.keep hb)
  replace K18 := hid (K18.out.keep hb)
  replace HB := hid (HB.out.trans (hb.mono HB.out.size))
  clear hb
  have hc : Calls Try.prog 34 #[.agg #[.slice Aa va.length ca, .slice Ba da.length ea], .agg #[.slice Ab vb.length cb, .slice Bb db.length eb], .bool qq] W24 (fun e w' => e = .returned (.bool true) ∧ Below W24.heap.size W24 w') := by
    have h := lleq_calls va.length ca da.length ea vb.length cb db.length eb Aa Ba Ab Bb va vb da db qq W24 Na.out Da.out Nb.out Db.out (by have := La.out.1; omega) (by have := Lb.out.1; omega) (by have := La.out.2; have := Lb.out.2; omega) hac hbc hae hbe
    rw [M.out.leq] at h
    rw [leq_true] at h
    exact h
  have HC := hid hc
  clear hc
  have q0K3 := K3.out.cell 0 rfl
  have q1K3 := K3.out.cell 1 rfl
  have q0K4 := K4.out.cell 0 rfl
  have q1K4 := K4.out.cell 1 rfl
  go_wp2_with fail
  clear q0K3 q1K3 q0K4 q1K4
  refine HC.out.mono ?_
  rintro e W25 ⟨rfl, hb⟩
  clear HC
  replace Na := hid (Na.out.keep hb)
  replace Da := hid (Da.out.keep hb)
  replace Nb := hid (Nb.out.keep hb)
  replace Db := hid (Db.out.keep hb)
  replace Nc := hid (Nc.out.keep hb)
  replace Dc := hid (Dc.out.keep hb)
  replace F8 := hid (F8.out.keep hb)
  replace G8 := hid (G8.out.keep hb)
  replace F10 := hid (F10.out.keep hb)
  replace G10 := hid (G10.out.keep hb)
  replace F12 := hid (F12.out.keep hb)
  replace G12 := hid (G12.out.keep hb)
  replace F14 := hid (F14.out.keep hb)
  replace G14 := hid (G14.out.keep hb)
  replace F16 := hid (F16.out.keep hb)
  replace G16 := hid (G16.out.keep hb)
  replace F18 := hid (F18.out.keep hb)
  replace G18 := hid (G18.out.keep hb)
  replace K3 := hid (K3.out.keep hb)
  replace K4 := hid (K4.out.keep hb)
  replace K5 := hid (K5.out.keep hb)
  replace K8 := hid (K8.out.keep hb)
  replace K10 := hid (K10.out.keep hb)
  replace K12 := hid (K12.out.keep hb)
  replace K14 := hid (K14.out.keep hb)
  replace K16 := hid (K16.out.keep hb)
  replace K18 := hid (K18.out.keep hb)
  replace HB := hid (HB.out.trans (hb.mono HB.out.size))
  clear hb
  have hc : Calls Try.prog 34 #[.agg #[.slice Aa va.length ca, .slice Ba da.length ea], .agg #[.slice A8 v8.length c8, .slice B8 d8.length e8], .bool true] W25 (fun e w' => e = .returned (.bool true) ∧ Below W25.heap.size W25 w') := by
    have h := lleq_calls va.length ca da.length ea v8.length c8 d8.length e8 Aa Ba A8 B8 va v8 da d8 true W25 Na.out Da.out F8.out G8.out (by have := La.out.1; omega) (by have := M.out.l8; omega) (by have := La.out.2; have := M.out.m8; omega) hac l8.out hae k8.out
    rw [M.out.leqa] at h
    rw [leq_true] at h
    exact h
  have HC := hid hc
  clear hc
  have q0K3 := K3.out.cell 0 rfl
  have q1K3 := K3.out.cell 1 rfl
  have q0K8 := K8.out.cell 0 rfl
  have q1K8 := K8.out.cell 1 rfl
  go_wp2_with fail
  clear q0K3 q1K3 q0K8 q1K8
  refine HC.out.mono ?_
  rintro e W26 ⟨rfl, hb⟩
  clear HC
  replace Na := hid (Na.out.keep hb)
  replace Da := hid (Da.out.keep hb)
  replace Nb := hid (Nb.out.keep hb)
  replace Db := hid (Db.out.keep hb)
  replace Nc := hid (Nc.out.keep hb)
  replace Dc := hid (Dc.out.keep hb)
  replace F8 := hid (F8.out.keep hb)
  replace G8 := hid (G8.out.keep hb)
  replace F10 := hid (F10.out.keep hb)
  replace G10 := hid (G10.out.keep hb)
  replace F12 := hid (F12.out.keep hb)
  replace G12 := hid (G12.out.keep hb)
  replace F14 := hid (F14.out.keep hb)
  replace G14 := hid (G14.out.keep hb)
  replace F16 := hid (F16.out.keep hb)
  replace G16 := hid (G16.out.keep hb)
  replace F18 := hid (F18.out.keep hb)
  replace G18 := hid (G18.out.keep hb)
  replace K3 := hid (K3.out.keep hb)
  replace K4 := hid (K4.out.keep hb)
  replace K5 := hid (K5.out.keep hb)
  replace K8 := hid (K8.out.keep hb)
  replace K10 := hid (K10.out.keep hb)
  replace K12 := hid (K12.out.keep hb)
  replace K14 := hid (K14.out.keep hb)
  replace K16 := hid (K16.out.keep hb)
  replace K18 := hid (K18.out.keep hb)
  replace HB := hid (HB.out.trans (hb.mono HB.out.size))
  clear hb
  have hc : Calls Try.prog 34 #[.agg #[.slice Ab vb.length cb, .slice Bb db.length eb], .agg #[.slice A8 v8.length c8, .slice B8 d8.length e8], .bool true] W26 (fun e w' => e = .returned (.bool true) ∧ Below W26.heap.size W26 w') := by
    have h := lleq_calls vb.length cb db.length eb v8.length c8 d8.length e8 Ab Bb A8 B8 vb v8 db d8 true W26 Nb.out Db.out F8.out G8.out (by have := Lb.out.1; omega) (by have := M.out.l8; omega) (by have := Lb.out.2; have := M.out.m8; omega) hbc l8.out hbe k8.out
    rw [M.out.leqb] at h
    rw [leq_true] at h
    exact h
  have HC := hid hc
  clear hc
  have q0K4 := K4.out.cell 0 rfl
  have q1K4 := K4.out.cell 1 rfl
  have q0K8 := K8.out.cell 0 rfl
  have q1K8 := K8.out.cell 1 rfl
  go_wp2_with fail
  clear q0K4 q1K4 q0K8 q1K8
  refine HC.out.mono ?_
  rintro e W27 ⟨rfl, hb⟩
  clear HC
  replace Na := hid (Na.out.keep hb)
  replace Da := hid (Da.out.keep hb)
  replace Nb := hid (Nb.out.keep hb)
  replace Db := hid (Db.out.keep hb)
  replace Nc := hid (Nc.out.keep hb)
  replace Dc := hid (Dc.out.keep hb)
  replace F8 := hid (F8.out.keep hb)
  replace G8 := hid (G8.out.keep hb)
  replace F10 := hid (F10.out.keep hb)
  replace G10 := hid (G10.out.keep hb)
  replace F12 := hid (F12.out.keep hb)
  replace G12 := hid (G12.out.keep hb)
  replace F14 := hid (F14.out.keep hb)
  replace G14 := hid (G14.out.keep hb)
  replace F16 := hid (F16.out.keep hb)
  replace G16 := hid (G16.out.keep hb)
  replace F18 := hid (F18.out.keep hb)
  replace G18 := hid (G18.out.keep hb)
  replace K3 := hid (K3.out.keep hb)
  replace K4 := hid (K4.out.keep hb)
  replace K5 := hid (K5.out.keep hb)
  replace K8 := hid (K8.out.keep hb)
  replace K10 := hid (K10.out.keep hb)
  replace K12 := hid (K12.out.keep hb)
  replace K14 := hid (K14.out.keep hb)
  replace K16 := hid (K16.out.keep hb)
  replace K18 := hid (K18.out.keep hb)
  replace HB := hid (HB.out.trans (hb.mono HB.out.size))
  clear hb
  go_wp2_with fail
  go_ret
  exact ⟨rfl, HB.out⟩
end Go.Proofs.Ythjflgnoeenenaa
