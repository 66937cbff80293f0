/- Contracts of clouds: canonical, Check, checkBoth. Written by tools/mkoc2.py. -/
import Derived.Test.YthjflgnoeenenaaOcLow
namespace Go.Proofs.Ythjflgnoeenenaa
open Go Go.RowKit Cl

instance (v : List Int) (ds : List Dt) : Decidable (Cl.Can v ds) :=
  decidable_of_iff ((∀ x ∈ v.getLast?, x ≠ 0) ∧ ds.Pairwise dLt ∧ ∀ d ∈ ds, frs v d.1 + 1 < d.2)
    ⟨fun h => ⟨fun x hx => h.1 x hx, h.2.1, h.2.2⟩, fun h => ⟨fun x hx => h.last x hx, h.sorted, h.gap⟩⟩
/-- the dot ahead of the one at i, the nought dot ahead of the first one -/
def prevD (ds : List Dt) (i : Nat) : Dt := if i = 0 then (0, 0) else ds.getD (i - 1) (0, 0)
def okAt (v : List Int) (ds : List Dt) (i : Nat) : Prop := ∀ d, ds[i]? = some d → dLt (prevD ds i) d ∧ frs v d.1 + 1 < d.2
theorem prev_at {ds : List Dt} {i : Nat} {d : Dt} (h : ds[i]? = some d) : prevD ds (i + 1) = d := by
  unfold prevD
  rw [if_neg (by omega), Nat.add_sub_cancel, List.getD_eq_getElem?_getD, h]; rfl
theorem can_ok {v : List Int} {ds : List Dt} (h : Cl.Can v ds) (hd : ∀ d ∈ ds, dotted d) (i : Nat) : okAt v ds i := by
  intro d hi
  have hm := List.mem_of_getElem? hi
  refine ⟨?_, h.gap d hm⟩
  unfold prevD
  by_cases h0 : i = 0
  · rw [if_pos h0]
    have := (hd d hm).1
    exact .inl (by show (0 : Int) < d.1; omega)
  · rw [if_neg h0]
    obtain ⟨h1, h2⟩ := List.getElem?_eq_some_iff.1 hi
    have h3 : i - 1 < ds.length := by omega
    rw [List.getD_eq_getElem?_getD, List.getElem?_eq_getElem h3]
    have := (List.pairwise_iff_getElem.1 h.sorted) (i - 1) i h3 h1 (by omega)
    rw [h2] at this
    exact this
theorem can_of_ok {v : List Int} {ds : List Dt} (h : ∀ i, i < ds.length → okAt v ds i) (hl : (trim v).length = v.length) : Cl.Can v ds := by
  have hlt : ∀ i j (hi : i < ds.length) (hj : j < ds.length), i < j → dLt ds[i] ds[j] := by
    intro i j hi hj hij
    induction j with
    | zero => omega
    | succ j ih =>
      have h1 := (h (j + 1) hj ds[j + 1] (List.getElem?_eq_getElem hj)).1
      rw [prev_at (List.getElem?_eq_getElem (show j < ds.length by omega))] at h1
      by_cases e : i = j
      · subst e; exact h1
      · exact dLt_trans (ih (by omega) (by omega)) h1
  refine ⟨fun x hx => ?_, List.pairwise_iff_getElem.2 hlt, fun d hd => ?_⟩
  · obtain ⟨k, h1, h2⟩ := trim_spec v
    have e : trim v = v := by
      have hk : k = 0 := by
        have := congrArg List.length h1
        rw [List.length_append, List.length_replicate] at this
        omega
      rw [hk] at h1
      simpa using h1.symm
    rw [e] at h2
    exact h2 x hx
  · obtain ⟨i, hi, e⟩ := List.getElem_of_mem hd
    exact (h i hi d (by rw [List.getElem?_eq_getElem hi, e])).2
theorem can_trim {v : List Int} {ds : List Dt} (h : Cl.Can v ds) : (trim v).length = v.length := by
  obtain ⟨k, _, h2⟩ := trim_spec v
  have := trim_of h2 h.last (fun r => frs_trim v r)
  rw [this]
theorem atV_frs {v : List Int} (h : ∀ x ∈ v, 0 ≤ x ∧ x ≤ 1048576) (r : Int) : atV v r = frs v r := by
  by_cases h1 : r < 1
  · rw [atV_low h1, frs_low h1]
  · rw [atV_at h1, frs_at h1]
    unfold nth
    have := (frs_le h r).1
    rw [frs_at h1] at this
    omega
theorem nextV_frs {v : List Int} (h : ∀ x ∈ v, 0 ≤ x ∧ x ≤ 1048576) {r : Int} (hr : 1 ≤ r) : nextV v r = (r, frs v r + 1) := by
  unfold nextV
  rw [atV_frs h]
  have := (frs_le h r).2
  rw [if_neg]
  unfold capN
  omega
theorem hasV_frs {v : List Int} (h : ∀ x ∈ v, 0 ≤ x ∧ x ≤ 1048576) {d : Dt} (hd : 1 ≤ d.2) : hasV v d.1 d.2 = decide (d.2 ≤ frs v d.1) := by
  rw [hasV_at hd, atV_frs h]
def vCanA (A : Option Addr) (n : Nat) (c : Nat) (p : Nat) (q2 : Bool) (z : Int) (d : Dt) (pv : Dt) (g : Nat) (cm : Int) : Nat → Unit → Value
  | 0, _ => dvv pv
  | 1, _ => dvv d
  | 2, _ => .int .i64 cm
  | 3, _ => .bool false
  | 4, _ => .bool false
  | 5, _ => .pointer (some ⟨g, 1, none⟩)
  | 6, _ => .int .i64 d.2
  | 7, _ => .pointer (some ⟨p, 0, none⟩)
  | 8, _ => .slice A n c
  | 9, _ => .pointer (some ⟨g, 0, none⟩)
  | 10, _ => .int .i64 d.1
  | 11, _ => .agg #[.int .i64 d.1, .int .i64 z]
  | 12, _ => .int .i64 z
  | 13, _ => .bool q2
  | 14, _ => .bool q2
  | _, _ => undef
def vCanB (d : Dt) (pv : Dt) (cm : Int) : Nat → Unit → Value
  | 0, _ => dvv pv
  | 1, _ => dvv d
  | 2, _ => .int .i64 cm
  | 3, _ => .bool true
  | 4, _ => .bool true
  | 5, _ => undef
  | 6, _ => undef
  | 7, _ => undef
  | 8, _ => undef
  | 9, _ => undef
  | 10, _ => undef
  | 11, _ => undef
  | 12, _ => undef
  | 13, _ => undef
  | 14, _ => .bool true
  | _, _ => undef
def vCanC (A : Option Addr) (n : Nat) (c : Nat) (p : Nat) (q : Bool) (T : Nat) : Nat → Unit → Value
  | 0, _ => .pointer (some ⟨p, 0, none⟩)
  | 1, _ => .slice A n c
  | 2, _ => .slice A T c
  | 3, _ => .int .i64 (T : Int)
  | 4, _ => .pointer (some ⟨p, 0, none⟩)
  | 5, _ => .slice A n c
  | 6, _ => .int .i64 (n : Int)
  | 7, _ => .bool q
  | 8, _ => .bool q
  | _, _ => undef
set_option maxRecDepth 20000 in
set_option maxHeartbeats 2000000 in
theorem ocCanon_calls (n c m e : Nat) (A B : Option Addr) (v : List Int) (ds : List Dt) (w : World) (h1 : NI w A n v) (h2 : ND w B m ds) (hn : n ≤ 1000000) (hm : m ≤ 900000) (hnc : n ≤ c) (hr : ranged v ds) :
    Calls Try.prog 46 #[cdv A n c B m e] w fun x w' => x = .returned (.bool (decide (Cl.Can v ds))) ∧ Below w.heap.size w w' := by
  have hz := (zero_of_info info_dot0).1
  obtain ⟨p, hp⟩ : ∃ p, w.heap.size = p := ⟨_, rfl⟩
  obtain ⟨p2, hp2⟩ : ∃ p2, p + 1 = p2 := ⟨_, rfl⟩
  have b1 := below_new w (.cells #[.slice A n c, .slice B m e] 25)
  have b2 := below_new (w.alloc (.cells #[.slice A n c, .slice B m e] 25)) (.cells #[.int .i64 0, .int .i64 0] 27)
  have k1 := (Blk.new w 25 #[.slice A n c, .slice B m e]).keep b2
  have k2 := Blk.new (w.alloc (.cells #[.slice A n c, .slice B m e] 25)) 27 #[.int .i64 0, .int .i64 0]
  have sz := size_new w (.cells #[.slice A n c, .slice B m e] 25)
  rw [sz] at k2
  have bb := b1.trans (b2.mono b1.size)
  obtain ⟨w1, hw1⟩ : ∃ w1, (w.alloc (.cells #[.slice A n c, .slice B m e] 25)).alloc (.cells #[.int .i64 0, .int .i64 0] 27) = w1 := ⟨_, rfl⟩
  rw [hw1] at k1 k2 bb
  rw [hp] at k1 k2
  rw [hp2] at k2
  have HW1 := hid hw1; have HPP := hid hp; have HPP2 := hid hp2; have HB := hid bb; have K1 := hid k1; have K2 := hid k2
  have H1 := hid h1; have H2 := hid h2; have L1 := hid h1.1; have L2 := hid h2.1; have HR := hid hr
  obtain ⟨Z, hZ⟩ : ∃ Z, decide (Cl.Can v ds) = Z := ⟨_, rfl⟩
  have HZ := hid hZ
  rw [hZ]
  have c0 := k1.cell 0 rfl; have c1 := k1.cell 1 rfl
  clear b1 b2 k1 k2 sz bb hw1 hp hp2 h1 h2 hr hZ
  show Calls Try.prog 46 #[.agg #[.slice A n c, .slice B m e]] w _
  go_enter Try.func46, Try.ntmps46
  go_wp2_with fail
  rw [HW1.out, HPP.out, HPP2.out]
  go_wp2_with fail
  clear c0 c1
  go_loopw [10] (fun i wr => ∃ k : Nat, k ≤ m ∧ i = .int .i64 (k : Int) ∧ Hid (∀ i, i < k → okAt v ds i) ∧ Hid (Below w.heap.size w wr ∧ Blk wr p 25 #[.slice A n c, .slice B m e] ∧ Blk wr p2 27 #[.int .i64 (prevD ds k).1, .int .i64 (prevD ds k).2])) (fun i _ => m - (intOf i).toNat)
  case atStart => exact ⟨0, Nat.zero_le _, rfl, hid (fun i h => absurd h (by omega)), hid ⟨HB.out, K1.out, K2.out⟩⟩
  case round =>
    obtain ⟨k, hk, rfl, HQ, HW⟩ := hrel
    by_cases hlt : k < m
    · have hlt' : (k : Int) < (m : Int) := by omega
      obtain ⟨b, o1, d, rfl, hx, hc1, hc2⟩ := (H2.out.keep HW.out.1).at_ hlt
      have HX := hid hx
      have hd := HR.out.2.2 d (List.mem_of_getElem? hx)
      have HD := hid hd
      obtain ⟨pv, hpv⟩ : ∃ pv, prevD ds k = pv := ⟨_, rfl⟩
      rw [hpv] at HW
      have HPV := hid hpv
      obtain ⟨g, hg⟩ : ∃ g, wr.heap.size = g := ⟨_, rfl⟩
      have b4 := below_new wr (.cells #[.int .i64 d.1, .int .i64 d.2] 27)
      have k4 := Blk.new wr 27 #[.int .i64 d.1, .int .i64 d.2]
      rw [hg] at k4
      obtain ⟨w4, hw4⟩ : ∃ w4, wr.alloc (.cells #[.int .i64 d.1, .int .i64 d.2] 27) = w4 := ⟨_, rfl⟩
      rw [hw4] at b4 k4
      have HW4 := hid hw4; have HG := hid hg; have B4 := hid b4
      have HS := hid (show Below w.heap.size w w4 ∧ Blk w4 p 25 #[.slice A n c, .slice (some ⟨b, o1, none⟩) m e] ∧ Blk w4 p2 27 #[.int .i64 pv.1, .int .i64 pv.2] ∧ Blk w4 g 27 #[.int .i64 d.1, .int .i64 d.2] from ⟨HW.out.1.trans (b4.mono HW.out.1.size), HW.out.2.1.keep b4, HW.out.2.2.keep b4, k4⟩)
      have HCM := hid (fun W => ocCompare_calls pv d W)
      obtain ⟨cm, hcm⟩ : ∃ cm, cmpD pv d = cm := ⟨_, rfl⟩
      rw [hcm] at HCM
      have HNX := hid (fun W (hb : Below w4.heap.size w4 W) => vNext_calls n c A v d.1 W (H1.out.keep (HS.out.1.trans (hb.mono HS.out.1.size))) (by omega))
      rw [nextV_frs HR.out.2.1 hd.1] at HNX
      obtain ⟨z, hz2⟩ : ∃ z, frs v d.1 + 1 = z := ⟨_, rfl⟩
      simp only [hz2] at HNX
      have HLT := hid (show cm < 0 ↔ dLt pv d from by rw [← hcm]; exact cmpD_neg pv d)
      have HZ2 := hid hz2
      have HXC := hid (show ¬ (cm < 0 ∧ z < d.2) → false = Z from fun h => by
        rw [← HZ.out]; symm; rw [decide_eq_false_iff_not]
        intro hcan
        have := can_ok hcan HR.out.2.2 k d HX.out
        rw [HPV.out] at this
        exact h ⟨HLT.out.2 this.1, by rw [← HZ2.out]; exact this.2⟩)
      have HXO := hid (show cm < 0 → z < d.2 → ∀ i, i < k + 1 → okAt v ds i from fun h3 h4 i hi => by
        by_cases e : i = k
        · subst e
          intro d2 h5
          rw [HX.out] at h5
          obtain rfl := Option.some.inj h5
          rw [HPV.out]
          exact ⟨HLT.out.1 h3, by rw [HZ2.out]; exact h4⟩
        · exact HQ.out i (by omega))
      have HPN := hid (prev_at HX.out)
      clear hx hd hpv hcm hz2 b4 k4 hw4 hg HQ HW
      go_wp2_with fail
      rw [HW4.out, HG.out]
      by_cases hq : cm < 0
      · have hq1 : ¬ 0 ≤ cm := by omega
        obtain ⟨q2, hq2⟩ : ∃ q2, decide (d.2 ≤ z) = q2 := ⟨_, rfl⟩
        have HQ2 := hid hq2
        clear hc1 hc2 hq2
        refine wp_region_invG 39 () (vCanA A n c p q2 z d pv g cm) (fun _ _ W => Below w4.heap.size w4 W) (by kernel_rfl) (by kernel_rfl) (by exact Nat.le_refl 39) ?_ ?_ ?_
        · exact (Below.refl _ _).drew
        · intro i o f gh a W hi hf hdep hsame hcl hval hS
          rcases i with _ | _ | _ | _ | _ | _ | _ | _ | _ | _ | _ | _ | _ | _ | _ | i
          all_goals simp only [List.getElem?_cons_succ, List.getElem?_cons_zero, List.getElem?_nil, Option.some.injEq, reduceCtorEq] at hi
          all_goals subst hi
          · have E3 : a.tmps[3]? = some (.pointer (some ⟨p2, 0, none⟩)) := (same_of hsame 3 (by rfl)).trans rfl
            refine g_plain rfl ?_
            exact does_load_dotB _ rfl p2 (by rw [eval_getD, E3]; rfl) (HS.out.2.2.1.keep hS) ⟨(), .inr rfl, hS⟩
          · have E5 : a.tmps[5]? = some (.pointer (some ⟨g, 0, none⟩)) := (same_of hsame 5 (by rfl)).trans rfl
            refine g_plain rfl ?_
            exact does_load_dotB _ rfl g (by rw [eval_getD, E5]; rfl) (HS.out.2.2.2.keep hS) ⟨(), .inr rfl, hS⟩
          · have E14 := hval 0 _ 14 rfl rfl (dep_of hdep 0 (by rfl))
            have E15 := hval 1 _ 15 rfl rfl (dep_of hdep 1 (by rfl))
            unfold vCanA at E14 E15
            refine g_plain rfl ?_
            refine does_call 49 #[dvv pv, dvv d] (by go_simp) ((HCM.out W).mono ?_)
            rintro _ W' ⟨rfl, hb⟩
            exact ⟨.int .i64 cm, rfl, (), .inr rfl, hS.trans (hb.below.mono hS.size)⟩
          · have E16 := hval 2 _ 16 rfl rfl (dep_of hdep 2 (by rfl))
            unfold vCanA at E16
            refine g_plain rfl ?_
            exact does_value (w' := W) (v := .bool false) (by go_simp) ⟨(), .inr rfl, hS⟩
          · have E17 := hval 3 _ 17 rfl rfl (dep_of hdep 3 (by rfl))
            unfold vCanA at E17
            refine g_plain rfl ?_
            exact does_value (w' := W) (v := .bool false) (by go_simp) ⟨(), .inr rfl, hS⟩
          · have EG := hval 4 _ 18 rfl rfl (dep_of hdep 4 (by rfl))
            have E5 : a.tmps[5]? = some (.pointer (some ⟨g, 0, none⟩)) := (same_of hsame 5 (by rfl)).trans rfl
            unfold vCanA at EG
            refine g_want rfl rfl rfl EG ?_
            exact does_value (w' := W) (v := .pointer (some ⟨g, 1, none⟩)) (by go_simp) ⟨(), .inr rfl, hS⟩
          · have EG := hval 4 _ 18 rfl rfl (dep_of hdep 4 (by rfl))
            have E19 := hval 5 _ 19 rfl rfl (dep_of hdep 5 (by rfl))
            unfold vCanA at EG E19
            have kg := HS.out.2.2.2.keep hS
            have g0 := kg.cell 0 rfl
            have g1 := kg.cell 1 rfl
            have g2 := (HS.out.2.1.keep hS).cell 0 rfl
            refine g_want rfl rfl rfl EG ?_
            exact does_value (w' := W) (v := .int .i64 d.2) (by go_simp) ⟨(), .inr rfl, hS⟩
          · have EG := hval 4 _ 18 rfl rfl (dep_of hdep 4 (by rfl))
            have E1 : a.tmps[1]? = some (.pointer (some ⟨p, 0, none⟩)) := (same_of hsame 1 (by rfl)).trans rfl
            unfold vCanA at EG
            refine g_want rfl rfl rfl EG ?_
            exact does_value (w' := W) (v := .pointer (some ⟨p, 0, none⟩)) (by go_simp) ⟨(), .inr rfl, hS⟩
          · have EG := hval 4 _ 18 rfl rfl (dep_of hdep 4 (by rfl))
            have E21 := hval 7 _ 21 rfl rfl (dep_of hdep 7 (by rfl))
            unfold vCanA at EG E21
            have kg := HS.out.2.2.2.keep hS
            have g0 := kg.cell 0 rfl
            have g1 := kg.cell 1 rfl
            have g2 := (HS.out.2.1.keep hS).cell 0 rfl
            refine g_want rfl rfl rfl EG ?_
            exact does_value (w' := W) (v := .slice A n c) (by go_simp) ⟨(), .inr rfl, hS⟩
          · have EG := hval 4 _ 18 rfl rfl (dep_of hdep 4 (by rfl))
            have E5 : a.tmps[5]? = some (.pointer (some ⟨g, 0, none⟩)) := (same_of hsame 5 (by rfl)).trans rfl
            unfold vCanA at EG
            refine g_want rfl rfl rfl EG ?_
            exact does_value (w' := W) (v := .pointer (some ⟨g, 0, none⟩)) (by go_simp) ⟨(), .inr rfl, hS⟩
          · have EG := hval 4 _ 18 rfl rfl (dep_of hdep 4 (by rfl))
            have E23 := hval 9 _ 23 rfl rfl (dep_of hdep 9 (by rfl))
            unfold vCanA at EG E23
            have kg := HS.out.2.2.2.keep hS
            have g0 := kg.cell 0 rfl
            have g1 := kg.cell 1 rfl
            have g2 := (HS.out.2.1.keep hS).cell 0 rfl
            refine g_want rfl rfl rfl EG ?_
            exact does_value (w' := W) (v := .int .i64 d.1) (by go_simp) ⟨(), .inr rfl, hS⟩
          · have EG := hval 4 _ 18 rfl rfl (dep_of hdep 4 (by rfl))
            have E22 := hval 8 _ 22 rfl rfl (dep_of hdep 8 (by rfl))
            have E24 := hval 10 _ 24 rfl rfl (dep_of hdep 10 (by rfl))
            unfold vCanA at EG E22 E24
            refine g_want rfl rfl rfl EG ?_
            refine does_call 66 #[.slice A n c, .int .i64 d.1] (by go_simp) ((HNX.out W hS).mono ?_)
            rintro _ W' ⟨rfl, hb⟩
            exact ⟨_, rfl, (), .inr rfl, hS.trans (hb.mono hS.size)⟩
          · have EG := hval 4 _ 18 rfl rfl (dep_of hdep 4 (by rfl))
            have E25 := hval 11 _ 25 rfl rfl (dep_of hdep 11 (by rfl))
            unfold vCanA at EG E25
            have hfd : ∀ W, (Instr.field 27 (.agg #[.int .i64 d.1, .int .i64 z]) 1).run Try.prog W = .ok (.int .i64 z) W := fun _ => by kernel_rfl
            refine g_want rfl rfl rfl EG ?_
            exact does_value (w' := W) (v := .int .i64 z) (by go_simp) ⟨(), .inr rfl, hS⟩
          · have EG := hval 4 _ 18 rfl rfl (dep_of hdep 4 (by rfl))
            have E20 := hval 6 _ 20 rfl rfl (dep_of hdep 6 (by rfl))
            have E26 := hval 12 _ 26 rfl rfl (dep_of hdep 12 (by rfl))
            unfold vCanA at EG E20 E26
            refine g_want rfl rfl rfl EG ?_
            exact does_value (w' := W) (v := .bool q2) (by go_simp; exact HQ2.out) ⟨(), .inr rfl, hS⟩
          · have E18 := hval 4 _ 18 rfl rfl (dep_of hdep 4 (by rfl))
            have E27 := hval 13 _ 27 rfl rfl (dep_of hdep 13 (by rfl))
            unfold vCanA at E18 E27
            refine g_plain rfl ?_
            exact does_value (w' := W) (v := .bool q2) (by go_simp) ⟨(), .inr rfl, hS⟩
        · intro gh W hS
          have HS2 := hid hS
          clear hS
          simp only [putAll, vCanA, Nat.reduceAdd, Nat.zero_add, Act.put, List.setIfInBounds_toArray, List.set_cons_zero, List.set_cons_succ]
          cases q2 with
          | true =>
            have HE := hid (HXC.out (fun h => absurd h.2 (by have := of_decide_eq_true HQ2.out; omega)))
            have HF := hid (HS.out.1.trans (HS2.out.mono HS.out.1.size))
            clear HXC HXO
            go_wp2_with fail
            go_ret
            exact ⟨ret_bool HE.out, HF.out⟩
          | false =>
            have HO := hid (HXO.out hq (by have := of_decide_eq_false HQ2.out; omega))
            have KG := hid (HS.out.2.2.2.keep HS2.out); have KP := hid (HS.out.2.1.keep HS2.out); have KB := hid (HS.out.2.2.1.keep HS2.out)
            have hp1 : w.heap.size = p := HPP.out
            have hp12 : p + 1 = p2 := HPP2.out
            have HN := hid (show ∀ W', W' = W.setRow p2 #[.int .i64 d.1, .int .i64 d.2] → Below w.heap.size w W' ∧ Blk W' p 25 #[.slice A n c, .slice (some ⟨b, o1, none⟩) m e] ∧ Blk W' p2 27 #[.int .i64 (prevD ds (k + 1)).1, .int .i64 (prevD ds (k + 1)).2] from by
              rintro W' rfl
              refine ⟨(HS.out.1.trans (HS2.out.mono HS.out.1.size)).trans (below_of_grown (grown_setRow _ _ _) (Nat.le_trans HS.out.1.size HS2.out.size) (fun b e => by injection e with e; omega)), KP.out.grown (grown_setRow _ _ _) (fun e => by injection e with e; omega), ?_⟩
              rw [HPN.out]
              exact KB.out.setRow _)
            clear HXC HXO hq hq1 hp1 hp12
            go_wp2_with (first | (refine wpList_load_row rfl 27 _ rfl g rfl 27 #[.int .i64 d.1, .int .i64 d.2] (0, 0) _ KG.out Try.underlying27 rfl (by kernel_rfl) ?_) | (refine wpList_store_blk rfl 27 _ _ rfl p2 #[.int .i64 d.1, .int .i64 d.2] rfl rfl 27 _ KB.out (by kernel_rfl) rfl (by rfl) ?_; refine Held.go ?_))
            have HN2 := hid (HN.out _ rfl)
            unfold Held
            go_wp2_with fail
            go_roundw
            case rel => exact ⟨k + 1, hlt, by go_num, HO, HN2⟩
            case measure => simp [intOf]; omega
      · have hq1 : 0 ≤ cm := by omega
        have HE := hid (HXC.out (fun h => absurd h.1 hq))
        clear hc1 hc2 HXC HXO hq
        refine wp_region_invG 39 () (vCanB d pv cm) (fun _ _ W => Below w4.heap.size w4 W) (by kernel_rfl) (by kernel_rfl) (by exact Nat.le_refl 39) ?_ ?_ ?_
        · exact (Below.refl _ _).drew
        · intro i o f gh a W hi hf hdep hsame hcl hval hS
          rcases i with _ | _ | _ | _ | _ | _ | _ | _ | _ | _ | _ | _ | _ | _ | _ | i
          all_goals simp only [List.getElem?_cons_succ, List.getElem?_cons_zero, List.getElem?_nil, Option.some.injEq, reduceCtorEq] at hi
          all_goals subst hi
          · have E3 : a.tmps[3]? = some (.pointer (some ⟨p2, 0, none⟩)) := (same_of hsame 3 (by rfl)).trans rfl
            refine g_plain rfl ?_
            exact does_load_dotB _ rfl p2 (by rw [eval_getD, E3]; rfl) (HS.out.2.2.1.keep hS) ⟨(), .inr rfl, hS⟩
          · have E5 : a.tmps[5]? = some (.pointer (some ⟨g, 0, none⟩)) := (same_of hsame 5 (by rfl)).trans rfl
            refine g_plain rfl ?_
            exact does_load_dotB _ rfl g (by rw [eval_getD, E5]; rfl) (HS.out.2.2.2.keep hS) ⟨(), .inr rfl, hS⟩
          · have E14 := hval 0 _ 14 rfl rfl (dep_of hdep 0 (by rfl))
            have E15 := hval 1 _ 15 rfl rfl (dep_of hdep 1 (by rfl))
            unfold vCanB at E14 E15
            refine g_plain rfl ?_
            refine does_call 49 #[dvv pv, dvv d] (by go_simp) ((HCM.out W).mono ?_)
            rintro _ W' ⟨rfl, hb⟩
            exact ⟨.int .i64 cm, rfl, (), .inr rfl, hS.trans (hb.below.mono hS.size)⟩
          · have E16 := hval 2 _ 16 rfl rfl (dep_of hdep 2 (by rfl))
            unfold vCanB at E16
            refine g_plain rfl ?_
            exact does_value (w' := W) (v := .bool true) (by go_simp) ⟨(), .inr rfl, hS⟩
          · have E17 := hval 3 _ 17 rfl rfl (dep_of hdep 3 (by rfl))
            unfold vCanB at E17
            refine g_plain rfl ?_
            exact does_value (w' := W) (v := .bool true) (by go_simp) ⟨(), .inr rfl, hS⟩
          · have EG := hval 4 _ 18 rfl rfl (dep_of hdep 4 (by rfl))
            unfold vCanB at EG
            exact g_skip rfl rfl rfl EG rfl ⟨(), .inr rfl, hS⟩
          · have EG := hval 4 _ 18 rfl rfl (dep_of hdep 4 (by rfl))
            unfold vCanB at EG
            exact g_skip rfl rfl rfl EG rfl ⟨(), .inr rfl, hS⟩
          · have EG := hval 4 _ 18 rfl rfl (dep_of hdep 4 (by rfl))
            unfold vCanB at EG
            exact g_skip rfl rfl rfl EG rfl ⟨(), .inr rfl, hS⟩
          · have EG := hval 4 _ 18 rfl rfl (dep_of hdep 4 (by rfl))
            unfold vCanB at EG
            exact g_skip rfl rfl rfl EG rfl ⟨(), .inr rfl, hS⟩
          · have EG := hval 4 _ 18 rfl rfl (dep_of hdep 4 (by rfl))
            unfold vCanB at EG
            exact g_skip rfl rfl rfl EG rfl ⟨(), .inr rfl, hS⟩
          · have EG := hval 4 _ 18 rfl rfl (dep_of hdep 4 (by rfl))
            unfold vCanB at EG
            exact g_skip rfl rfl rfl EG rfl ⟨(), .inr rfl, hS⟩
          · have EG := hval 4 _ 18 rfl rfl (dep_of hdep 4 (by rfl))
            unfold vCanB at EG
            exact g_skip rfl rfl rfl EG rfl ⟨(), .inr rfl, hS⟩
          · have EG := hval 4 _ 18 rfl rfl (dep_of hdep 4 (by rfl))
            unfold vCanB at EG
            exact g_skip rfl rfl rfl EG rfl ⟨(), .inr rfl, hS⟩
          · have EG := hval 4 _ 18 rfl rfl (dep_of hdep 4 (by rfl))
            unfold vCanB at EG
            exact g_skip rfl rfl rfl EG rfl ⟨(), .inr rfl, hS⟩
          · have E18 := hval 4 _ 18 rfl rfl (dep_of hdep 4 (by rfl))
            have E27 := hval 13 _ 27 rfl rfl (dep_of hdep 13 (by rfl))
            unfold vCanB at E18 E27
            refine g_plain rfl ?_
            exact does_value (w' := W) (v := .bool true) (by go_simp) ⟨(), .inr rfl, hS⟩
        · intro gh W hS
          have HF := hid (HS.out.1.trans (hS.mono HS.out.1.size))
          clear hS
          simp only [putAll, vCanB, Nat.reduceAdd, Nat.zero_add, Act.put, List.setIfInBounds_toArray, List.set_cons_zero, List.set_cons_succ]
          go_wp2_with fail
          go_ret
          exact ⟨ret_bool HE.out, HF.out⟩
    · obtain rfl : k = m := by omega
      obtain ⟨T, hT⟩ : ∃ T, (trim v).length = T := ⟨_, rfl⟩
      have HTR := hid (fun W (hb : Below wr.heap.size wr W) => ocTrim_calls n c A v W (H1.out.keep (HW.out.1.trans (hb.mono HW.out.1.size))) hn hnc)
      rw [hT] at HTR
      obtain ⟨q, hq⟩ : ∃ q, decide (T = n) = q := ⟨_, rfl⟩
      have HE := hid (show q = Z from by
        rw [← hq, ← HZ.out, Bool.eq_iff_iff, decide_eq_true_iff, decide_eq_true_iff]
        constructor
        · intro e
          exact can_of_ok (fun i hi => HQ.out i (by have := L2.out; omega)) (by rw [hT, e, L1.out])
        · intro e
          have := can_trim e
          rw [hT, L1.out] at this
          exact this)
      have HQ2 := hid hq
      clear hq hT HQ hlt
      go_wp2_with fail
      refine wp_region_invG 39 () (vCanC A n c p q T) (fun _ _ W => Below wr.heap.size wr W) (by kernel_rfl) (by kernel_rfl) (by exact Nat.le_refl 39) ?_ ?_ ?_
      · exact (Below.refl _ _).drew
      · intro i o f gh a W hi hf hdep hsame hcl hval hS
        rcases i with _ | _ | _ | _ | _ | _ | _ | _ | _ | i
        all_goals simp only [List.getElem?_cons_succ, List.getElem?_cons_zero, List.getElem?_nil, Option.some.injEq, reduceCtorEq] at hi
        all_goals subst hi
        · have E1 : a.tmps[1]? = some (.pointer (some ⟨p, 0, none⟩)) := (same_of hsame 1 (by rfl)).trans rfl
          refine g_plain rfl ?_
          exact does_value (w' := W) (v := .pointer (some ⟨p, 0, none⟩)) (by go_simp) ⟨(), .inr rfl, hS⟩
        · have E31 := hval 0 _ 31 rfl rfl (dep_of hdep 0 (by rfl))
          unfold vCanC at E31
          have g2 := (HW.out.2.1.keep hS).cell 0 rfl
          refine g_plain rfl ?_
          exact does_value (w' := W) (v := .slice A n c) (by go_simp) ⟨(), .inr rfl, hS⟩
        · have E32 := hval 1 _ 32 rfl rfl (dep_of hdep 1 (by rfl))
          unfold vCanC at E32
          refine g_plain rfl ?_
          refine does_call 69 #[.slice A n c] (by go_simp) ((HTR.out W hS).mono ?_)
          rintro _ W' ⟨rfl, rfl⟩
          exact ⟨_, rfl, (), .inr rfl, hS⟩
        · have E33 := hval 2 _ 33 rfl rfl (dep_of hdep 2 (by rfl))
          unfold vCanC at E33
          refine g_plain rfl ?_
          exact does_value (w' := W) (v := .int .i64 (T : Int)) (by go_simp) ⟨(), .inr rfl, hS⟩
        · have E1 : a.tmps[1]? = some (.pointer (some ⟨p, 0, none⟩)) := (same_of hsame 1 (by rfl)).trans rfl
          refine g_plain rfl ?_
          exact does_value (w' := W) (v := .pointer (some ⟨p, 0, none⟩)) (by go_simp) ⟨(), .inr rfl, hS⟩
        · have E35 := hval 4 _ 35 rfl rfl (dep_of hdep 4 (by rfl))
          unfold vCanC at E35
          have g2 := (HW.out.2.1.keep hS).cell 0 rfl
          refine g_plain rfl ?_
          exact does_value (w' := W) (v := .slice A n c) (by go_simp) ⟨(), .inr rfl, hS⟩
        · have E36 := hval 5 _ 36 rfl rfl (dep_of hdep 5 (by rfl))
          unfold vCanC at E36
          refine g_plain rfl ?_
          exact does_value (w' := W) (v := .int .i64 (n : Int)) (by go_simp) ⟨(), .inr rfl, hS⟩
        · have E34 := hval 3 _ 34 rfl rfl (dep_of hdep 3 (by rfl))
          have E37 := hval 6 _ 37 rfl rfl (dep_of hdep 6 (by rfl))
          unfold vCanC at E34 E37
          refine g_plain rfl ?_
          exact does_value (w' := W) (v := .bool q) (by go_simp; rw [← HQ2.out, Bool.eq_iff_iff, beq_iff_eq, decide_eq_true_iff]; omega) ⟨(), .inr rfl, hS⟩
        · have E38 := hval 7 _ 38 rfl rfl (dep_of hdep 7 (by rfl))
          unfold vCanC at E38
          refine g_plain rfl ?_
          exact does_value (w' := W) (v := .bool q) (by go_simp) ⟨(), .inr rfl, hS⟩
      · intro gh W hS
        have HF := hid (HW.out.1.trans (hS.mono HW.out.1.size))
        clear hS
        simp only [putAll, vCanC, Nat.reduceAdd, Nat.zero_add, Act.put, List.setIfInBounds_toArray, List.set_cons_zero, List.set_cons_succ]
        go_wp2_with fail
        go_ret
        exact ⟨ret_bool HE.out, HF.out⟩
/-- a cloud in its form -/
theorem canon_check {v : List Int} {ds : List Dt} (h : ranged v ds) (h2 : ds.length ≤ 4096) : checkC (v, ds) = if decide (Cl.Can v ds) then 0 else 2 := check_form h h2 _ decide_eq_true_iff
set_option maxRecDepth 20000 in
set_option maxHeartbeats 1000000 in
theorem ocCheck_calls (n c m e : Nat) (A B : Option Addr) (v : List Int) (ds : List Dt) (w : World) (h1 : NI w A n v) (h2 : ND w B m ds) (hn : n ≤ 1000000) (hm : m ≤ 900000) (hnc : n ≤ c) :
    Calls Try.prog 18 #[cdv A n c B m e] w fun x w' => x = .returned (.int .i64 (checkC (v, ds))) ∧ Below w.heap.size w w' := by
  obtain ⟨p, hp⟩ : ∃ p, w.heap.size = p := ⟨_, rfl⟩
  have hb := below_new w (.cells #[.slice A n c, .slice B m e] 25)
  have hk := Blk.new w 25 #[.slice A n c, .slice B m e]
  obtain ⟨w1, hw1⟩ : ∃ w1, w.alloc (.cells #[.slice A n c, .slice B m e] 25) = w1 := ⟨_, rfl⟩
  rw [hw1] at hb hk
  rw [hp] at hk
  have HW1 := hid hw1; have HPP := hid hp; have HB := hid hb; have HK := hid hk
  have H1 := hid (h1.keep hb); have H2 := hid (h2.keep hb); have L2 := hid h2.1
  have HC := hid (ocInRange_calls n c m e A B v ds w1 H1.out H2.out hn (by omega))
  obtain ⟨Z, hZ⟩ : ∃ Z, checkC (v, ds) = Z := ⟨_, rfl⟩
  have HZ := hid hZ
  rw [hZ]
  have c0 := hk.cell 0 rfl; have c1 := hk.cell 1 rfl
  clear h1 h2 hp hb hk hw1 hZ
  show Calls Try.prog 18 #[.agg #[.slice A n c, .slice B m e]] w _
  by_cases hr : ranged v ds
  · rw [decide_eq_true hr] at HC
    have HR := hid hr
    clear hr
    by_cases hfull : 4096 < m
    · have hfull' : (4096 : Int) < (m : Int) := by omega
      have HE := hid (show 10 = Z from by rw [← HZ.out]; unfold checkC; rw [if_pos HR.out, if_pos (by show 4096 < ds.length; rw [L2.out]; exact hfull)])
      go_enter Try.func18, Try.ntmps18
      go_wp2_with fail
      rw [HW1.out, HPP.out]
      go_wp2_with fail
      refine HC.out.mono ?_
      rintro x W2 ⟨rfl, hb2⟩
      have K2 := hid (HK.out.keep hb2)
      have HF := hid (HB.out.trans (hb2.mono HB.out.size))
      clear hb2 c0 c1 HC
      have c1 := K2.out.cell 1 rfl
      go_wp2_with fail
      go_ret
      exact ⟨ret_int HE.out, HF.out⟩
    · have hfull' : ¬ (4096 : Int) < (m : Int) := by omega
      obtain ⟨q, hq⟩ : ∃ q, decide (Cl.Can v ds) = q := ⟨_, rfl⟩
      have HE := hid (show (if q then 0 else 2) = Z from by rw [← hq, ← HZ.out, canon_check HR.out (by have := L2.out; omega)])
      have HCN := hid (fun W (hb : Below w1.heap.size w1 W) => ocCanon_calls n c m e A B v ds W (H1.out.keep hb) (H2.out.keep hb) hn hm hnc HR.out)
      rw [hq] at HCN
      unfold cdv at HCN
      clear hq
      go_enter Try.func18, Try.ntmps18
      go_wp2_with fail
      rw [HW1.out, HPP.out]
      go_wp2_with fail
      refine HC.out.mono ?_
      rintro x W2 ⟨rfl, hb2⟩
      have HB2 := hid hb2
      have K2 := hid (HK.out.keep hb2)
      have HC2 := hid (HCN.out W2 hb2)
      clear hb2 c0 c1 HC HCN
      have c0 := K2.out.cell 0 rfl; have c1 := K2.out.cell 1 rfl
      go_wp2_with fail
      refine HC2.out.mono ?_
      rintro x W3 ⟨rfl, hb3⟩
      have HF := hid (HB.out.trans ((HB2.out.trans (hb3.mono HB2.out.size)).mono HB.out.size))
      clear hb3 c0 c1 HC2
      cases q with
      | true =>
        go_wp2_with fail
        go_ret
        exact ⟨ret_int HE.out, HF.out⟩
      | false =>
        go_wp2_with fail
        go_ret
        exact ⟨ret_int HE.out, HF.out⟩
  · rw [decide_eq_false hr] at HC
    have HE := hid (show 3 = Z from by rw [← HZ.out]; unfold checkC; rw [if_neg hr])
    clear hr
    go_enter Try.func18, Try.ntmps18
    go_wp2_with fail
    rw [HW1.out, HPP.out]
    go_wp2_with fail
    refine HC.out.mono ?_
    rintro x W2 ⟨rfl, hb2⟩
    have HF := hid (HB.out.trans (hb2.mono HB.out.size))
    clear hb2 c0 c1 HC
    go_wp2_with fail
    go_ret
    exact ⟨ret_int HE.out, HF.out⟩
set_option maxRecDepth 20000 in
set_option maxHeartbeats 1000000 in
theorem ocBoth_calls (n c m e n2 c2 m2 e2 : Nat) (A B A2 B2 : Option Addr) (v v2 : List Int) (ds ds2 : List Dt) (w : World) (h1 : NI w A n v) (h2 : ND w B m ds) (h3 : NI w A2 n2 v2) (h4 : ND w B2 m2 ds2) (hn : n ≤ 1000000) (hm : m ≤ 900000) (hn2 : n2 ≤ 1000000) (hm2 : m2 ≤ 900000) (hnc : n ≤ c) (hnc2 : n2 ≤ c2) :
    Calls Try.prog 55 #[cdv A n c B m e, cdv A2 n2 c2 B2 m2 e2] w fun x w' => x = .returned (.int .i64 (bothC (v, ds) (v2, ds2))) ∧ Below w.heap.size w w' := by
  obtain ⟨w1, hw1, k1, k2, hb⟩ := two_clouds w #[.slice A n c, .slice B m e] #[.slice A2 n2 c2, .slice B2 m2 e2]
  obtain ⟨p, hp⟩ : ∃ p, w.heap.size = p := ⟨_, rfl⟩
  obtain ⟨p2, hp2⟩ : ∃ p2, w.heap.size + 1 = p2 := ⟨_, rfl⟩
  rw [hp] at k1
  rw [hp2] at k2
  have HW1 := hid hw1; have HB := hid hb; have HPP := hid hp; have HPP2 := hid hp2
  have HC := hid (ocCheck_calls n c m e A B v ds w1 (h1.keep hb) (h2.keep hb) hn hm hnc)
  have HH := hid (fun W (hb2 : Below w1.heap.size w1 W) => ocCheck_calls n2 c2 m2 e2 A2 B2 v2 ds2 W ((h3.keep hb).keep hb2) ((h4.keep hb).keep hb2) hn2 hm2 hnc2)
  have K1 := hid k1; have K2 := hid k2
  obtain ⟨Z, hZ⟩ : ∃ Z, bothC (v, ds) (v2, ds2) = Z := ⟨_, rfl⟩
  rw [hZ]
  obtain ⟨ck, hck⟩ : ∃ ck, checkC (v, ds) = ck := ⟨_, rfl⟩
  obtain ⟨q, hq⟩ : ∃ q, checkC (v2, ds2) = q := ⟨_, rfl⟩
  have HY := hid (show ck = 0 → q = Z from fun h => by rw [← hZ, ← hq]; unfold bothC; rw [if_pos (hck.trans h)])
  have HN := hid (show ¬ ck = 0 → ck = Z from fun h => by rw [← hZ]; unfold bothC; rw [if_neg (by rw [hck]; exact h)]; exact hck.symm)
  rw [hck] at HC
  rw [hq] at HH
  have c0 := k1.cell 0 rfl; have c1 := k1.cell 1 rfl; have c3 := k2.cell 0 rfl; have c4 := k2.cell 1 rfl
  clear h1 h2 h3 h4 hw1 hb hp hp2 k1 k2 hZ hck hq
  unfold cdv at HC HH
  show Calls Try.prog 55 #[.agg #[.slice A n c, .slice B m e], .agg #[.slice A2 n2 c2, .slice B2 m2 e2]] w _
  go_enter Try.func55, Try.ntmps55
  go_wp2_with fail
  rw [← HW1.out, HPP2.out, HPP.out]
  go_wp2_with fail
  refine HC.out.mono ?_
  rintro x W2 ⟨rfl, hb2⟩
  have HB2 := hid hb2
  have HH2 := hid (HH.out W2 hb2)
  have K4 := hid (K2.out.keep hb2)
  clear hb2 c0 c1 c3 c4 HC HH
  have c3 := K4.out.cell 0 rfl; have c4 := K4.out.cell 1 rfl
  by_cases h0 : ck = 0
  · have HE := hid (HY.out h0)
    subst h0
    go_wp2_with fail
    refine HH2.out.mono ?_
    rintro x W3 ⟨rfl, hb3⟩
    have HF := hid (HB.out.trans ((HB2.out.trans (hb3.mono HB2.out.size)).mono HB.out.size))
    clear hb3
    go_wp2_with fail
    go_ret
    exact ⟨ret_int HE.out, HF.out⟩
  · have HE := hid (HN.out h0)
    have HF := hid (HB.out.trans (HB2.out.mono HB.out.size))
    have hcb : (ck == 0) = false := by simpa using h0
    go_wp2_with fail
    go_ret
    exact ⟨ret_int HE.out, HF.out⟩
end Go.Proofs.Ythjflgnoeenenaa
