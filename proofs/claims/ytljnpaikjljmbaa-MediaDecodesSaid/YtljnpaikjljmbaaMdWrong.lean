/- Contracts: which manifests can't be encoded: negative, ContainsFunc, ofItsKind, wrong. -/
import Derived.Test.YtljnpaikjljmbaaMdBody
namespace Go.Proofs.Ytljnpaikjljmbaa
open Go.RowKit

def negB (d : DD) : Bool := decide (d.m < 0) || decide (d.s < 0)
def kindB (m : MM) : Bool := if m.k = 3 then decide (m.u.length = 0) else if m.k = 4 then eqD m.c zeroD && decide (m.l.length = 0) else false
def wrongE (m : MM) : Int := if kindB m = false then 20 else if (negB m.c || (m.l.any negB || m.u.any negB)) = true then 3 else if 16 < m.l.length ∨ 8 < m.u.length then 4 else 0
set_option maxHeartbeats 1000000 in
theorem negative_calls (d : DD) (h32 : d.id.length = 32) (w : World) :
    Calls Try.prog 55 #[.agg (dcs d).toArray] w fun e w' => e = .returned (.bool (negB d)) ∧ Below w.heap.size w w' := by
  have hb := below_new w (.cells (dcs d).toArray 25)
  have hk := Blk.new w 25 (dcs d).toArray
  have c0 := hk.cell 0 (by rw [List.getElem?_toArray]; exact dcs_0 d)
  have c33 := hk.cell 33 (by rw [List.getElem?_toArray]; exact dcs_33 h32)
  have HB := hid hb
  clear hb hk h32
  unfold negB
  generalize (dcs d).toArray = cs at c0 c33 HB ⊢
  generalize d.m = m at c0 ⊢
  generalize d.s = s at c33 ⊢
  by_cases hm : m < 0
  · rw [show (decide (m < 0) || decide (s < 0)) = true from by simp [hm]]
    go_enter Try.func55, Try.ntmps55
    go_wp2_with fail
    go_ret
    exact ⟨rfl, HB.out⟩
  · rw [show (decide (m < 0) || decide (s < 0)) = decide (s < 0) from by simp [hm]]
    by_cases hs : s < 0
    · rw [show decide (s < 0) = true from by simp [hs]]
      go_enter Try.func55, Try.ntmps55
      go_wp2_with fail
      go_ret
      exact ⟨rfl, HB.out⟩
    · rw [show decide (s < 0) = false from by simp [hs]]
      go_enter Try.func55, Try.ntmps55
      go_wp2_with fail
      go_ret
      exact ⟨rfl, HB.out⟩
theorem enters_neg : EntersV 55 := enters_of Try.func55 (by kernel_rfl) rfl
def IdxP (w : World) (ds : List DD) (e : Ending) (w' : World) : Prop := ∃ x : Int, e = .returned (.int .i64 x) ∧ (0 ≤ x ↔ ds.any negB = true) ∧ Below w.heap.size w w'
set_option maxHeartbeats 2000000 in
theorem indexNeg_calls (B n c : Nat) (A : Option Addr) (ds : List DD) (w : World) (hs : SDs w B A n ds) (hn : n ≤ 9223372036854775807) :
    Calls Try.prog 78 #[.slice A n c, .func (.func 55) #[] #[]] w (IdxP w ds) := by
  have hlen := hs.1
  have HS := hid hs
  have HE := hid enters_neg
  subst hlen
  have HF := hid (fun (x : Int) W (h : 0 ≤ x ↔ ds.any negB = true) (hb : Below w.heap.size w W) => (show IdxP w ds (.returned (.int .i64 x)) W from ⟨x, rfl, h, hb⟩))
  clear hs
  generalize IdxP w ds = Q at HF ⊢
  go_enter Try.func78, Try.ntmps78
  go_wp2_with fail
  go_loopw [5, 8] (fun _ v8 wr => ∃ (k : Nat), v8 = .int .i64 (k : Int) ∧ k ≤ ds.length ∧ Hid ((ds.take k).any negB = false) ∧ Hid (Below w.heap.size w wr)) (fun _ v8 _ => ds.length - (intOf v8).toNat)
  case atStart => exact ⟨0, rfl, Nat.zero_le _, hid rfl, hid (Below.refl _ _)⟩
  case round =>
    obtain ⟨k, rfl, hk, HN, HB⟩ := hrel
    by_cases hlt : k < ds.length
    · have hlt' : (k : Int) < (ds.length : Int) := by omega
      obtain ⟨b, off, d, rfl, hbB, hdk, hdm, h32, hc⟩ := (HS.out.keep HB.out).at_ hlt
      have HRUN := hid (run_load_desc h32 hc)
      have HDC := hid (fun W => negative_calls d h32 W)
      have HT := hid (show (ds.take (k + 1)).any negB = ((ds.take k).any negB || negB d) from by rw [List.take_add_one, hdk, List.any_append]; simp)
      have HA := hid (show negB d = true → ds.any negB = true from fun h => List.any_eq_true.2 ⟨d, hdm, h⟩)
      have hE := HE.out
      unfold EntersV at hE
      generalize (dcs d).toArray = cs at HRUN HDC
      generalize negB d = nb at HDC HT HA
      clear hc h32 hdk hdm
      go_wp2_with (first | (refine wpList_load_run rfl 25 _ rfl _ _ rfl HRUN.out ?_))
      refine (HDC.out wr).mono ?_
      rintro _ w1 ⟨rfl, hb1⟩
      have HB1 := hid (HB.out.trans (hb1.mono HB.out.size))
      clear hb1 HDC HRUN hE
      cases nb with
      | true =>
        go_wp2_with fail
        exact HF.out (k : Int) _ ⟨fun _ => HA.out trivial, fun _ => by omega⟩ HB1.out
      | false =>
        have HN1 := hid (show (ds.take (k + 1)).any negB = false from by rw [HT.out, HN.out]; rfl)
        clear HT HA HN HB
        go_wp2_with fail
        go_roundw
        case rel => exact ⟨k + 1, by go_num, by omega, HN1, HB1⟩
        case measure => simp [intOf]; omega
    · obtain rfl : k = ds.length := by omega
      have HN1 := hid (show ds.any negB = false from by have := HN.out; rwa [List.take_length] at this)
      clear HN
      go_wp2_with fail
      exact HF.out (-1) _ ⟨fun h => by omega, fun h => by rw [HN1.out] at h; cases h⟩ HB.out
theorem containsNeg_calls (B n c : Nat) (A : Option Addr) (ds : List DD) (w : World) (hs : SDs w B A n ds) (hn : n ≤ 9223372036854775807) :
    Calls Try.prog 56 #[.slice A n c, .func (.func 55) #[] #[]] w fun e w' => e = .returned (.bool (ds.any negB)) ∧ Below w.heap.size w w' := by
  have HC := hid (indexNeg_calls B n c A ds w hs hn)
  clear hs
  unfold IdxP at HC
  generalize ds.any negB = nb at HC ⊢
  go_enter Try.func56, Try.ntmps56
  go_wp2_with fail
  refine HC.out.mono ?_
  rintro _ w1 ⟨x, rfl, hx, hb⟩
  have HB := hid hb
  clear hb HC
  by_cases h0 : 0 ≤ x
  · have e := hx.1 h0
    subst e
    clear hx
    go_wp2_with fail
    go_ret
    exact ⟨ret_bool (by simp), HB.out⟩
  · have e : nb = false := by
      cases nb with
      | false => rfl
      | true => exact absurd (hx.2 rfl) h0
    subst e
    clear hx
    go_wp2_with fail
    go_ret
    exact ⟨ret_bool (by simp; omega), HB.out⟩
set_option maxRecDepth 20000 in
set_option maxHeartbeats 1000000 in
theorem ofItsKind_calls (B : Nat) (m : MM) (v1 v2 : Value) (w : World) (hi : MIn w B m v1 v2) :
    Calls Try.prog 54 #[.agg (mcs m v1 v2).toArray] w fun e w' => e = .returned (.bool (kindB m)) ∧ Below w.heap.size w w' := by
  obtain ⟨h32, A, c, A2, c2, e1, e2, -, -, -, -⟩ := hi
  have hb := below_new w (.cells (mcs m v1 v2).toArray 28)
  have hk := Blk.new w 28 (mcs m v1 v2).toArray
  have d0 := hk.cell 0 (by rw [List.getElem?_toArray]; exact mcs_0 m v1 v2)
  have d37 := hk.cell 37 (by rw [List.getElem?_toArray]; exact mcs_37 h32 v1 v2)
  have d38 := hk.cell 38 (by rw [List.getElem?_toArray]; exact mcs_38 h32 v1 v2)
  have hrun : (loadVar 25 ⟨w.heap.size, 2, none⟩).run Try.prog (w.alloc (.cells (mcs m v1 v2).toArray 28)) = .ok (.agg (dcs m.c).toArray) (w.alloc (.cells (mcs m v1 v2).toArray 28)) := by
    have hk2 := hk
    rw [mcs_part] at hk2
    have := part_load hk2 (P := Try.prog) 25 (off := 2) rfl Try.underlying25 rfl (size_desc h32)
    rw [← mcs_part] at this
    exact this
  have heq := hid (fun W => run_eq_desc m.c zeroD h32 zeroD_id W)
  have HB := hid hb
  clear hb hk
  unfold kindB
  generalize (mcs m v1 v2).toArray = cm at d0 d37 d38 hrun HB ⊢
  rw [e1] at d37
  rw [e2] at d38
  generalize m.k = k at d0 ⊢
  generalize m.l.length = n1 at d37 ⊢
  generalize m.u.length = n2 at d38 ⊢
  generalize (dcs m.c).toArray = cc at hrun heq
  generalize eqD m.c zeroD = eb at heq ⊢
  clear e1 e2 h32
  by_cases h3 : k = 3
  · subst h3
    rw [if_pos rfl]
    clear hrun heq d37
    go_enter Try.func54, Try.ntmps54
    go_wp2_with fail
    go_ret
    exact ⟨ret_bool (by rw [Bool.eq_iff_iff]; simp), HB.out⟩
  · rw [if_neg h3]
    by_cases h4 : k = 4
    · subst h4
      rw [if_pos rfl]
      have HRUN := hid hrun
      clear hrun d38
      have e0 : ((n1 : Int) == 0) = decide (n1 = 0) := by rw [Bool.eq_iff_iff]; simp
      cases eb with
      | true =>
        rw [Bool.true_and]
        go_enter Try.func54, Try.ntmps54
        go_wp2_with (first | (refine wpList_load_run rfl 25 _ rfl _ _ rfl HRUN.out ?_) | (refine wpList_eql_agg rfl 25 _ _ _ rfl _ _ rfl rfl (by kernel_rfl) (heq.out _) ?_))
        go_ret
        exact ⟨rfl, HB.out⟩
      | false =>
        rw [Bool.false_and]
        go_enter Try.func54, Try.ntmps54
        go_wp2_with (first | (refine wpList_load_run rfl 25 _ rfl _ _ rfl HRUN.out ?_) | (refine wpList_eql_agg rfl 25 _ _ _ rfl _ _ rfl rfl (by kernel_rfl) (heq.out _) ?_))
        go_ret
        exact ⟨rfl, HB.out⟩
    · rw [if_neg h4]
      clear hrun heq d37 d38
      go_enter Try.func54, Try.ntmps54
      go_wp2_with fail
      go_ret
      exact ⟨rfl, HB.out⟩
set_option maxRecDepth 20000 in
set_option maxHeartbeats 2000000 in
theorem wrong_calls (B : Nat) (m : MM) (v1 v2 : Value) (w : World) (hi : MIn w B m v1 v2) (hl1 : m.l.length ≤ 1000000) (hl2 : m.u.length ≤ 1000000) :
    Calls Try.prog 31 #[.agg (mcs m v1 v2).toArray] w fun e w' => e = .returned (.int .i64 (wrongE m)) ∧ Below w.heap.size w w' := by
  have hb := below_new w (.cells (mcs m v1 v2).toArray 28)
  have hk := Blk.new w 28 (mcs m v1 v2).toArray
  have h32 := hi.1
  have HSM := hid (size_man (m := m) h32 v1 v2)
  have HF := hid (fun W (hb : Below w.heap.size w W) => ofItsKind_calls B m v1 v2 W (hi.keep hb))
  obtain ⟨-, A, c, A2, c2, e1, e2, hs1, hs2, -, -⟩ := hi
  have HNC := hid (fun W => negative_calls m.c h32 W)
  have HN1 := hid (fun W (hb : Below w.heap.size w W) => containsNeg_calls B m.l.length c A m.l W (hs1.keep hb) (by omega))
  have HN2 := hid (fun W (hb : Below w.heap.size w W) => containsNeg_calls B m.u.length c2 A2 m.u W (hs2.keep hb) (by omega))
  have HC := hid (fun W (hW : Below (w.alloc (.cells (mcs m v1 v2).toArray 28)).heap.size (w.alloc (.cells (mcs m v1 v2).toArray 28)) W) => (⟨(hk.keep hW).cell 37 (by rw [List.getElem?_toArray]; exact mcs_37 h32 v1 v2), (hk.keep hW).cell 38 (by rw [List.getElem?_toArray]; exact mcs_38 h32 v1 v2), run_loadVar_row W w.heap.size _ _ _ (0, 0) _ (hk.keep hW) Try.underlying28 rfl HSM.out, by
    have hk2 := hk.keep hW
    rw [mcs_part] at hk2
    exact part_load hk2 (P := Try.prog) 25 (off := 2) rfl Try.underlying25 rfl (size_desc h32)⟩ : W.cell? ⟨w.heap.size, 37, none⟩ = some v1 ∧ W.cell? ⟨w.heap.size, 38, none⟩ = some v2 ∧ (loadVar 28 ⟨w.heap.size, 0, none⟩).run Try.prog W = .ok (.agg (mcs m v1 v2).toArray) W ∧ (loadVar 25 ⟨w.heap.size, 2, none⟩).run Try.prog W = .ok (.agg (dcs m.c).toArray) W))
  have HB := hid hb
  clear hb hk HSM hs1 hs2 h32
  generalize (mcs m v1 v2).toArray = cm at HF HC HB ⊢
  rw [e1, e2] at HC
  have HE := hid (show wrongE m = if kindB m = false then 20 else if (negB m.c || (m.l.any negB || m.u.any negB)) = true then 3 else if 16 < m.l.length ∨ 8 < m.u.length then 4 else 0 from rfl)
  generalize wrongE m = E at HE ⊢
  generalize kindB m = kb at HF HE
  generalize negB m.c = b0 at HNC HE
  generalize m.l.any negB = b1 at HN1 HE
  generalize m.u.any negB = b2 at HN2 HE
  generalize m.l.length = n1 at HC HN1 HE hl1
  generalize m.u.length = n2 at HC HN2 HE hl2
  generalize (dcs m.c).toArray = cc at HC HNC
  clear e1 e2
  go_enter Try.func31, Try.ntmps31
  go_wp2_with (first | (refine wpList_load_run rfl 28 _ rfl _ _ rfl (HC.out _ (Below.refl _ _)).2.2.1 ?_))
  generalize hw1 : w.alloc (.cells cm 28) = w1 at HC HB ⊢
  clear hw1
  refine (HF.out w1 HB.out).mono ?_
  rintro _ w2 ⟨rfl, hb2⟩
  have HB2 := hid hb2
  have HBW := hid (HB.out.trans (hb2.mono HB.out.size))
  clear hb2 HF
  cases kb with
  | false =>
    have HE := hid (show E = 20 from HE.out)
    go_wp2_with fail
    go_ret
    exact ⟨ret_int HE.out.symm, HBW.out⟩
  | true =>
    obtain ⟨p37, p38, -, prun⟩ := HC.out w2 HB2.out
    have PRUN := hid prun
    clear prun
    go_wp2_with (first | (refine wpList_load_run rfl 25 _ rfl _ _ rfl PRUN.out ?_))
    refine (HNC.out w2).mono ?_
    rintro _ w3 ⟨rfl, hb3⟩
    have HB3 := hid (HB2.out.trans (hb3.mono HB2.out.size))
    have HBW3 := hid (HBW.out.trans (hb3.mono HBW.out.size))
    obtain ⟨p37', p38', -, -⟩ := HC.out w3 HB3.out
    clear hb3 HNC PRUN HB2 HBW p37 p38
    cases b0 with
    | true =>
      have HE := hid (show E = 3 from HE.out)
      go_wp2_with fail
      go_ret
      exact ⟨ret_int HE.out.symm, HBW3.out⟩
    | false =>
      go_wp2_with fail
      refine (HN1.out w3 HBW3.out).mono ?_
      rintro _ w4 ⟨rfl, hb4⟩
      have HB4 := hid (HB3.out.trans (hb4.mono HB3.out.size))
      have HBW4 := hid (HBW3.out.trans (hb4.mono HBW3.out.size))
      obtain ⟨p37, p38, -, -⟩ := HC.out w4 HB4.out
      clear hb4 HN1 HB3 HBW3 p37' p38'
      cases b1 with
      | true =>
        have HE := hid (show E = 3 from HE.out)
        go_wp2_with fail
        go_ret
        exact ⟨ret_int HE.out.symm, HBW4.out⟩
      | false =>
        go_wp2_with fail
        refine (HN2.out w4 HBW4.out).mono ?_
        rintro _ w5 ⟨rfl, hb5⟩
        have HB5 := hid (HB4.out.trans (hb5.mono HB4.out.size))
        have HBW5 := hid (HBW4.out.trans (hb5.mono HBW4.out.size))
        obtain ⟨p37', p38', -, -⟩ := HC.out w5 HB5.out
        clear hb5 HN2 HB4 HBW4 p37 p38
        cases b2 with
        | true =>
          have HE := hid (show E = 3 from HE.out)
          go_wp2_with fail
          go_ret
          exact ⟨ret_int HE.out.symm, HBW5.out⟩
        | false =>
          have HE := hid (show E = if 16 < n1 ∨ 8 < n2 then 4 else 0 from HE.out)
          clear HC
          by_cases q1 : 16 < n1
          · have q1' : (16 : Int) < (n1 : Int) := by omega
            have HE := hid (show E = 4 from by rw [HE.out, if_pos (.inl q1)])
            go_wp2_with fail
            go_ret
            exact ⟨ret_int HE.out.symm, HBW5.out⟩
          · have q1' : ¬ (16 : Int) < (n1 : Int) := by omega
            by_cases q2 : 8 < n2
            · have q2' : (8 : Int) < (n2 : Int) := by omega
              have HE := hid (show E = 4 from by rw [HE.out, if_pos (.inr q2)])
              go_wp2_with fail
              go_ret
              exact ⟨ret_int HE.out.symm, HBW5.out⟩
            · have q2' : ¬ (8 : Int) < (n2 : Int) := by omega
              have HE := hid (show E = 0 from by rw [HE.out, if_neg (by omega)])
              go_wp2_with fail
              go_ret
              exact ⟨ret_int HE.out.symm, HBW5.out⟩
end Go.Proofs.Ytljnpaikjljmbaa
