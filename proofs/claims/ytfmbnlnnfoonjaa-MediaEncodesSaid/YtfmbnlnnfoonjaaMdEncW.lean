/- Contracts: the kit's CopyManifest. -/
import Derived.Test.YtfmbnlnnfoonjaaMdDec
import Derived.Test.YtfmbnlnnfoonjaaMdConc
import Derived.Test.YtfmbnlnnfoonjaaMdRefE
import Derived.Test.YtfmbnlnnfoonjaaMdOpen
import Derived.Test.YtfmbnlnnfoonjaaMdKnown
import Derived.Test.YtfmbnlnnfoonjaaWrKit
import Derived.Test.YtfmbnlnnfoonjaaMdBack
namespace Go.Proofs.Ytfmbnlnnfoonjaa
open Go.RowKit

theorem OwnD.lit0 (w : World) (base : Nat) (h : base ≤ w.heap.size) : OwnD (w.alloc (.cells #[] 25)) base (.slice (some ⟨w.heap.size, 0, none⟩) 0 0) [] :=
  ⟨rfl, .inr ⟨w.heap.size, 0, #[], rfl, h, Blk.new w _ _, Nat.le_refl _, by unfold maxLen; omega, rfl, rfl⟩⟩
def CopP (w : World) (m : MM) (e : Ending) (w' : World) : Prop :=
  ∃ u1 u2, e = .returned (.agg (mcs m u1 u2).toArray) ∧ OwnD w' w.heap.size u1 m.l ∧ OwnD w' w.heap.size u2 m.u ∧ Below w.heap.size w w'
set_option maxRecDepth 20000 in
set_option maxHeartbeats 2000000 in
theorem copyMan_calls (B : Nat) (m : MM) (v1 v2 : Value) (w : World) (hi : MIn w B m v1 v2) (hB : B ≤ w.heap.size) (hl1 : m.l.length ≤ 100000) (hl2 : m.u.length ≤ 100000) :
    Calls Try.prog 10 #[.agg (mcs m v1 v2).toArray] w (CopP w m) := by
  obtain ⟨k0, k1, hb⟩ := two_new w (mcs m v1 v2).toArray zmc 28 28
  have hz := (zero_of_info infoM).1
  have h32 := hi.1
  obtain ⟨-, A, c, A2, c2, e1, e2, hs1, hs2, -, -⟩ := hi.keep hb
  have d37 := k0.cell 37 (show (mcs m v1 v2).toArray[37]? = some (.slice A m.l.length c) from by rw [List.getElem?_toArray, ← e1]; exact mcs_37 h32 v1 v2)
  have hsz : ((w.alloc (.cells (mcs m v1 v2).toArray 28)).alloc (.cells zmc 28)).heap.size = w.heap.size + 2 := by rw [size_new, size_new]
  have HK0 := hid k0; have HK1 := hid k1; have HB := hid hb; have HS1 := hid hs1; have HS2 := hid hs2; have H32 := hid h32
  have HE := hid (show v1 = .slice A m.l.length c ∧ v2 = .slice A2 m.u.length c2 from ⟨e1, e2⟩)
  have HLN := hid (show m.l.length ≤ 100000 ∧ m.u.length ≤ 100000 from ⟨hl1, hl2⟩)
  clear k0 k1 hb hs1 hs2 h32 e1 e2 hi hl1 hl2
  obtain ⟨cm, hcm⟩ : ∃ cm, cm = (mcs m v1 v2).toArray := ⟨_, rfl⟩
  rw [← hcm] at HK0 HK1 HB HS1 HS2 d37 hsz ⊢
  have HCM := hid hcm
  clear hcm
  generalize hzd : zmc = zd at hz HK0 HK1 HB HS1 HS2 d37 hsz
  have HZD := hid hzd
  clear hzd
  generalize hw2 : (w.alloc (.cells cm 28)).alloc (.cells zd 28) = w2 at HK0 HK1 HB HS1 HS2 d37 hsz
  have HSZ := hid hsz
  clear hsz
  have b3 := below_new w2 (.cells #[] 25)
  have o3 := OwnD.lit0 w2 w2.heap.size (Nat.le_refl _)
  have d37' := cellKeep d37 b3
  generalize hw3 : w2.alloc (.cells #[] 25) = w3 at b3 o3 d37'
  have HB3 := hid b3; have HO3 := hid o3
  clear b3 o3
  go_enter Try.func10, Try.ntmps10
  go_wp2_with (at_builtin; refine Held.go ?_)
  have b3 := HB3.out; have o3 := HO3.out
  clear hw3 d37'
  refine wpList_append_descs rfl _ _ rfl _ rfl o3 m.l.length c A rfl (HS1.out.keep b3) (by have := HLN.out.1; show 0 + m.l.length ≤ 1000000; omega) b3.size ?_
  intro u1 w4 o4 g4
  have HB4 := hid (b3.trans (below_of_grown g4 b3.size (fun g e => (World.ownsRow.lt o3 g e).1)))
  have HO4 := hid (show OwnD w4 w2.heap.size u1 m.l from o4)
  have HK4 := hid (HK0.out.keep HB4.out); have HR4 := hid (HK1.out.keep HB4.out)
  have HS4 := hid (HS2.out.keep HB4.out)
  clear b3 o3 o4 g4 d37 hw2 HS1 HS2
  have hu1 : u1.oneCell' = true := by rcases HO4.out.form with ⟨_, _, _, rfl⟩; rfl
  obtain ⟨Au, nu, cu, rfl⟩ := HO4.out.form
  have d37 := HK4.out.cell 37 (by rw [HCM.out, List.getElem?_toArray]; exact mcs_37 H32.out _ _)
  have f37 := HK4.out.frozen 37
  have HK5 := hid (show Blk (w4.setCell ⟨w.heap.size, 37, none⟩ (.slice Au nu cu)) w.heap.size 28 (mcs m (.slice Au nu cu) v2).toArray from by
    have := HK4.out.set_ 37 (.slice Au nu cu)
    rw [HCM.out, mcs_set37 H32.out] at this
    exact this)
  have hc5 : Chg [w.heap.size] w4 (w4.setCell ⟨w.heap.size, 37, none⟩ (.slice Au nu cu)) := chg_set (by simp) 37 _
  have HR5 := hid (HR4.out.chg hc5 (by simp))
  have HB5 := hid (HB.out.trans ((HB4.out.mono HB.out.size).trans (hc5.below (fun b hb => by simp at hb; omega) (Nat.le_trans HB.out.size HB4.out.size))))
  have HS5 := hid (HS4.out.chg hc5 (fun b hb => by simp at hb; omega))
  have HO5 := hid (HO4.out.chg hc5 (fun b hb => by
    have := (World.ownsRow.lt HO4.out b hb).1
    have := HSZ.out
    simp; omega))
  have d38 := HK5.out.cell 38 (show (mcs m (.slice Au nu cu) v2).toArray[38]? = some (.slice A2 m.u.length c2) from by rw [List.getElem?_toArray, ← HE.out.2]; exact mcs_38 H32.out _ _)
  generalize hw5 : w4.setCell ⟨w.heap.size, 37, none⟩ (.slice Au nu cu) = w5 at HK5 HR5 HB5 HS5 HO5 d38
  clear hc5 HK4 HR4 HS4 HO4
  have b6 := below_new w5 (.cells #[] 25)
  have o6 := OwnD.lit0 w5 w5.heap.size (Nat.le_refl _)
  have d38' := cellKeep d38 b6
  generalize hw6 : w5.alloc (.cells #[] 25) = w6 at b6 o6 d38'
  have HB6 := hid b6; have HO6 := hid o6
  clear b6 o6
  go_wp2_with (at_builtin; refine Held.go ?_)
  have b6 := HB6.out; have o6 := HO6.out
  clear hw6 d38'
  refine wpList_append_descs rfl _ _ rfl _ rfl o6 m.u.length c2 A2 rfl (HS5.out.keep b6) (by have := HLN.out.2; show 0 + m.u.length ≤ 1000000; omega) b6.size ?_
  intro u2 w7 o7 g7
  have HB7 := hid (b6.trans (below_of_grown g7 b6.size (fun g e => (World.ownsRow.lt o6 g e).1)))
  have HO7 := hid (show OwnD w7 w5.heap.size u2 m.u from o7)
  have HK7 := hid (HK5.out.keep HB7.out); have HR7 := hid (HR5.out.keep HB7.out)
  have HP7 := hid (HO5.out.keep HB7.out)
  clear b6 o6 o7 g7 d37 f37 d38 hw5 HS5
  obtain ⟨Av, nv, cv, rfl⟩ := HO7.out.form
  have d38 := HK7.out.cell 38 (by rw [List.getElem?_toArray]; exact mcs_38 H32.out _ _)
  have f38 := HK7.out.frozen 38
  have HK8 := hid (show Blk (w7.setCell ⟨w.heap.size, 38, none⟩ (.slice Av nv cv)) w.heap.size 28 (mcs m (.slice Au nu cu) (.slice Av nv cv)).toArray from by
    have := HK7.out.set_ 38 (.slice Av nv cv)
    rw [mcs_set38 H32.out] at this
    exact this)
  have hc8 : Chg [w.heap.size] w7 (w7.setCell ⟨w.heap.size, 38, none⟩ (.slice Av nv cv)) := chg_set (by simp) 38 _
  have HR8 := hid (HR7.out.chg hc8 (by simp))
  have HB8 := hid (HB5.out.trans ((HB7.out.mono HB5.out.size).trans (hc8.below (fun b hb => by simp at hb; omega) (Nat.le_trans HB5.out.size HB7.out.size))))
  have HP8 := hid (HP7.out.chg hc8 (fun b hb => by
    have := (World.ownsRow.lt HP7.out b hb).1
    have := HSZ.out
    simp; omega))
  have HO8 := hid (HO7.out.chg hc8 (fun b hb => by
    have := (World.ownsRow.lt HO7.out b hb).1
    have := HB5.out.size
    have := HK5.out.lt
    simp; omega))
  have HSC := hid (size_man (m := m) H32.out (.slice Au nu cu) (.slice Av nv cv))
  have HSZ2 := hid (show zd.size = (mcs m (.slice Au nu cu) (.slice Av nv cv)).toArray.size from by rw [← HZD.out]; exact size_man2 m H32.out _ _)
  have HOC := hid (mcs_one m (.slice Au nu cu) (.slice Av nv cv) rfl rfl)
  generalize hw8 : w7.setCell ⟨w.heap.size, 38, none⟩ (.slice Av nv cv) = w8 at HK8 HR8 HB8 HP8 HO8
  have HRUN := hid (run_loadVar_row (P := Try.prog) w8 w.heap.size _ 28 _ (0, 0) _ HK8.out Try.underlying28 rfl HSC.out)
  have HFIN := hid (fun W (hc : Chg [w.heap.size + 1] w8 W) => (show OwnD W w.heap.size (.slice Au nu cu) m.l ∧ OwnD W w.heap.size (.slice Av nv cv) m.u ∧ Below w.heap.size w W from
    ⟨(HP8.out.chg hc (fun b hb => by
      have := (World.ownsRow.lt HP8.out b hb).1
      have := HSZ.out
      simp; omega)).lower (by have := HSZ.out; omega), (HO8.out.chg hc (fun b hb => by
      have := (World.ownsRow.lt HO8.out b hb).1
      have := HR5.out.lt
      simp; omega)).lower (by have := HB5.out.size; omega), HB8.out.trans (hc.below (fun b hb => by simp at hb; omega) HB8.out.size)⟩))
  have HCF := hid (rfl : (mcs m (.slice Au nu cu) (.slice Av nv cv)).toArray = (mcs m (.slice Au nu cu) (.slice Av nv cv)).toArray)
  clear hc8 HK7 HR7 HP7 HO7 HK8
  generalize hcF : (mcs m (.slice Au nu cu) (.slice Av nv cv)).toArray = cF at HSC HSZ2 HOC HRUN
  have HCE := hid hcF
  clear hcF HCF
  go_wp2_with (first | (refine wpList_load_run rfl 28 _ rfl _ _ rfl HRUN.out ?_) | ((refine wpList_store_blk rfl 28 _ _ rfl (w.heap.size + 1) _ rfl rfl 28 _ HR8.out HSC.out HSZ2.out HOC.out ?_); refine Held.go ?_))
  have KF := hid (HR8.out.setRow cF)
  have HX := hid (HFIN.out (w8.setRow (w.heap.size + 1) cF) (chg_row _ _ _))
  generalize w8.setRow (w.heap.size + 1) cF = w9 at KF HX ⊢
  unfold Held
  go_wp2_with fail
  refine bodyPost_ret (v := .agg cF) (results_cell_row rfl _ _ (w.heap.size + 1) 28 _ (0, 0) _ rfl KF.out Try.underlying28 rfl HSC.out) rfl ⟨_, _, by rw [← HCE.out], HX.out⟩
end Go.Proofs.Ytfmbnlnnfoonjaa
/- The walk of MediaEncodes. -/
namespace Go.Proofs.Ytfmbnlnnfoonjaa
open Go.RowKit

theorem mw_sm {m : MM} (h : MW m) (k : NotLong m) : SM m :=
  ⟨mw_ok h k, by have := k.t; omega, by have := k.c; omega, fun d hd => by have := k.ls d hd; omega, fun d hd => by have := k.us d hd; omega, by have := k.l; omega, by have := k.u; omega⟩
/-- a row that is written over, element by element -/
def RowO (W : World) (B : Nat) (A : Option Addr) (n : Nat) : Prop := 0 < n → ∃ g cur, A = some ⟨g, 0, none⟩ ∧ B ≤ g ∧ Blk W g 25 cur ∧ n * 35 ≤ cur.size
theorem OwnD.rowO {W : World} {base B n c : Nat} {A : Option Addr} {ds : List DD} (h : OwnD W base (.slice A n c) ds) (hB : B ≤ base) : RowO W B A n := fun hn => by
  rcases h.2 with ⟨e, h0⟩ | ⟨g, cap, cur, e, hb, hg, hnc, hcm, hsz, -⟩
  · injection e with _ e2 _; omega
  · injection e with e1 e2 e3
    have : n * 35 ≤ cap * 35 := Nat.mul_le_mul_right _ (by omega)
    exact ⟨g, cur, e1, by omega, hg, by omega⟩
theorem row_part (cur : Array Value) (o k : Nat) (ho : o = 0) (hk : (k + 1) * 35 ≤ cur.size) : ∃ pre mid post : List Value, cur = part pre mid post ∧ pre.length = o + k * 35 ∧ mid.length = 35 ∧ ∀ cs : List Value, cs.length = 35 → (part pre cs post).size = cur.size := by
  subst ho
  have hs : cur.toList.length = cur.size := Array.length_toList
  refine ⟨cur.toList.take (k * 35), (cur.toList.drop (k * 35)).take 35, cur.toList.drop (k * 35 + 35), ?_, ?_, ?_, ?_⟩
  · unfold part
    rw [List.append_assoc, ← List.drop_drop, List.take_append_drop, List.take_append_drop, Array.toArray_toList]
  · rw [List.length_take]; omega
  · rw [List.length_take, List.length_drop]; omega
  · intro cs hcs
    rw [part_size, List.length_take, List.length_drop]; omega
theorem descsL_id {m : MM} (h : m.c.id.length = 32) (h1 : ∀ d ∈ m.l, d.id.length = 32) (h2 : ∀ d ∈ m.u, d.id.length = 32) : ∀ d ∈ descsL m, d.id.length = 32 := by
  intro d hd
  unfold descsL at hd
  split at hd
  · rcases List.mem_cons.1 hd with rfl | hd
    · exact h
    · rcases List.mem_append.1 hd with hd | hd
      · exact h1 d hd
      · exact h2 d hd
  · rcases List.mem_append.1 hd with hd | hd
    · exact h1 d hd
    · exact h2 d hd
theorem descsL_le {m : MM} (h1 : m.l.length ≤ 20) (h2 : m.u.length ≤ 12) : (descsL m).length ≤ 33 := by
  unfold descsL
  split
  · simp; omega
  · simp; omega
def overD : DD := ⟨-7, zeroB 32, 0, []⟩
set_option maxRecDepth 20000 in
set_option maxHeartbeats 4000000 in
theorem encodes_calls (m : MM) (v1 v2 : Value) (w : World) (hi : MIn w w.heap.size m v1 v2) (hw : MW m) :
    Calls Try.prog 3 #[.agg (mcs m v1 v2).toArray] w fun e w' => e = .returned (.bool true) ∧ Below w.heap.size w w' := by
  have HBX := hid (BoxM.start hi)
  have HLG := hid (fun W (h : MIn W W.heap.size m v1 v2) => long_calls W.heap.size m v1 v2 W h)
  have HAW := hid awake_calls
  have HCP := hid (fun W (h : MIn W W.heap.size m v1 v2) h1 h2 => copyMan_calls W.heap.size m v1 v2 W h (Nat.le_refl _) h1 h2)
  have HEN := hid (fun W u1 u2 (hm : MOK m) (h : MIn W W.heap.size m u1 u2) => encode_calls W.heap.size m u1 u2 W hm h (Nat.le_refl _))
  have HRE := hid (fun W (hm : SM m) (h : MIn W W.heap.size m v1 v2) => refEncode_calls W.heap.size m v1 v2 W hm h (Nat.le_refl _))
  have HDS := hid (fun W u1 u2 (h : MIn W W.heap.size m u1 u2) h1 h2 => descsM_calls W.heap.size m u1 u2 W h (Nat.le_refl _) h1 h2)
  have HRD := hid (fun W (h : MIn W W.heap.size m v1 v2) h1 h2 => refDescs_calls W.heap.size m v1 v2 W h (Nat.le_refl _) h1 h2)
  have HSM0 := hid (fun (W : World) (x1 x2 : Value) (h : MIn W W.heap.size m x1 x2) (k : MIn W W.heap.size m v1 v2) hl => sameMan_calls W.heap.size W.heap.size m m x1 x2 v1 v2 W h k hl)
  have HMW := hid hw
  have H32 := hid (show m.c.id.length = 32 ∧ (∀ d ∈ m.l, d.id.length = 32) ∧ (∀ d ∈ m.u, d.id.length = 32) from ⟨hw.c.id, fun d hd => (hw.l d hd).id, fun d hd => (hw.u d hd).id⟩)
  clear hi hw
  generalize hcm : (mcs m v1 v2).toArray = cm at HBX HLG HCP HRE HRD HSM0 ⊢
  clear hcm
  go_enter Try.func3, Try.ntmps3
  generalize hw1 : w.alloc (.cells cm 28) = w1 at HBX
  have HR1 := hid HBX.out.run
  go_wp2_with (first | (refine wpList_load_run rfl 28 _ rfl _ _ rfl HR1.out ?_))
  refine (HLG.out w1 HBX.out.mIn).mono ?_
  rintro _ w3 ⟨b, rfl, hnl, hb3⟩
  have HX3 := hid (HBX.out.keep hb3)
  clear hb3 HLG HBX HR1 hw1
  cases b with
  | true =>
    clear hnl HCP HEN HRE HDS HRD HSM0 HMW
    go_wp2_with fail
    refine (HAW.out w3).mono ?_
    rintro _ w4 ⟨rfl, hb4⟩
    have HE4 := hid (HX3.out.bel.trans (hb4.mono HX3.out.bel.size))
    clear hb4 HAW HX3
    go_wp2_with fail
    go_ret
    exact ⟨rfl, HE4.out⟩
  | false =>
    have HNL := hid (hnl rfl)
    have HOK := hid (mw_sm HMW.out HNL.out)
    have HR3 := hid HX3.out.run
    have HNN := hid (show m.l.length ≤ 20 ∧ m.u.length ≤ 12 from ⟨HNL.out.l, HNL.out.u⟩)
    clear hnl HMW HNL
    go_wp2_with (first | (refine wpList_load_run rfl 28 _ rfl _ _ rfl HR3.out ?_))
    refine (HCP.out w3 HX3.out.mIn HOK.out.nl HOK.out.nu).mono ?_
    rintro _ w4 ⟨u1, u2, rfl, o1, o2, hb4⟩
    have HX4 := hid (HX3.out.keep hb4)
    have HO1 := hid o1; have HO2 := hid o2
    have HV1 := hid (show u1.oneCell' = true from by rcases o1.form with ⟨_, _, _, rfl⟩; rfl)
    have HV2 := hid (show u2.oneCell' = true from by rcases o2.form with ⟨_, _, _, rfl⟩; rfl)
    have HSC := hid (size_man (m := m) H32.out.1 u1 u2)
    have HSZ := hid (size_man2 m H32.out.1 u1 u2)
    have HOC := hid (mcs_one m u1 u2 HV1.out HV2.out)
    have HKN := hid (Blk.new w4 28 zmc)
    have HBN := hid (below_new w4 (.cells zmc 28))
    have hz := (zero_of_info infoM).1
    obtain ⟨cI, hcI⟩ : ∃ cI, cI = (mcs m u1 u2).toArray := ⟨_, rfl⟩
    rw [← hcI] at HSC HSZ HOC ⊢
    have HCI := hid hcI
    generalize zmc = zd at hz HSZ HKN HBN
    clear o1 o2 hb4 hcI HCP HX3 HR3 HV1 HV2
    go_wp2_with ((refine wpList_store_blk rfl 28 _ _ rfl w4.heap.size _ rfl rfl 28 _ HKN.out HSC.out HSZ.out HOC.out ?_); refine Held.go ?_)
    have HI5 := hid (show BoxM w4 ((w4.alloc (.cells zd 28)).setRow w4.heap.size cI) m u1 u2 cI from by
      have hg := grown_setRow (w4.alloc (.cells zd 28)) w4.heap.size cI
      have hb : Below w4.heap.size w4 ((w4.alloc (.cells zd 28)).setRow w4.heap.size cI) := HBN.out.trans (below_of_grown hg HBN.out.size (fun g e => by cases e; exact Nat.le_refl _))
      exact ⟨HCI.out, HKN.out.setRow cI, man_in H32.out.1 H32.out.2.1 H32.out.2.2 (HO1.out.keep hb) (HO2.out.keep hb), hb⟩)
    generalize (w4.alloc (.cells zd 28)).setRow w4.heap.size cI = w5 at HI5 ⊢
    have HX5 := hid (HX4.out.keep HI5.out.bel)
    clear HSC HSZ HOC HKN HBN HO1 HO2 hz HX4
    generalize hR : w4.heap.size = R
    have HI5R := hid (show ∀ W, Below w5.heap.size w5 W → (loadVar 28 ⟨R, 0, none⟩).run Try.prog W = .ok (.agg cI) W ∧ MIn W W.heap.size m u1 u2 from fun W hW => by
      have h := HI5.out.keep hW
      rw [← hR]
      exact ⟨h.run, h.mIn⟩)
    have HX5R := hid (show ∀ W, Below w5.heap.size w5 W → (loadVar 28 ⟨w.heap.size, 0, none⟩).run Try.prog W = .ok (.agg cm) W ∧ MIn W W.heap.size m v1 v2 ∧ Below w.heap.size w W from fun W hW => ⟨(HX5.out.keep hW).run, (HX5.out.keep hW).mIn, (HX5.out.keep hW).bel⟩)
    clear HI5 HX5 hR
    unfold Held
    have HL5 := hid (HI5R.out w5 (Below.refl _ _)).1
    go_wp2_with (first | (refine wpList_load_run rfl 28 _ rfl ⟨R, 0, none⟩ _ rfl HL5.out ?_))
    rw [HCI.out]
    refine (HEN.out w5 u1 u2 HOK.out.ok (HI5R.out w5 (Below.refl _ _)).2).mono ?_
    rintro _ w6 ⟨v6, rfl, ho6, hb6⟩
    rw [← HCI.out]
    obtain ⟨A6, c6, rfl, -, -, hown6⟩ := ho6.sb
    have HO6 := hid ho6; have HB6 := hid hb6
    have HBL6 := hid (show ∀ g, (Value.slice A6 (encB m).length c6).ownBlock = some g → w5.heap.size ≤ g ∧ g < w6.heap.size from hown6)
    clear ho6 hb6 hown6 HL5 HEN
    have HL6 := hid (HX5R.out w6 HB6.out).1
    go_wp2_with (first | (refine wpList_load_run rfl 28 _ rfl ⟨w.heap.size, 0, none⟩ _ rfl HL6.out ?_))
    refine (HRE.out w6 HOK.out (HX5R.out w6 HB6.out).2.1).mono ?_
    rintro _ w7 ⟨v7, rfl, ho7, hb7⟩
    obtain ⟨A7, c7, rfl, -, hs7, -⟩ := ho7.sb
    have HS7 := hid hs7
    have HO6b := hid (HO6.out.keep hb7)
    have HB7 := hid (HB6.out.trans (hb7.mono HB6.out.size))
    have HZ7 := hid hb7.size
    clear ho7 hs7 hb7 HL6 HRE HO6
    have HL7 := hid (HI5R.out w7 HB7.out).1
    go_wp2_with (first | (refine wpList_load_run rfl 28 _ rfl ⟨R, 0, none⟩ _ rfl HL7.out ?_))
    rw [HCI.out]
    refine (HDS.out w7 u1 u2 (HI5R.out w7 HB7.out).2 HOK.out.nl HOK.out.nu).mono ?_
    rintro _ w8 ⟨v8, rfl, ho8, hb8⟩
    rw [← HCI.out]
    obtain ⟨A8, c8, rfl, -, hsd8⟩ := ho8.sds (descsL_id H32.out.1 H32.out.2.1 H32.out.2.2)
    have HO8 := hid ho8
    have HSD8 := hid hsd8
    have HS8 := hid (HS7.out.keep hb8)
    have HO6c := hid (HO6b.out.keep hb8)
    have HB8 := hid (HB7.out.trans (hb8.mono HB7.out.size))
    have HZ8 := hid (Nat.le_trans HZ7.out hb8.size)
    clear ho8 hsd8 hb8 HS7 HO6b HL7 HDS
    have HEL := hid (show (encB m).length ≤ 4096 from by
      by_cases h : encE m = 0
      · obtain ⟨-, h2, h3⟩ := enc_zero HOK.out.ok h
        rw [h3]; exact h2
      · rw [show encB m = [] from if_neg h]; simp)
    have HDL := hid (descsL_le HNN.out.1 HNN.out.2)
    generalize hbs : encB m = bs at HEL HO6c HS8 HBL6 ⊢
    have HDID := hid (descsL_id H32.out.1 H32.out.2.1 H32.out.2.2)
    generalize hdl : descsL m = ds at HDL HO8 HSD8 HDID ⊢
    have HDLE := hid hdl
    generalize encE m = E
    clear hbs hdl
    obtain ⟨A6', c6', e6, -, sb6, -⟩ := HO6c.out.sb
    obtain ⟨rfl, rfl⟩ : A6 = A6' ∧ c6 = c6' := by injection e6 with h1 _ h3; exact ⟨h1, h3⟩
    have HS6 := hid sb6
    clear e6 sb6
    go_wp2_with fail
    refine (sameBytes_calls _ bs.length c6 _ bs.length c7 A6 A7 bs bs w8 HS6.out HS8.out).mono ?_
    rintro _ _ ⟨rfl, rfl⟩
    rw [beq_self_eq_true]
    have HL8 := hid (HX5R.out w8 HB8.out).1
    clear HS6 HS8
    go_wp2_with (first | (refine wpList_load_run_g (by rfl) 28 _ rfl ⟨w.heap.size, 0, none⟩ _ rfl HL8.out ?_))
    refine (HRD.out w8 (HX5R.out w8 HB8.out).2.1 HOK.out.nl HOK.out.nu).mono ?_
    rintro _ w9 ⟨v9, rfl, ho9, hb9⟩
    rw [HDLE.out] at ho9
    obtain ⟨A9, c9, rfl, -, hsd9⟩ := ho9.sds HDID.out
    have HSD9 := hid hsd9
    have HSD8b := hid (HSD8.out.keep hb9)
    have HO6d := hid (HO6c.out.keep hb9)
    have HO9 := hid (HO8.out.keep hb9)
    have HB9 := hid (HB8.out.trans (hb9.mono HB8.out.size))
    clear ho9 hsd9 hb9 HSD8 HO8 HO6c HL8 HRD
    go_wp2_with fail
    refine (sameDescs_calls ds.length c8 ds.length c9 _ _ A8 A9 ds ds w9 HSD8b.out HSD9.out (by have := HDL.out; omega) (by have := HDL.out; omega)).mono ?_
    rintro _ w10 ⟨rfl, hb10⟩
    rw [decide_eq_true rfl]
    have HO6e := hid (HO6d.out.keep hb10)
    have HO10 := hid (HO9.out.keep hb10)
    have HB10 := hid (HB9.out.trans (hb10.mono HB9.out.size))
    clear hb10 HSD8b HSD9 HO6d HO9
    go_wp2_with fail
    refine (overBytes_calls w5.heap.size bs.length c6 A6 bs w10 HO6e.out (by have := HEL.out; omega)).mono ?_
    rintro _ w11 ⟨rfl, hg11⟩
    have HB11 := hid (HB10.out.trans (below_of_grown hg11 HB10.out.size (fun g e => (HBL6.out g e).1)))
    have HO11 := hid (HO10.out.chg (Chg.of_grown (L := (Value.slice A6 bs.length c6).ownBlock.toList) hg11 (fun g e => by rw [e]; simp)) (fun b hb hm => by
      have h1 := (World.ownsRow.lt HO10.out b hb).1
      have h2 : (Value.slice A6 bs.length c6).ownBlock = some b := by simpa using hm
      have h3 := (HBL6.out b h2).2
      have h4 := HZ7.out
      omega))
    have HRO := hid (HO11.out.rowO (B := w5.heap.size) HB7.out.size)
    have hdl := HDL.out
    generalize ds.length = nd at hdl HRO
    clear hg11 HO6e HO10 HO11 HBL6 HEL
    go_wp2_with fail
    go_loopw [10] (fun i wr => ∃ k : Nat, i = .int .i64 (k : Int) ∧ k ≤ nd ∧ Hid (RowO wr w5.heap.size A8 nd) ∧ Hid (Below w5.heap.size w5 wr)) (fun i _ => nd - (intOf i).toNat)
    case atStart => exact ⟨0, rfl, Nat.zero_le _, HRO, HB11⟩
    case round =>
      clear HRO HB11
      obtain ⟨k, rfl, hk, HRO, HW⟩ := hrel
      by_cases hlt : k < nd
      · have hlt' : (k : Int) < (nd : Int) := by omega
        obtain ⟨g, cur, hA, hg, hblk, hcs⟩ := HRO.out (by omega)
        obtain ⟨o, ho⟩ : ∃ o : Nat, o = 0 := ⟨0, rfl⟩
        rw [← ho] at hA
        subst hA
        obtain ⟨pre, mid, post, hcur, hpre, hmid, hsz⟩ := row_part cur o k ho (by omega)
        have HBLK := hid (show Blk wr g 25 (part pre mid post) from by rw [← hcur]; exact hblk)
        have HPRE := hid hpre
        have HSD := hid (size_desc (d := overD) rfl)
        have HML := hid (show (dcs overD).length = mid.length from by rw [hmid]; rfl)
        have HBU := hid (fun W => (show (Instr.build 25 #[(0, .int .i64 (-7))]).run Try.prog W = .ok (.agg (dcs overD).toArray) W from run_build_desc (-7) W))
        have HNX := hid (show RowO (wr.setRow g (part pre (dcs overD) post)) w5.heap.size (some ⟨g, o, none⟩) nd from fun _ => ⟨g, _, by rw [ho], hg, HBLK.out.setRow _, by rw [hsz (dcs overD) rfl]; exact hcs⟩)
        have HWX := hid (show Below w5.heap.size w5 (wr.setRow g (part pre (dcs overD) post)) from HW.out.trans (below_of_grown (grown_setRow wr g _) HW.out.size (fun x e => by cases e; exact hg)))
        have HOC := hid (dcs_one overD)
        clear ho hcur hpre hmid hsz hblk hcs HRO hg
        go_wp2_with (refine wpList_store_part rfl 25 _ _ rfl g (o + k * 35) (dcs overD) rfl rfl HBLK.out HPRE.out HSD.out HML.out HOC.out ?_; refine Held.go ?_)
        generalize wr.setRow g (part pre (dcs overD) post) = wn at HNX HWX ⊢
        unfold Held
        go_wp2_with fail
        go_roundw
        case rel => exact ⟨k + 1, by go_num, by omega, HNX, HWX⟩
        case measure => simp [intOf]; omega
      · obtain rfl : k = nd := by omega
        obtain ⟨hi1, hi2⟩ := HI5R.out _ HW.out
        obtain ⟨hx1, hx2, hx3⟩ := HX5R.out _ HW.out
        have HLI := hid hi1; have HLX := hid hx1
        have HEX := hid hx3
        have HSM := hid (show Calls Try.prog 18 #[.agg cI, .agg cm] wr fun e w' => e = .returned (.bool true) ∧ Below wr.heap.size wr w' from by
          have h := HSM0.out wr u1 u2 hi2 hx2 (by have := HNN.out; omega)
          rw [← HCI.out, show eqM m m = true from eqM_iff.2 rfl] at h
          exact h)
        clear hi1 hi2 hx1 hx2 hx3 HRO HSM0
        go_wp2_with (first | (refine wpList_load_run_g (by rfl) 28 _ rfl ⟨R, 0, none⟩ _ rfl HLI.out ?_) | (refine wpList_load_run_g (by rfl) 28 _ rfl ⟨w.heap.size, 0, none⟩ _ rfl HLX.out ?_))
        refine HSM.out.mono ?_
        rintro _ w12 ⟨rfl, hb12⟩
        have HE12 := hid (HEX.out.trans (hb12.mono HEX.out.size))
        clear hb12 HSM HLI HLX
        go_wp2_with fail
        refine (HAW.out w12).mono ?_
        rintro _ w13 ⟨rfl, hb13⟩
        have HE13 := hid (HE12.out.trans (hb13.mono HE12.out.size))
        clear hb13
        go_wp2_with fail
        go_ret
        exact ⟨rfl, HE13.out⟩
end Go.Proofs.Ytfmbnlnnfoonjaa
