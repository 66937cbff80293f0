/- The walk of MediaKnown. Written by tools/mkmd.py out of XMdKnownW.tpl. -/
import Derived.Test.YtfmbnlnnfoonjaaMdGrow
namespace Go.Proofs.Ytfmbnlnnfoonjaa
open Go.RowKit

def mSub : MM := ⟨3, [], zeroD, [], [zeroD]⟩
def mNine : MM := ⟨4, [], zeroD, [], List.replicate 9 zeroD⟩
def mOdd : MM := ⟨3, [], dO, [], []⟩
def mImg : MM := ⟨3, [], dC, [dA, dB], []⟩
theorem dA_ok : DOK dA := ⟨rfl, lt63_of (by decide), lt63_of (by decide), by decide⟩
theorem dB_ok : DOK dB := ⟨rfl, lt63_of (by decide), lt63_of (by decide), by decide⟩
theorem dC_ok : DOK dC := ⟨rfl, lt63_of (by decide), lt63_of (by decide), by decide⟩
theorem dO_ok : DOK dO := ⟨rfl, lt63_of (by decide), lt63_of (by decide), by decide⟩
theorem mSub_ok : MOK mSub := ⟨zeroD_ok, by decide, by decide, by decide, lt63_of (by decide), by simp [mSub], by simp [mSub]; exact zeroD_ok⟩
theorem mNine_ok : MOK mNine := ⟨zeroD_ok, by decide, by decide, by decide, lt63_of (by decide), by simp [mNine], by intro d hd; rw [(List.mem_replicate.1 hd).2]; exact zeroD_ok⟩
theorem mOdd_ok : MOK mOdd := ⟨dO_ok, by decide, by decide, by decide, lt63_of (by decide), by simp [mOdd], by simp [mOdd]⟩
theorem mSub_enc : encE mSub = 20 := by decide +kernel
theorem mNine_enc : encE mNine = 4 := by decide +kernel
theorem mOdd_enc : encE mOdd = 3 := by decide +kernel
theorem mImg_descs : descsL mImg = [dC, dA, dB] := by rfl
/-- a block that is a row of descriptions -/
theorem blk_sds {W : World} {q : Nat} {ds : List DD} (h32 : ∀ d ∈ ds, d.id.length = 32) (h : Blk W q 25 (ds.flatMap dcs).toArray) : SDs W W.heap.size (some ⟨q, 0, none⟩) ds.length ds :=
  ⟨rfl, h32, fun _ => ⟨q, 0, rfl, h.lt, fun j d hj i v hi => by
    rw [Nat.zero_add]
    exact h.cell _ (by rw [List.getElem?_toArray]; exact flat_at h32 hj hi)⟩⟩
/-- what the operations leave -/
def KnP : Nat → Value → World → Prop
  | 3, v, W => ∃ q, v = .slice (some ⟨q, 0, none⟩) 1 1 ∧ SDs W W.heap.size (some ⟨q, 0, none⟩) 1 [zeroD]
  | 4, v, W => ∃ v2, v = .agg (mcs mSub nilV v2).toArray ∧ MIn W W.heap.size mSub nilV v2
  | 8, v, W => ∃ q, v = .slice (some ⟨q, 0, none⟩) 9 9 ∧ SDs W W.heap.size (some ⟨q, 0, none⟩) 9 (List.replicate 9 zeroD)
  | 9, v, W => ∃ v2, v = .agg (mcs mNine nilV v2).toArray ∧ MIn W W.heap.size mNine nilV v2
  | 18, v, W => ∃ A c, v = .slice A 3 c ∧ SDs W W.heap.size A 3 [dC, dA, dB]
  | 22, v, W => ∃ q, v = .slice (some ⟨q, 0, none⟩) 3 3 ∧ SDs W W.heap.size (some ⟨q, 0, none⟩) 3 [dC, dA, dB]
  | _, _, _ => True
theorem knP_st : ∀ i v W W', Below W.heap.size W W' → KnP i v W → KnP i v W' := by
  intro i v W W' hb h
  unfold KnP at h ⊢
  split at h
  · obtain ⟨q, e, hs⟩ := h; exact ⟨q, e, (hs.keep hb).more hb.size⟩
  · obtain ⟨q, e, hs⟩ := h; exact ⟨q, e, (hs.keep hb).more hb.size⟩
  · obtain ⟨q, e, hs⟩ := h; exact ⟨q, e, (hs.keep hb).more hb.size⟩
  · obtain ⟨q, e, hs⟩ := h; exact ⟨q, e, (hs.keep hb).more hb.size⟩
  · obtain ⟨A, c, e, hs⟩ := h; exact ⟨A, c, e, (hs.keep hb).more hb.size⟩
  · obtain ⟨q, e, hs⟩ := h; exact ⟨q, e, (hs.keep hb).more hb.size⟩
  · trivial
def knVal (c0 : Array Value) (cA : Array Value) (cB : Array Value) (cC : Array Value) (cI : Array Value) (cO : Array Value) : Nat → Value → Value
  | 0, _ => .bool true
  | 1, _ => .bool true
  | 2, _ => .agg c0
  | 3, k => k
  | 4, k => k
  | 5, _ => .bool true
  | 6, _ => .bool true
  | 7, _ => .bool true
  | 8, k => k
  | 9, k => k
  | 10, _ => .bool true
  | 11, _ => .bool true
  | 12, _ => .bool true
  | 13, _ => .agg cO
  | 14, _ => .bool true
  | 15, _ => .bool true
  | 16, _ => .bool true
  | 17, _ => .agg cI
  | 18, k => k
  | 19, _ => .agg cC
  | 20, _ => .agg cA
  | 21, _ => .agg cB
  | 22, k => k
  | 23, _ => .bool true
  | 24, _ => .bool true
  | 25, _ => .bool true
  | _, _ => undef
set_option maxRecDepth 20000 in
set_option maxHeartbeats 4000000 in
theorem known_calls (w : World) : Calls Try.prog 5 #[] w fun e w' => e = .returned (.bool true) ∧ Below w.heap.size w w' := by
  have HAW := hid (fun W => awake_calls W)
  have HA := hid (fun W => run_bA W)
  have HBB := hid (fun W => run_bB W)
  have HOO := hid (fun W => run_bO W)
  have H00 := hid (fun W => run_b0 W)
  have HS1 := hid (fun W => run_bs1 (dcs zeroD) rfl W)
  have HS2 := hid (fun W => run_bs2 W)
  have HS3 := hid (fun W => run_bs3 W)
  have HCC := hid (fun W => run_build_desc 1 W)
  have HIM := hid (fun q W => run_bImg q W)
  have HOD := hid (fun W => run_bOdd W)
  have HSB := hid (fun q W => run_bSub q W)
  have HNI := hid (fun q W => run_bNine q W)
  have HMK := hid (fun W => run_mk9 W)
  have hzd := (zero_of_info infoD).1
  have hzm := (zero_of_info infoM).1
  obtain ⟨k0, k1, hb1⟩ := two_new w zdc zdc 25 25
  have HK0 := hid k0; have HK1 := hid k1; have HB1 := hid hb1
  have HDA : Hid ((Try.prog.info? 25).map (·.size) = some (dcs dA).toArray.size) := size_descA rfl
  have HDB : Hid ((Try.prog.info? 25).map (·.size) = some (dcs dB).toArray.size) := size_descA rfl
  have HZA : Hid (zdc.size = (dcs dA).toArray.size) := rfl
  have HZB : Hid (zdc.size = (dcs dB).toArray.size) := rfl
  have HOA := hid (dcs_oneA dA)
  have HOB := hid (dcs_oneA dB)
  clear k0 k1 hb1
  generalize hzz : zdc = zd at hzd HK0 HK1 HB1 HZA HZB
  have HZD := hid hzz
  clear hzz
  generalize hca : (dcs dA).toArray = cA at HDA HZA HOA
  have HCA := hid hca
  generalize hcb : (dcs dB).toArray = cB at HDB HZB HOB
  have HCB := hid hcb
  have HA := hid (fun W => (show (Instr.build 25 #[(0, .int .i64 2), (2, .int .i64 1)]).run Try.prog W = .ok (.agg cA) W from by rw [← HCA.out]; exact run_bA W))
  have HBB := hid (fun W => (show (Instr.build 25 #[(0, .int .i64 2), (2, .int .i64 2)]).run Try.prog W = .ok (.agg cB) W from by rw [← HCB.out]; exact run_bB W))
  clear hca hcb
  go_enter Try.func5, Try.ntmps5
  go_wp2_with (first | (refine wpList_b2 rfl 25 0 _ 2 _ rfl (.int .i64 2) rfl (.int .i64 1) rfl (.agg cA) (HA.out _) ?_) | (refine wpList_b2 rfl 25 0 _ 2 _ rfl (.int .i64 2) rfl (.int .i64 2) rfl (.agg cB) (HBB.out _) ?_) | ((refine wpList_store_blk rfl 25 _ _ rfl w.heap.size cA rfl rfl 25 _ HK0.out HDA.out HZA.out HOA.out ?_); refine Held.go ?_))
  have HK0a := hid (HK0.out.setRow cA)
  have HK1a := hid (HK1.out.grown (grown_setRow _ w.heap.size cA) (by simp))
  have HB1a := hid (HB1.out.trans (below_of_grown (grown_setRow _ w.heap.size cA) HB1.out.size (fun g e => by cases e; exact Nat.le_refl _)))
  generalize ((w.alloc (.cells zd 25)).alloc (.cells zd 25)).setRow w.heap.size cA = w1 at HK0a HK1a HB1a ⊢
  clear HK0 HK1 HB1
  unfold Held
  go_wp2_with ((refine wpList_store_blk rfl 25 _ _ rfl (w.heap.size + 1) cB rfl rfl 25 _ HK1a.out HDB.out HZB.out HOB.out ?_); refine Held.go ?_)
  have HKA := hid (HK0a.out.grown (grown_setRow w1 (w.heap.size + 1) cB) (by simp))
  have HKB := hid (HK1a.out.setRow cB)
  have HBE := hid (HB1a.out.trans (below_of_grown (grown_setRow w1 (w.heap.size + 1) cB) HB1a.out.size (fun g e => by cases e; omega)))
  generalize w1.setRow (w.heap.size + 1) cB = w2 at HKA HKB HBE ⊢
  clear HK0a HK1a HB1a
  generalize hR : w.heap.size = R at HKA HKB ⊢
  have HRE := hid hR
  clear hR
  unfold Held
  -- the third region: an image
  have HRA := hid (run_loadVar_row (P := Try.prog) w2 R _ 25 _ (0, 0) _ HKA.out Try.underlying25 rfl HDA.out)
  have HRB := hid (run_loadVar_row (P := Try.prog) w2 (R + 1) _ 25 _ (0, 0) _ HKB.out Try.underlying25 rfl HDB.out)
  have hdl : (dcs dA ++ dcs dB).toArray = ([dA, dB].flatMap dcs).toArray := by simp
  have HS2 := hid (show (Instr.buildSlice 26 2 #[(0, .agg cA), (1, .agg cB)]).run Try.prog w2 = .ok (.slice (some ⟨w2.heap.size, 0, none⟩) 2 2) (w2.alloc (.cells ([dA, dB].flatMap dcs).toArray 25)) from by rw [← HCA.out, ← HCB.out, ← hdl]; exact run_bs2 w2)
  have hk3 := Blk.new w2 25 ([dA, dB].flatMap dcs).toArray
  have hb3 := below_new w2 (.cells ([dA, dB].flatMap dcs).toArray 25)
  have hs3 := size_new w2 (.cells ([dA, dB].flatMap dcs).toArray 25)
  generalize hw3 : w2.alloc (.cells ([dA, dB].flatMap dcs).toArray 25) = w3 at hk3 hb3 hs3 HS2
  have HSD := hid (blk_sds (ds := [dA, dB]) (by simp [dA, dB, zeroB]) hk3)
  have HKA3 := hid (HKA.out.keep hb3)
  have HKB3 := hid (HKB.out.keep hb3)
  have HBE3 := hid (HBE.out.trans (hb3.mono HBE.out.size))
  generalize hq : w2.heap.size = q at HS2 HSD hs3
  have HIM := hid (run_bImg q w3)
  have HMI := hid (show MIn w3 w3.heap.size mImg (.slice (some ⟨q, 0, none⟩) 2 2) nilV from ⟨rfl, some ⟨q, 0, none⟩, 2, none, 0, rfl, rfl, HSD.out, SDs.nil _ _ _, Nat.le_refl _, Nat.le_refl _⟩)
  have HSI : Hid ((Try.prog.info? 28).map (·.size) = some (mcs mImg (.slice (some ⟨q, 0, none⟩) 2 2) nilV).toArray.size) := size_man rfl _ _
  have HZI := hid (size_man2 mImg rfl (.slice (some ⟨q, 0, none⟩) 2 2) nilV)
  have HOI := hid (mcs_one mImg (.slice (some ⟨q, 0, none⟩) 2 2) nilV rfl rfl)
  have HIM2 := hid (show (Instr.build 28 #[(0, .int .i64 3), (2, .agg (dcs dC).toArray), (3, .slice (some ⟨q, 0, none⟩) 2 2)]).run Try.prog w3 = .ok (.agg (mcs mImg (.slice (some ⟨q, 0, none⟩) 2 2) nilV).toArray) w3 from HIM.out)
  have HNC := hid (show ∀ W, (Instr.build 25 #[(0, .int .i64 1)]).run Try.prog W = .ok (.agg (dcs dC).toArray) W from HCC.out)
  have HKZ := hid (Blk.new w3 28 zmc)
  have HNW := hid (new_set w3 28 zmc (mcs mImg (.slice (some ⟨q, 0, none⟩) 2 2) nilV).toArray)
  clear hk3 hb3 hdl HIM HKA HKB HBE HCC HSD
  generalize hcc : (dcs dC).toArray = cC at HIM2 HNC
  have HCCC := hid hcc
  generalize hci : (mcs mImg (.slice (some ⟨q, 0, none⟩) 2 2) nilV).toArray = cI at HIM2 HSI HZI HOI HNW
  have HCI := hid hci
  generalize hzz : zmc = zm at hzm HKZ HNW HZI
  have HZM := hid hzz
  clear hcc hci hzz hw3 hs3 hq
  go_wp2_with (first | (refine wpList_build1 rfl 25 0 _ rfl (.int .i64 1) _ rfl HNC.out ?_) | (refine wpList_load_run rfl 25 _ rfl ⟨R, 0, none⟩ _ rfl HRA.out ?_) | (refine wpList_load_run rfl 25 _ rfl ⟨R + 1, 0, none⟩ _ rfl HRB.out ?_) | (refine wpList_bs2 rfl 26 2 0 _ 1 _ rfl (.agg cA) rfl (.agg cB) rfl _ HS2.out ?_) | (refine wpList_b3 rfl 28 0 _ 2 _ 3 _ rfl (.int .i64 3) rfl (.agg cC) rfl (.slice (some ⟨q, 0, none⟩) 2 2) rfl _ HIM2.out ?_) | ((refine wpList_store_blk rfl 28 _ _ rfl w3.heap.size cI rfl rfl 28 _ HKZ.out HSI.out HZI.out HOI.out ?_); refine Held.go ?_))
  obtain ⟨hb4, hk4⟩ := HNW.out
  generalize (w3.alloc (.cells zm 28)).setRow w3.heap.size cI = w4 at hb4 hk4 ⊢
  generalize w3.heap.size = IB at hk4 HMI ⊢
  have HKI4 := hid hk4
  have HKA4 := hid (HKA3.out.keep hb4)
  have HKB4 := hid (HKB3.out.keep hb4)
  have HBE4 := hid (HBE3.out.trans (hb4.mono HBE3.out.size))
  have HMI4 := hid ((HMI.out.keep hb4).more (B' := w4.heap.size) (by have := hk4.lt; omega))
  have HOD2 := hid (run_bOdd w4)
  have HSO : Hid ((Try.prog.info? 28).map (·.size) = some (mcs mOdd nilV nilV).toArray.size) := size_man rfl _ _
  have HZO := hid (show zm.size = (mcs mOdd nilV nilV).toArray.size from by rw [← HZM.out]; exact size_man2 mOdd rfl _ _)
  have HOO2 := hid (mcs_one mOdd nilV nilV rfl rfl)
  have HOD3 := hid (show (Instr.build 28 #[(0, .int .i64 3), (2, .agg (dcs dO).toArray)]).run Try.prog w4 = .ok (.agg (mcs mOdd nilV nilV).toArray) w4 from HOD2.out)
  have HKZ := hid (Blk.new w4 28 zm)
  have HNW := hid (new_set w4 28 zm (mcs mOdd nilV nilV).toArray)
  have HNO := hid (show ∀ W, (Instr.build 25 #[(2, .int .i64 (-1))]).run Try.prog W = .ok (.agg (dcs dO).toArray) W from HOO.out)
  clear hb4 hk4 HKA3 HKB3 HBE3 HOD2 HOD HOO HMI HRA HRB HS2 HIM2 HNW
  have HNW := hid (new_set w4 28 zm (mcs mOdd nilV nilV).toArray)
  generalize hco : (mcs mOdd nilV nilV).toArray = cO at HOD3 HSO HZO HOO2 HNW
  have HCO := hid hco
  generalize (dcs dO).toArray = cX at HOD3 HNO
  clear hco
  unfold Held
  go_wp2_with (first | (refine wpList_build1 rfl 25 2 _ rfl (.int .i64 (-1)) _ rfl HNO.out ?_) | (refine wpList_b2 rfl 28 0 _ 2 _ rfl (.int .i64 3) rfl (.agg cX) rfl _ HOD3.out ?_) | ((refine wpList_store_blk rfl 28 _ _ rfl w4.heap.size cO rfl rfl 28 _ HKZ.out HSO.out HZO.out HOO2.out ?_); refine Held.go ?_))
  obtain ⟨hb5, hk5⟩ := HNW.out
  generalize (w4.alloc (.cells zm 28)).setRow w4.heap.size cO = w5 at hb5 hk5 ⊢
  have HMI5 := hid ((HMI4.out.keep hb5).more hb5.size)
  generalize w4.heap.size = OB at hk5 ⊢
  have HKO := hid hk5
  have HKI := hid (HKI4.out.keep hb5)
  have HKA := hid (HKA4.out.keep hb5)
  have HKB := hid (HKB4.out.keep hb5)
  have HBE := hid (HBE4.out.trans (hb5.mono HBE4.out.size))
  clear hb5 hk5 HKZ HNW HOD3 HSO HZO HOO2 HNO HKI4 HKA4 HKB4 HBE4 HMI4 hzm hzd HOI HZI HZA HZB HOA HOB
  have HRO := hid (fun W (hW : Below w5.heap.size w5 W) => run_loadVar_row (P := Try.prog) W OB _ 28 cO (0, 0) _ (HKO.out.keep hW) Try.underlying28 rfl (by rw [← HCO.out]; exact size_man rfl _ _))
  have HRI := hid (fun W (hW : Below w5.heap.size w5 W) => run_loadVar_row (P := Try.prog) W IB _ 28 cI (0, 0) _ (HKI.out.keep hW) Try.underlying28 rfl HSI.out)
  have HRA := hid (fun W (hW : Below w5.heap.size w5 W) => run_loadVar_row (P := Try.prog) W R _ 25 cA (0, 0) _ (HKA.out.keep hW) Try.underlying25 rfl HDA.out)
  have HRB := hid (fun W (hW : Below w5.heap.size w5 W) => run_loadVar_row (P := Try.prog) W (R + 1) _ 25 cB (0, 0) _ (HKB.out.keep hW) Try.underlying25 rfl HDB.out)
  have HF3 := hid (fun (W : World) => (show Calls Try.prog 24 #[.agg cO, .int .i64 3] W fun e w' => e = .returned (.bool true) ∧ Below W.heap.size W w' from by rw [← HCO.out]; exact fails_calls W.heap.size mOdd nilV nilV 3 W mOdd_ok (min_nil W _ rfl rfl rfl) (Nat.le_refl _) mOdd_enc (by omega)))
  have HDS := hid (fun W (hW : Below w5.heap.size w5 W) => (show Calls Try.prog 13 #[.agg cI] W fun e w' => ∃ v, e = .returned v ∧ OwnD w' W.heap.size v [dC, dA, dB] ∧ Below W.heap.size W w' from by rw [← HCI.out]; have := descsM_calls w5.heap.size mImg _ nilV W (HMI5.out.keep hW) hW.size (by simp [mImg]) (by simp [mImg]); rwa [mImg_descs] at this))
  have HS1 := hid (fun W => (show (Instr.buildSlice 26 1 #[(0, .agg (dcs zeroD).toArray)]).run Try.prog W = .ok (.slice (some ⟨W.heap.size, 0, none⟩) 1 1) (W.alloc (.cells ([zeroD].flatMap dcs).toArray 25)) from by have := run_bs1 (dcs zeroD) rfl W; simpa using this))
  have HS3 := hid (fun W => (show (Instr.buildSlice 26 3 #[(0, .agg cC), (1, .agg cA), (2, .agg cB)]).run Try.prog W = .ok (.slice (some ⟨W.heap.size, 0, none⟩) 3 3) (W.alloc (.cells ([dC, dA, dB].flatMap dcs).toArray 25)) from by rw [← HCA.out, ← HCB.out, ← HCCC.out]; have := run_bs3 W; simpa using this))
  generalize hc0 : (dcs zeroD).toArray = c0 at HS1 H00
  have HC0 := hid hc0
  clear hc0
  unfold Held
  go_wp2_with fail
  refine wp_region_invG 39 (.pointer none) (knVal c0 cA cB cC cI cO) (GrS 26 w5 KnP) (by kernel_rfl) (by kernel_rfl) (by exact Nat.le_refl 39) ?_ ?_ ?_
  · exact GrS.start _
  · intro i o f gh a W hi hf hdep hsame hcl hval hS
    rcases i with _ | _ | _ | _ | _ | _ | _ | _ | _ | _ | _ | _ | _ | _ | _ | _ | _ | _ | _ | _ | _ | _ | _ | _ | _ | _ | i
    all_goals simp only [List.getElem?_cons_succ, List.getElem?_cons_zero, List.getElem?_nil, Option.some.injEq, reduceCtorEq] at hi
    all_goals subst hi
    · refine g_plain rfl ?_
      refine does_call 9 #[] (by go_simp) ((HAW.out W).mono ?_)
      rintro _ W' ⟨rfl, hb⟩
      exact ⟨_, rfl, .bool true, .inr rfl, hS.step knP_st hb 0 _ trivial⟩
    · have E14 := hval 0 _ 14 rfl rfl (dep_of hdep 0 (by rfl))
      unfold knVal at E14
      refine g_plain rfl ?_
      exact does_value (w' := W) (v := .bool true) (by go_simp) ⟨(.pointer none), .inr rfl, hS.step knP_st (Below.refl _ _) 1 _ trivial⟩
    · have EG := hval 1 _ 15 rfl rfl (dep_of hdep 1 (by rfl))
      unfold knVal at EG
      refine g_want rfl rfl rfl EG ?_
      exact does_build _ _ rfl (ps := #[]) (by simp only [List.map_toArray, List.map_nil]) (H00.out W) ⟨.pointer none, .inr rfl, hS.step knP_st (Below.refl _ _) 2 _ trivial⟩
    · have EG := hval 1 _ 15 rfl rfl (dep_of hdep 1 (by rfl))
      have E16 := hval 2 _ 16 rfl rfl (dep_of hdep 2 (by rfl))
      unfold knVal at EG E16
      refine g_want rfl rfl rfl EG ?_
      refine does_bs _ _ _ rfl (ps := #[(0, .agg c0)]) ?_ (HS1.out W) ⟨.slice (some ⟨W.heap.size, 0, none⟩) 1 1, .inr rfl, hS.step knP_st (below_new W _) 3 _ ⟨W.heap.size, rfl, blk_sds (ds := [zeroD]) (by simp [zeroD, zeroB]) (Blk.new W _ _)⟩⟩
      simp only [List.map_toArray, List.map_cons, List.map_nil, eval_getD, E16, Option.getD_some]
    · have EG := hval 1 _ 15 rfl rfl (dep_of hdep 1 (by rfl))
      have E17 := hval 3 _ 17 rfl rfl (dep_of hdep 3 (by rfl))
      unfold knVal at EG E17
      refine g_want rfl rfl rfl EG ?_
      obtain ⟨qq, e3, hs3⟩ := hS.at_ 3 (by decide) (dep_of hdep 3 (by rfl))
      rw [e3] at E17
      refine does_build _ _ rfl (ps := #[(0, .int .i64 3), (4, .slice (some ⟨qq, 0, none⟩) 1 1)]) ?_ (HSB.out qq W) ⟨_, .inr rfl, hS.step knP_st (Below.refl _ _) 4 _ ⟨_, rfl, ⟨rfl, none, 0, some ⟨qq, 0, none⟩, 1, rfl, rfl, SDs.nil _ _ _, hs3, Nat.le_refl _, Nat.le_refl _⟩⟩⟩
      simp only [List.map_toArray, List.map_cons, List.map_nil, eval_getD, E17, Option.getD_some]
      rfl
    · have EG := hval 1 _ 15 rfl rfl (dep_of hdep 1 (by rfl))
      have E18 := hval 4 _ 18 rfl rfl (dep_of hdep 4 (by rfl))
      unfold knVal at EG E18
      refine g_want rfl rfl rfl EG ?_
      obtain ⟨v2, e4, hm⟩ := hS.at_ 4 (by decide) (dep_of hdep 4 (by rfl))
      rw [e4] at E18
      have HFF := hid (fails_calls W.heap.size mSub nilV v2 20 W mSub_ok hm (Nat.le_refl _) mSub_enc (by omega))
      generalize (mcs mSub nilV v2).toArray = cS at E18 HFF
      clear hm e4
      refine does_call 24 #[.agg cS, .int .i64 20] (by go_simp) (HFF.out.mono ?_)
      rintro _ W' ⟨rfl, hb⟩
      exact ⟨_, rfl, .bool true, .inr rfl, hS.step knP_st hb 5 _ trivial⟩
    · have E15 := hval 1 _ 15 rfl rfl (dep_of hdep 1 (by rfl))
      have E19 := hval 5 _ 19 rfl rfl (dep_of hdep 5 (by rfl))
      unfold knVal at E15 E19
      refine g_plain rfl ?_
      exact does_value (w' := W) (v := .bool true) (by go_simp) ⟨(.pointer none), .inr rfl, hS.step knP_st (Below.refl _ _) 6 _ trivial⟩
    · have E20 := hval 6 _ 20 rfl rfl (dep_of hdep 6 (by rfl))
      unfold knVal at E20
      refine g_plain rfl ?_
      exact does_value (w' := W) (v := .bool true) (by go_simp) ⟨(.pointer none), .inr rfl, hS.step knP_st (Below.refl _ _) 7 _ trivial⟩
    · have EG := hval 7 _ 21 rfl rfl (dep_of hdep 7 (by rfl))
      unfold knVal at EG
      refine g_want rfl rfl rfl EG ?_
      exact does_mk _ _ _ rfl (HMK.out W) ⟨.slice (some ⟨W.heap.size, 0, none⟩) 9 9, .inr rfl, hS.step knP_st (below_new W _) 8 _ ⟨W.heap.size, rfl, blk_sds (ds := List.replicate 9 zeroD) (by intro d hd; rw [(List.mem_replicate.1 hd).2]; rfl) (Blk.new W _ _)⟩⟩
    · have EG := hval 7 _ 21 rfl rfl (dep_of hdep 7 (by rfl))
      have E22 := hval 8 _ 22 rfl rfl (dep_of hdep 8 (by rfl))
      unfold knVal at EG E22
      refine g_want rfl rfl rfl EG ?_
      obtain ⟨qq, e8, hs8⟩ := hS.at_ 8 (by decide) (dep_of hdep 8 (by rfl))
      rw [e8] at E22
      refine does_build _ _ rfl (ps := #[(0, .int .i64 4), (4, .slice (some ⟨qq, 0, none⟩) 9 9)]) ?_ (HNI.out qq W) ⟨_, .inr rfl, hS.step knP_st (Below.refl _ _) 9 _ ⟨_, rfl, ⟨rfl, none, 0, some ⟨qq, 0, none⟩, 9, rfl, rfl, SDs.nil _ _ _, hs8, Nat.le_refl _, Nat.le_refl _⟩⟩⟩
      simp only [List.map_toArray, List.map_cons, List.map_nil, eval_getD, E22, Option.getD_some]
      rfl
    · have EG := hval 7 _ 21 rfl rfl (dep_of hdep 7 (by rfl))
      have E23 := hval 9 _ 23 rfl rfl (dep_of hdep 9 (by rfl))
      unfold knVal at EG E23
      refine g_want rfl rfl rfl EG ?_
      obtain ⟨v2, e9, hm⟩ := hS.at_ 9 (by decide) (dep_of hdep 9 (by rfl))
      rw [e9] at E23
      have HFF := hid (fails_calls W.heap.size mNine nilV v2 4 W mNine_ok hm (Nat.le_refl _) mNine_enc (by omega))
      generalize (mcs mNine nilV v2).toArray = cS at E23 HFF
      clear hm e9
      refine does_call 24 #[.agg cS, .int .i64 4] (by go_simp) (HFF.out.mono ?_)
      rintro _ W' ⟨rfl, hb⟩
      exact ⟨_, rfl, .bool true, .inr rfl, hS.step knP_st hb 10 _ trivial⟩
    · have E21 := hval 7 _ 21 rfl rfl (dep_of hdep 7 (by rfl))
      have E24 := hval 10 _ 24 rfl rfl (dep_of hdep 10 (by rfl))
      unfold knVal at E21 E24
      refine g_plain rfl ?_
      exact does_value (w' := W) (v := .bool true) (by go_simp) ⟨(.pointer none), .inr rfl, hS.step knP_st (Below.refl _ _) 11 _ trivial⟩
    · have E25 := hval 11 _ 25 rfl rfl (dep_of hdep 11 (by rfl))
      unfold knVal at E25
      refine g_plain rfl ?_
      exact does_value (w' := W) (v := .bool true) (by go_simp) ⟨(.pointer none), .inr rfl, hS.step knP_st (Below.refl _ _) 12 _ trivial⟩
    · have EG := hval 12 _ 26 rfl rfl (dep_of hdep 12 (by rfl))
      have E4 : a.tmps[4]? = some (.pointer (some ⟨OB, 0, none⟩)) := (same_of hsame 4 (by rfl)).trans rfl
      unfold knVal at EG
      refine g_want rfl rfl rfl EG ?_
      exact does_load_run _ _ rfl ⟨OB, 0, none⟩ _ (by rw [eval_getD, E4]; rfl) (HRO.out W hS.bel) ⟨.pointer none, .inr rfl, hS.step knP_st (Below.refl _ _) 13 _ trivial⟩
    · have EG := hval 12 _ 26 rfl rfl (dep_of hdep 12 (by rfl))
      have E27 := hval 13 _ 27 rfl rfl (dep_of hdep 13 (by rfl))
      unfold knVal at EG E27
      refine g_want rfl rfl rfl EG ?_
      refine does_call 24 #[.agg cO, .int .i64 3] (by go_simp) ((HF3.out W).mono ?_)
      rintro _ W' ⟨rfl, hb⟩
      exact ⟨_, rfl, .bool true, .inr rfl, hS.step knP_st hb 14 _ trivial⟩
    · have E26 := hval 12 _ 26 rfl rfl (dep_of hdep 12 (by rfl))
      have E28 := hval 14 _ 28 rfl rfl (dep_of hdep 14 (by rfl))
      unfold knVal at E26 E28
      refine g_plain rfl ?_
      exact does_value (w' := W) (v := .bool true) (by go_simp) ⟨(.pointer none), .inr rfl, hS.step knP_st (Below.refl _ _) 15 _ trivial⟩
    · have E29 := hval 15 _ 29 rfl rfl (dep_of hdep 15 (by rfl))
      unfold knVal at E29
      refine g_plain rfl ?_
      exact does_value (w' := W) (v := .bool true) (by go_simp) ⟨(.pointer none), .inr rfl, hS.step knP_st (Below.refl _ _) 16 _ trivial⟩
    · have EG := hval 16 _ 30 rfl rfl (dep_of hdep 16 (by rfl))
      have E3 : a.tmps[3]? = some (.pointer (some ⟨IB, 0, none⟩)) := (same_of hsame 3 (by rfl)).trans rfl
      unfold knVal at EG
      refine g_want rfl rfl rfl EG ?_
      exact does_load_run _ _ rfl ⟨IB, 0, none⟩ _ (by rw [eval_getD, E3]; rfl) (HRI.out W hS.bel) ⟨.pointer none, .inr rfl, hS.step knP_st (Below.refl _ _) 17 _ trivial⟩
    · have EG := hval 16 _ 30 rfl rfl (dep_of hdep 16 (by rfl))
      have E31 := hval 17 _ 31 rfl rfl (dep_of hdep 17 (by rfl))
      unfold knVal at EG E31
      refine g_want rfl rfl rfl EG ?_
      refine does_call 13 #[.agg cI] (by go_simp) ((HDS.out W hS.bel).mono ?_)
      rintro _ W' ⟨v, rfl, ho, hb⟩
      obtain ⟨Av, cv, ev, -, hsd⟩ := ho.sds (by simp [dA, dB, dC, zeroB])
      exact ⟨v, rfl, v, .inr rfl, hS.step knP_st hb 18 _ ⟨Av, cv, ev, hsd⟩⟩
    · have EG := hval 16 _ 30 rfl rfl (dep_of hdep 16 (by rfl))
      unfold knVal at EG
      refine g_want rfl rfl rfl EG ?_
      refine does_build _ _ rfl (ps := #[(0, .int .i64 1)]) ?_ (HNC.out W) ⟨.pointer none, .inr rfl, hS.step knP_st (Below.refl _ _) 19 _ trivial⟩
      simp only [List.map_toArray, List.map_cons, List.map_nil, Act.eval]
    · have EG := hval 16 _ 30 rfl rfl (dep_of hdep 16 (by rfl))
      have E1 : a.tmps[1]? = some (.pointer (some ⟨R, 0, none⟩)) := (same_of hsame 1 (by rfl)).trans rfl
      unfold knVal at EG
      refine g_want rfl rfl rfl EG ?_
      exact does_load_run _ _ rfl ⟨R, 0, none⟩ _ (by rw [eval_getD, E1]; rfl) (HRA.out W hS.bel) ⟨.pointer none, .inr rfl, hS.step knP_st (Below.refl _ _) 20 _ trivial⟩
    · have EG := hval 16 _ 30 rfl rfl (dep_of hdep 16 (by rfl))
      have E2 : a.tmps[2]? = some (.pointer (some ⟨R + 1, 0, none⟩)) := (same_of hsame 2 (by rfl)).trans rfl
      unfold knVal at EG
      refine g_want rfl rfl rfl EG ?_
      exact does_load_run _ _ rfl ⟨R + 1, 0, none⟩ _ (by rw [eval_getD, E2]; rfl) (HRB.out W hS.bel) ⟨.pointer none, .inr rfl, hS.step knP_st (Below.refl _ _) 21 _ trivial⟩
    · have EG := hval 16 _ 30 rfl rfl (dep_of hdep 16 (by rfl))
      have E33 := hval 19 _ 33 rfl rfl (dep_of hdep 19 (by rfl))
      have E34 := hval 20 _ 34 rfl rfl (dep_of hdep 20 (by rfl))
      have E35 := hval 21 _ 35 rfl rfl (dep_of hdep 21 (by rfl))
      unfold knVal at EG E33 E34 E35
      refine g_want rfl rfl rfl EG ?_
      refine does_bs _ _ _ rfl (ps := #[(0, .agg cC), (1, .agg cA), (2, .agg cB)]) ?_ (HS3.out W) ⟨.slice (some ⟨W.heap.size, 0, none⟩) 3 3, .inr rfl, hS.step knP_st (below_new W _) 22 _ ⟨W.heap.size, rfl, blk_sds (ds := [dC, dA, dB]) (by simp [dA, dB, dC, zeroB]) (Blk.new W _ _)⟩⟩
      simp only [List.map_toArray, List.map_cons, List.map_nil, eval_getD, E33, E34, E35, Option.getD_some]
    · have EG := hval 16 _ 30 rfl rfl (dep_of hdep 16 (by rfl))
      have E32 := hval 18 _ 32 rfl rfl (dep_of hdep 18 (by rfl))
      have E36 := hval 22 _ 36 rfl rfl (dep_of hdep 22 (by rfl))
      unfold knVal at EG E32 E36
      refine g_want rfl rfl rfl EG ?_
      obtain ⟨Av, cv, e18, hs18⟩ := hS.at_ 18 (by decide) (dep_of hdep 18 (by rfl))
      obtain ⟨qq, e22, hs22⟩ := hS.at_ 22 (by decide) (dep_of hdep 22 (by rfl))
      rw [e18] at E32
      rw [e22] at E36
      have HSM := hid (sameDescs_calls 3 cv 3 3 _ _ Av (some ⟨qq, 0, none⟩) [dC, dA, dB] [dC, dA, dB] W hs18 hs22 (by omega) (by omega))
      rw [decide_eq_true rfl] at HSM
      clear e18 e22 hs18 hs22
      refine does_call 15 #[.slice Av 3 cv, .slice (some ⟨qq, 0, none⟩) 3 3] (by go_simp) (HSM.out.mono ?_)
      rintro _ W' ⟨rfl, hb⟩
      exact ⟨_, rfl, .bool true, .inr rfl, hS.step knP_st hb 23 _ trivial⟩
    · have E30 := hval 16 _ 30 rfl rfl (dep_of hdep 16 (by rfl))
      have E37 := hval 23 _ 37 rfl rfl (dep_of hdep 23 (by rfl))
      unfold knVal at E30 E37
      refine g_plain rfl ?_
      exact does_value (w' := W) (v := .bool true) (by go_simp) ⟨(.pointer none), .inr rfl, hS.step knP_st (Below.refl _ _) 24 _ trivial⟩
    · have E38 := hval 24 _ 38 rfl rfl (dep_of hdep 24 (by rfl))
      unfold knVal at E38
      refine g_plain rfl ?_
      exact does_value (w' := W) (v := .bool true) (by go_simp) ⟨(.pointer none), .inr rfl, hS.step knP_st (Below.refl _ _) 25 _ trivial⟩
  · intro gh W hS
    have HBW := hid (HBE.out.trans (hS.bel.mono HBE.out.size))
    clear hS
    simp only [putAll, knVal, Nat.reduceAdd, Nat.zero_add, Act.put, List.setIfInBounds_toArray, List.set_cons_zero, List.set_cons_succ]
    go_wp2_with fail
    go_ret
    exact ⟨rfl, HBW.out⟩
end Go.Proofs.Ytfmbnlnnfoonjaa
