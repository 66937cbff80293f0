/- Contracts of the laws' own helpers: fails, awake. -/
import Derived.Test.YtljnpaikjljmbaaMdEnc
import Derived.Test.YtljnpaikjljmbaaMdDec
import Derived.Test.YtljnpaikjljmbaaMdSameM
namespace Go.Proofs.Ytljnpaikjljmbaa
open Go.RowKit

theorem sameBytes_calls (B n c B' n' c' : Nat) (A A' : Option Addr) (xs bs : List UInt8) (w : World) (ha : SB w B A n xs) (hb : SB w B' A' n' bs) :
    Calls Try.prog 14 #[.slice A n c, .slice A' n' c'] w fun e w' => e = .returned (.bool (xs == bs)) ∧ w = w' := by
  have h1 := run_str (P := Try.prog) ha c 32 9 5 Try.underlying32 Try.underlying5 Try.underlying9
  have h2 := run_str (P := Try.prog) hb c' 32 9 5 Try.underlying32 Try.underlying5 Try.underlying9
  go_enter Try.func14, Try.ntmps14
  go_wp2_with fail
  go_ret
  exact ⟨ret_bool (strB_eq xs bs), rfl⟩
theorem lstR_id (bs : List UInt8) (s : RS) (rf : Nat × Nat) (most : Nat) : ∀ d ∈ (lstR bs s rf most).1, d.id.length = 32 := by
  unfold lstR
  split
  · intro d hd; cases hd
  · exact dscN_id _ _ _
theorem manB_ids (bs : List UInt8) (k : Nat) (s : RS) (rf : Nat × Nat) : (∀ d ∈ (manB bs k s rf).1.l, d.id.length = 32) ∧ ∀ d ∈ (manB bs k s rf).1.u, d.id.length = 32 := by
  unfold manB
  split
  · exact ⟨lstR_id _ _ _ _, by simp⟩
  · split
    · exact ⟨by simp, lstR_id _ _ _ _⟩
    · exact ⟨by simp, by simp⟩
theorem decM_ids (bs : List UInt8) : (∀ d ∈ (decM bs).l, d.id.length = 32) ∧ ∀ d ∈ (decM bs).u, d.id.length = 32 := by
  unfold decM
  split
  · exact manB_ids _ _ _ _
  · exact ⟨by simp [zeroM], by simp [zeroM]⟩
/-- a manifest whose lists are rows of the call's own -/
theorem man_in {w : World} {base : Nat} {m : MM} {v1 v2 : Value} (h32 : m.c.id.length = 32) (h1 : ∀ d ∈ m.l, d.id.length = 32) (h2 : ∀ d ∈ m.u, d.id.length = 32) (o1 : OwnD w base v1 m.l) (o2 : OwnD w base v2 m.u) : MIn w w.heap.size m v1 v2 := by
  obtain ⟨A1, c1, e1, l1, s1⟩ := o1.sds h1
  obtain ⟨A2, c2, e2, l2, s2⟩ := o2.sds h2
  exact ⟨h32, A1, c1, A2, c2, e1, e2, s1, s2, l1, l2⟩
theorem min_nil (w : World) (B : Nat) {m : MM} (h32 : m.c.id.length = 32) (hl : m.l = []) (hu : m.u = []) : MIn w B m nilV nilV := by
  refine ⟨h32, none, 0, none, 0, ?_, ?_, ?_, ?_, ?_, ?_⟩ <;> first | rw [hl] | rw [hu]
  · rfl
  · rfl
  · exact SDs.nil _ _ _
  · exact SDs.nil _ _ _
  · exact Nat.le_refl _
  · exact Nat.le_refl _
set_option maxRecDepth 20000 in
set_option maxHeartbeats 1000000 in
theorem fails_calls (B : Nat) (m : MM) (v1 v2 : Value) (E : Int) (w : World) (hm : MOK m) (hi : MIn w B m v1 v2) (hBw : B ≤ w.heap.size) (hE : encE m = E) (hE0 : E ≠ 0) :
    Calls Try.prog 24 #[.agg (mcs m v1 v2).toArray, .int .i64 E] w fun e w' => e = .returned (.bool true) ∧ Below w.heap.size w w' := by
  have hb := below_new w (.cells (mcs m v1 v2).toArray 28)
  have hk := Blk.new w 28 (mcs m v1 v2).toArray
  have HRUN := hid (run_loadVar_row (P := Try.prog) _ w.heap.size _ 28 _ (0, 0) _ hk Try.underlying28 rfl (size_man hi.1 v1 v2))
  have HEN := hid (encode_calls B m v1 v2 _ hm (hi.keep hb) (Nat.le_trans hBw hb.size))
  have hB0 : encB m = [] := if_neg (by rw [hE]; exact hE0)
  rw [hE, hB0] at HEN
  have HB := hid hb
  clear hk hb hi hm hB0 hE
  generalize (mcs m v1 v2).toArray = cm at HRUN HEN HB ⊢
  go_enter Try.func24, Try.ntmps24
  go_wp2_with (first | (refine wpList_load_run rfl 28 _ rfl _ _ rfl HRUN.out ?_))
  refine HEN.out.mono ?_
  rintro _ w1 ⟨v, rfl, ho, hb1⟩
  obtain ⟨Av, cv, ev, -, -, -⟩ := ho.sb
  subst ev
  have HB1 := hid (HB.out.trans (hb1.mono HB.out.size))
  clear ho hb1 HEN
  rw [show ([] : List UInt8).length = 0 from rfl]
  go_wp2_with fail
  go_ret
  exact ⟨rfl, HB1.out⟩
def mIdx : MM := ⟨4, [], zeroD, [], []⟩
def mBad : MM := ⟨5, [], zeroD, [], []⟩
theorem lt63_of {z : Int} (h : z < 9223372036854775808) : lt63 z := h
theorem zeroD_ok : DOK zeroD := ⟨rfl, lt63_of (by decide), lt63_of (by decide), by decide⟩
theorem mIdx_ok : MOK mIdx := ⟨zeroD_ok, by decide, by decide, by decide, lt63_of (by decide), by simp [mIdx], by simp [mIdx]⟩
theorem mBad_ok : MOK mBad := ⟨zeroD_ok, by decide, by decide, by decide, lt63_of (by decide), by simp [mBad], by simp [mBad]⟩
theorem mIdx_enc : encE mIdx = 0 ∧ encB mIdx = [77, 4, 0, 0] := by decide +kernel
theorem mBad_enc : encE mBad = 20 := by decide +kernel
theorem mIdx_dec : decF [77, 4, 0, 0] = (0, 0) ∧ eqM (decM [77, 4, 0, 0]) mIdx = true := by decide +kernel
theorem putW1 : putW 100 ⟨[], 0⟩ [numI 77] = ⟨[77], 0⟩ := by rfl
theorem putW2 : putW 100 ⟨[77], 0⟩ [numI 4] = ⟨[77, 4], 0⟩ := by rfl
theorem putW3 : putW 100 ⟨[77, 4], 0⟩ [numI (([] : List UInt8).length : Int), some []] = ⟨[77, 4, 0], 0⟩ := by rfl
theorem putW4 : putW 100 ⟨[77, 4, 0], 0⟩ [numI 0] = ⟨[77, 4, 0, 0], 0⟩ := by rfl
theorem wpList_build1_g {P : Program} {ops : Array Oper} {rest : List Oper} {o : Oper} {a : Act} {w : World} {Q : Exit → Act → World → Prop} (hgd : Region.wanted o (yielded ops a.tmps) = true) (t : TypeId) (k : Nat) (x : Operand) (ho : o.op = .build t #[(k, x)]) (u v : Value) (hx : a.eval x = u)
    (hr : ∀ W, (Instr.build t #[(k, u)]).run P W = .ok v W) (h : wpList P ops Q rest (a.put o.dst v) w) : wpList P ops Q (o :: rest) a w := by
  refine wpList_val_g hgd v ?_ h
  unfold execOp
  simp only [ho, List.map_toArray, List.map_cons, List.map_nil, hx, Sem.run_bind, Sem.run_pure, Result.andThen_ok, hr]
set_option maxRecDepth 20000 in
set_option maxHeartbeats 4000000 in
theorem awake_calls (w : World) : Calls Try.prog 9 #[] w fun e w' => e = .returned (.bool true) ∧ Below w.heap.size w w' := by
  have HB4 := hid (fun W => run_build_man 4 W)
  have HB5 := hid (fun W => run_build_man 5 W)
  have HEN := hid (fun (W : World) => encode_calls W.heap.size mIdx nilV nilV W mIdx_ok (min_nil W _ rfl rfl rfl) (Nat.le_refl _))
  have HFL := hid (fun (W : World) => fails_calls W.heap.size mBad nilV nilV 20 W mBad_ok (min_nil W _ rfl rfl rfl) (Nat.le_refl _) mBad_enc (by omega))
  rw [mIdx_enc.1, mIdx_enc.2] at HEN
  have HDE := hid (fun (W : World) B A c (h : SB W B A 4 [77, 4, 0, 0]) => decode_calls B 4 c A [77, 4, 0, 0] W h (by omega))
  have hSM := fun (W : World) B v1 v2 (h : MIn W B (decM [77, 4, 0, 0]) v1 v2) => sameMan_calls B 0 (decM [77, 4, 0, 0]) mIdx v1 v2 nilV nilV W h (min_nil W _ rfl rfl rfl) (by rw [eqM_iff.1 mIdx_dec.2]; simp [mIdx])
  have hI4 : (mcs ⟨4, [], zeroD, [], []⟩ nilV nilV).toArray = (mcs mIdx nilV nilV).toArray := rfl
  have hI5 : (mcs ⟨5, [], zeroD, [], []⟩ nilV nilV).toArray = (mcs mBad nilV nilV).toArray := rfl
  rw [hI4] at HB4
  rw [hI5] at HB5
  simp only [mIdx_dec.2] at hSM
  have HSM := hid hSM
  have hds := decM_ids [77, 4, 0, 0]
  have hd32 := decM_id [77, 4, 0, 0]
  have HIN := hid (fun W base v1 v2 (o1 : OwnD W base v1 (decM [77, 4, 0, 0]).l) (o2 : OwnD W base v2 (decM [77, 4, 0, 0]).u) => man_in hd32 hds.1 hds.2 o1 o2)
  have hF := mIdx_dec.1
  have HSZ := hid (fun v1 v2 => size_man (m := decM [77, 4, 0, 0]) hd32 v1 v2)
  have HS2 := hid (fun v1 v2 => size_man2 (decM [77, 4, 0, 0]) hd32 v1 v2)
  unfold DecP at HDE
  simp only [hF] at HDE
  generalize decM [77, 4, 0, 0] = DM at HDE HSM HIN HSZ HS2
  generalize (mcs mIdx nilV nilV).toArray = cI at HB4 HEN HSM
  generalize (mcs mBad nilV nilV).toArray = cB at HB5 HFL
  clear hSM hI4 hI5 hds hd32 hF
  have hz := (zero_of_info infoM).1
  go_enter Try.func9, Try.ntmps9
  go_wp2_with fail
  refine (newWriter_calls 100 w (by omega)).mono ?_
  rintro _ w1 ⟨g, ff, rfl, hw, hg, hf, hb1⟩
  have HW1 := hid (hw w.heap.size (Nat.le_refl _))
  have HBB1 := hid hb1
  clear hw hg hf hb1
  go_wp2_with fail
  refine (wNum_calls w.heap.size g ff none 100 ⟨[], 0⟩ w1 77 (by omega) HW1.out).mono ?_
  rintro _ w2 ⟨rfl, r2, h2, k2, -⟩
  rw [putW1] at h2 ⊢
  have HW2 := hid h2
  have HBB2 := hid (HBB1.out.trans (k2.below (B := w.heap.size) (fun b hb => (HW1.out.fp_lt b hb).1) HBB1.out.size))
  clear h2 k2 HW1 HBB1
  rw [show ((0 : Nat) : Int) = 0 from rfl]
  go_wp2_with fail
  refine (wNum_calls w.heap.size g ff r2 100 ⟨[77], 0⟩ w2 4 (by omega) HW2.out).mono ?_
  rintro _ w3 ⟨rfl, r3, h3, k3, -⟩
  rw [putW2] at h3 ⊢
  have HW3 := hid h3
  have HBB3 := hid (HBB2.out.trans (k3.below (B := w.heap.size) (fun b hb => (HW2.out.fp_lt b hb).1) HBB2.out.size))
  clear h3 k3 HW2 HBB2
  rw [show ((0 : Nat) : Int) = 0 from rfl]
  go_wp2_with fail
  refine (wText_calls w.heap.size g ff r3 100 ⟨[77, 4], 0⟩ w3 [] (by simp) HW3.out).mono ?_
  rintro _ w4 ⟨rfl, r4, h4, k4, -⟩
  rw [putW3] at h4 ⊢
  have HW4 := hid h4
  have HBB4 := hid (HBB3.out.trans (k4.below (B := w.heap.size) (fun b hb => (HW3.out.fp_lt b hb).1) HBB3.out.size))
  clear h4 k4 HW3 HBB3
  rw [show ((0 : Nat) : Int) = 0 from rfl]
  go_wp2_with fail
  refine (wNum_calls w.heap.size g ff r4 100 ⟨[77, 4, 0], 0⟩ w4 0 (by omega) HW4.out).mono ?_
  rintro _ w5 ⟨rfl, r5, h5, k5, -⟩
  rw [putW4] at h5 ⊢
  have HW5 := hid h5
  have HBB5 := hid (HBB4.out.trans (k5.below (B := w.heap.size) (fun b hb => (HW4.out.fp_lt b hb).1) HBB4.out.size))
  clear h5 k5 HW4 HBB4
  rw [show ((0 : Nat) : Int) = 0 from rfl]
  go_wp2_with fail
  refine (wDone_open w.heap.size g ff r5 100 ⟨[77, 4, 0, 0], 0⟩ w5 HW5.out rfl).mono ?_
  rintro _ w6 ⟨v6, rfl, ho6, hb6⟩
  obtain ⟨A6, c6, ev6, -, -, -⟩ := ho6.sb
  subst ev6
  have HO6 := hid ho6
  have HBB6 := hid (HBB5.out.trans (hb6.mono HBB5.out.size))
  clear ho6 hb6 HW5 HBB5
  rw [show ([77, 4, 0, 0] : List UInt8).length = 4 from rfl] at HO6 ⊢
  go_wp2_with (first | (refine wpList_build1 rfl 28 0 _ rfl (.int .i64 4) _ rfl HB4.out ?_))
  refine (HEN.out w6).mono ?_
  rintro _ w7 ⟨v7, rfl, ho7, hb7⟩
  obtain ⟨A7, c7, ev7, -, hs7, -⟩ := ho7.sb
  subst ev7
  have HS7 := hid hs7
  have HO6' := hid (HO6.out.keep hb7)
  have HBB7 := hid (HBB6.out.trans (hb7.mono HBB6.out.size))
  clear ho7 hb7 hs7 HO6 HBB6 HEN
  rw [show ([77, 4, 0, 0] : List UInt8).length = 4 from rfl] at HS7 ⊢
  go_wp2_with fail
  refine (HDE.out w7 _ A7 c7 HS7.out).mono ?_
  rintro _ w8 ⟨v1, v2, rfl, ho1, ho2, -, hb8⟩
  have HS8 := hid (HS7.out.keep hb8)
  have HO8 := hid (HO6'.out.keep hb8)
  have HBB8 := hid (HBB7.out.trans (hb8.mono HBB7.out.size))
  have HMI := hid (HIN.out w8 _ v1 v2 ho1 ho2)
  have HV1 := hid (show v1.oneCell' = true from by rcases ho1.form with ⟨_, _, _, rfl⟩; rfl)
  have HV2 := hid (show v2.oneCell' = true from by rcases ho2.form with ⟨_, _, _, rfl⟩; rfl)
  have HRS := hid (Res2.start w8 zmc #[.int .i64 0, .int .i64 0])
  have HSC := hid (HSZ.out v1 v2)
  have HSB := hid (HS2.out v1 v2)
  have HOC := hid (mcs_one DM v1 v2 HV1.out HV2.out)
  have HSM8 := hid (fun W B h => HSM.out W B v1 v2 h)
  clear ho1 ho2 hb8 HS7 HO6' HBB7 HDE HIN HSZ HS2 HSM HV1 HV2
  generalize zmc = zd at hz HRS HSB
  generalize (mcs DM v1 v2).toArray = cD at HSC HSB HOC HSM8 ⊢
  have efl : fltV (0, 0) = .agg #[.int .i64 0, .int .i64 0] := rfl
  rw [efl]
  clear efl
  go_wp2_with ((refine wpList_store_blk rfl 28 _ _ rfl w8.heap.size _ rfl rfl 28 _ HRS.out.b0 HSC.out HSB.out HOC.out ?_); refine Held.go ?_)
  have HRS2 := hid (HRS.out.set0 cD)
  generalize ((w8.alloc (.cells zd 28)).alloc (.cells #[.int .i64 0, .int .i64 0] 43)).setRow w8.heap.size cD = w9 at HRS2 ⊢
  have d0 := HRS2.out.b1.cell 0 rfl
  have d1 := HRS2.out.b1.cell 1 rfl
  have f0 := HRS2.out.b1.frozen 0
  have f1 := HRS2.out.b1.frozen 1
  have HRS3 := hid (HRS2.out.cells1 (.int .i64 0) (.int .i64 0))
  clear HRS hz HSB HOC
  unfold Held
  have SB7 := hid (HS8.out.keep HRS3.out.bel)
  have SB6 := hid (HO8.out.keep HRS3.out.bel)
  have HMI9 := hid (HMI.out.keep HRS3.out.bel)
  have HBB9 := hid (HBB8.out.trans (HRS3.out.bel.mono HBB8.out.size))
  have HRUN := hid (run_loadVar_row (P := Try.prog) _ w8.heap.size _ 28 _ (0, 0) _ HRS3.out.b0 Try.underlying28 rfl HSC.out)
  have HRQ := hid HRS3.out.b1
  clear HS8 HO8 HMI HBB8 HRS2 HRS3
  have q0 := HRQ.out.cell 0 rfl
  have q1 := HRQ.out.cell 1 rfl
  generalize hw10 : (w9.setCell ⟨w8.heap.size + 1, 0, none⟩ (.int .i64 0)).setCell ⟨w8.heap.size + 1, 1, none⟩ (.int .i64 0) = w10 at SB7 SB6 HMI9 HBB9 HRUN HRQ q0 q1
  obtain ⟨A6', c6', e6, -, sb6, -⟩ := SB6.out.sb
  obtain ⟨rfl, rfl⟩ : A6 = A6' ∧ c6 = c6' := by injection e6 with h1 _ h3; exact ⟨h1, h3⟩
  have SB6' := hid sb6
  clear e6 sb6 SB6 HRQ
  go_wp2_with fail
  refine (sameBytes_calls _ 4 c7 _ 4 c6 A7 A6 _ _ w10 SB7.out SB6'.out).mono ?_
  rintro _ _ ⟨rfl, rfl⟩
  rw [show ([77, 4, 0, 0] == ([77, 4, 0, 0] : List UInt8)) = true from by decide]
  clear hw10 d0 d1 f0 f1 q0 q1
  go_wp2_with (first | (refine wpList_load_run_g (by rfl) 28 _ rfl _ _ rfl HRUN.out ?_) | (refine wpList_build1_g (by rfl) 28 0 _ rfl (.int .i64 4) _ rfl HB4.out ?_))
  refine (HSM8.out w10 _ HMI9.out).mono ?_
  rintro _ w11 ⟨rfl, hb11⟩
  have HBB11 := hid (HBB9.out.trans (hb11.mono HBB9.out.size))
  clear hb11 SB7 SB6' HMI9 HBB9 HRUN HSM8
  go_wp2_with (first | (refine wpList_build1_g (by rfl) 28 0 _ rfl (.int .i64 5) _ rfl HB5.out ?_))
  refine (HFL.out w11).mono ?_
  rintro _ w12 ⟨rfl, hb12⟩
  have HBB12 := hid (HBB11.out.trans (hb12.mono HBB11.out.size))
  clear hb12 HBB11 HFL
  go_wp2_with fail
  go_ret
  exact ⟨rfl, HBB12.out⟩
end Go.Proofs.Ytljnpaikjljmbaa
