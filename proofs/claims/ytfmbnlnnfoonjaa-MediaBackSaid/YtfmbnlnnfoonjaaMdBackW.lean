/- The walk of MediaBack. -/
import Derived.Test.YtfmbnlnnfoonjaaMdOneW
import Derived.Test.YtfmbnlnnfoonjaaMdBack
import Derived.Test.YtfmbnlnnfoonjaaMdOpen
namespace Go.Proofs.Ytfmbnlnnfoonjaa
open Go.RowKit

theorem copyBytes_calls (B n c : Nat) (A : Option Addr) (bs : List UInt8) (w : World) (hs : SB w B A n bs) (hn : n ≤ 549755813888) :
    Calls Try.prog 26 #[.slice A n c] w fun e w' => ∃ v, e = .returned v ∧ Own w' w.heap.size 5 v n bs ∧ Below w.heap.size w w' := by
  go_enter Try.func26, Try.ntmps26
  go_wp2_with (at_builtin; refine Held.go ?_)
  have ho := Own.lit w 5 w.heap.size [] #[] 0 rfl rfl (Nat.le_refl _) (by omega)
  have hb := below_new w (.cells #[] 5)
  generalize w.alloc (.cells #[] 5) = w1 at ho hb ⊢
  refine wpList_append_bytes _ rfl _ _ _ rfl _ Try.underlying32 info5 w.heap.size _ 0 [] rfl ho B A n c bs rfl (hs.keep hb) (by omega) hb.size ?_
  intro v2 w2 h1 h2 h3
  have hb2 := hb.trans (below_of_grown h2 hb.size (fun g e => (ho.block g e).1))
  clear h2 h3 ho hb
  rw [Nat.zero_add, List.nil_append] at h1
  obtain ⟨A2, c2, rfl, -, -, -⟩ := h1.sb
  have H1 := hid h1
  clear h1
  go_wp2_with fail
  go_ret
  exact ⟨_, rfl, H1.out, hb2⟩
/-- the law's own copy of the manifest -/
structure BoxM (w W : World) (m : MM) (v1 v2 : Value) (cm : Array Value) : Prop where
  eq : cm = (mcs m v1 v2).toArray
  blk : Blk W w.heap.size 28 cm
  mIn : MIn W W.heap.size m v1 v2
  bel : Below w.heap.size w W
section
variable {w W W' : World} {m : MM} {v1 v2 : Value} {cm : Array Value}
theorem BoxM.start (hi : MIn w w.heap.size m v1 v2) : BoxM w (w.alloc (.cells (mcs m v1 v2).toArray 28)) m v1 v2 (mcs m v1 v2).toArray :=
  ⟨rfl, Blk.new _ _ _, (hi.keep (below_new _ _)).more (below_new _ _).size, below_new _ _⟩
theorem BoxM.keep (h : BoxM w W m v1 v2 cm) (hb : Below W.heap.size W W') : BoxM w W' m v1 v2 cm :=
  ⟨h.eq, h.blk.keep hb, (h.mIn.keep hb).more hb.size, h.bel.trans (hb.mono h.bel.size)⟩
theorem BoxM.run (h : BoxM w W m v1 v2 cm) : (loadVar 28 ⟨w.heap.size, 0, none⟩).run Try.prog W = .ok (.agg cm) W :=
  run_loadVar_row W w.heap.size _ _ _ (0, 0) _ h.blk Try.underlying28 rfl (by rw [h.eq]; exact size_man h.mIn.1 v1 v2)
theorem BoxM.c0 (h : BoxM w W m v1 v2 cm) : W.cell? ⟨w.heap.size, 0, none⟩ = some (.int .i64 m.k) := h.blk.cell 0 (by rw [h.eq, List.getElem?_toArray]; exact mcs_0 m v1 v2)
theorem BoxM.c37 (h : BoxM w W m v1 v2 cm) : W.cell? ⟨w.heap.size, 37, none⟩ = some v1 := h.blk.cell 37 (by rw [h.eq, List.getElem?_toArray]; exact mcs_37 h.mIn.1 v1 v2)
theorem BoxM.c38 (h : BoxM w W m v1 v2 cm) : W.cell? ⟨w.heap.size, 38, none⟩ = some v2 := h.blk.cell 38 (by rw [h.eq, List.getElem?_toArray]; exact mcs_38 h.mIn.1 v1 v2)
end
theorem mw_ok {m : MM} (h : MW m) (k : NotLong m) : MOK m :=
  ⟨⟨h.c.id, h.c.m, h.c.s, by have := k.c; omega⟩, by have := k.t; omega, by have := k.l; omega, by have := k.u; omega, h.k, fun d hd => ⟨(h.l d hd).id, (h.l d hd).m, (h.l d hd).s, by have := k.ls d hd; omega⟩, fun d hd => ⟨(h.u d hd).id, (h.u d hd).m, (h.u d hd).s, by have := k.us d hd; omega⟩⟩
theorem descsL_length (m : MM) : (descsL m).length = if m.k = 3 then m.l.length + m.u.length + 1 else m.l.length + m.u.length := by
  unfold descsL
  split <;> simp
set_option maxRecDepth 20000 in
set_option maxHeartbeats 4000000 in
theorem back_calls (m : MM) (v1 v2 : Value) (cut : Int) (more : UInt8) (w : World) (hi : MIn w w.heap.size m v1 v2) (hw : MW m) :
    Calls Try.prog 6 #[.agg (mcs m v1 v2).toArray, .int .i64 cut, .int .u8 (more.toNat : Int)] w fun e w' => e = .returned (.bool true) ∧ Below w.heap.size w w' := by
  have HBX := hid (BoxM.start hi)
  have HLG := hid (fun W (h : MIn W W.heap.size m v1 v2) => long_calls W.heap.size m v1 v2 W h)
  have HEN := hid (fun W (hm : MOK m) (h : MIn W W.heap.size m v1 v2) => encode_calls W.heap.size m v1 v2 W hm h (Nat.le_refl _))
  have HDS := hid (fun W (h : MIn W W.heap.size m v1 v2) (h1 : m.l.length ≤ 100000) (h2 : m.u.length ≤ 100000) => descsM_calls W.heap.size m v1 v2 W h (Nat.le_refl _) h1 h2)
  have HKN := hid known_calls
  have HSM0 := hid (fun (W : World) (n : MM) (x1 x2 : Value) (h : MIn W W.heap.size n x1 x2) (k : MIn W W.heap.size m v1 v2) hl => sameMan_calls W.heap.size W.heap.size n m x1 x2 v1 v2 W h k hl)
  have HVV := hid hi
  have HMW := hid hw
  clear hi hw
  generalize hcm : (mcs m v1 v2).toArray = cm at HBX HLG HEN HDS HSM0 ⊢
  clear hcm
  go_enter Try.func6, Try.ntmps6
  go_wp2_with fail
  generalize w.alloc (.cells cm 28) = w1 at HBX ⊢
  refine (HKN.out w1).mono ?_
  rintro _ w2 ⟨rfl, hb2⟩
  have HX2 := hid (HBX.out.keep hb2)
  have HR2 := hid HX2.out.run
  clear hb2 HKN HBX
  go_wp2_with (first | (refine wpList_load_run rfl 28 _ rfl _ _ rfl HR2.out ?_))
  refine (HLG.out w2 HX2.out.mIn).mono ?_
  rintro _ w3 ⟨b, rfl, hnl, hb3⟩
  have HX3 := hid (HX2.out.keep hb3)
  clear hb3 HLG HX2 HR2
  cases b with
  | true =>
    clear hnl HEN HDS HSM0 HVV HMW
    go_wp2_with fail
    go_ret
    exact ⟨rfl, HX3.out.bel⟩
  | false =>
    have HNL := hid (hnl rfl)
    have HOK := hid (mw_ok HMW.out HNL.out)
    have HR3 := hid HX3.out.run
    clear hnl HMW
    go_wp2_with (first | (refine wpList_load_run rfl 28 _ rfl _ _ rfl HR3.out ?_))
    refine (HEN.out w3 HOK.out HX3.out.mIn).mono ?_
    rintro _ w4 ⟨v4, rfl, ho4, hb4⟩
    have HX4 := hid (HX3.out.keep hb4)
    clear HEN HX3 HR3
    by_cases hE : encE m = 0
    · obtain ⟨hvm, hlen, hEB⟩ := enc_zero HOK.out hE
      rw [hE]
      rw [hEB] at ho4
      have HD0 := hid (back_dec hvm hlen)
      have HCUT := hid (fun j hj => back_cut hvm hlen (j := j) hj)
      have HMORE := hid (back_more hvm hlen more)
      have hpos := dec_pos (bs := manBytes m) (by rw [HD0.out.1])
      generalize manBytes m = bs at ho4 hlen HD0 HCUT HMORE hpos
      clear hE hvm hEB HOK
      obtain ⟨g, cap, rfl, hg1, hg2⟩ := World.ownsRow.form ho4 (by omega)
      obtain ⟨A4, c4, e4, hcap, sb4, -⟩ := ho4.sb
      obtain ⟨rfl, rfl⟩ : A4 = some ⟨g, 0, none⟩ ∧ c4 = cap := by injection e4 with h1 _ h3; exact ⟨h1.symm, h3.symm⟩
      have HS4 := hid sb4
      clear ho4 hb4 sb4 e4
      generalize hL : bs.length = L at hlen hpos HS4 HCUT HMORE hcap ⊢
      have hpos' : (0 : Int) < (L : Int) := by omega
      have hlen' : (L : Int) ≤ 4096 := by omega
      have HL := hid hL
      clear hL
      have HDE := hid (fun (W : World) (h : SB W W.heap.size (some ⟨g, 0, none⟩) L bs) => decode_calls W.heap.size L c4 (some ⟨g, 0, none⟩) bs W h (by omega))
      go_wp2_with fail
      refine (HDE.out w4 HS4.out).mono ?_
      rintro _ w5 ⟨x1, x2, rfl, o1, o2, -, hb5⟩
      have HX5 := hid (HX4.out.keep hb5)
      have HS5 := hid (HS4.out.keep hb5).fit
      have HO1 := hid o1; have HO2 := hid o2
      have HB5 := hid hb5
      have HV1 := hid (show x1.oneCell' = true from by rcases o1.form with ⟨_, _, _, rfl⟩; rfl)
      have HV2 := hid (show x2.oneCell' = true from by rcases o2.form with ⟨_, _, _, rfl⟩; rfl)
      have HSC := hid (size_man (m := decM bs) (decM_id bs) x1 x2)
      have HSZ := hid (size_man2 (decM bs) (decM_id bs) x1 x2)
      have HOC := hid (mcs_one (decM bs) x1 x2 HV1.out HV2.out)
      have HRS := hid (Res2.start w5 zmc #[.int .i64 0, .int .i64 0])
      have hz := (zero_of_info infoM).1
      obtain ⟨cD, hcD⟩ : ∃ cD, cD = (mcs (decM bs) x1 x2).toArray := ⟨_, rfl⟩
      rw [← hcD] at HSC HSZ HOC ⊢
      have HCD := hid hcD
      generalize hzd : zmc = zd at hz HRS HSZ
      have HZD := hid hzd
      clear o1 o2 hb5 HV1 HV2 hcD HX4 HS4 HDE hzd
      unfold fltV
      rw [HD0.out.1]
      dsimp only
      rw [show ((0 : Nat) : Int) = 0 from rfl]
      go_wp2_with ((refine wpList_store_blk rfl 28 _ _ rfl w5.heap.size _ rfl rfl 28 _ HRS.out.b0 HSC.out HSZ.out HOC.out ?_); refine Held.go ?_)
      have HR2 := hid (HRS.out.set0 cD)
      generalize ((w5.alloc (.cells zd 28)).alloc (.cells #[.int .i64 0, .int .i64 0] 43)).setRow w5.heap.size cD = w6 at HR2 ⊢
      have d0 := HR2.out.b1.cell 0 rfl
      have d1 := HR2.out.b1.cell 1 rfl
      have f0 := HR2.out.b1.frozen 0
      have f1 := HR2.out.b1.frozen 1
      have HQ := hid (HR2.out.cells1 (.int .i64 0) (.int .i64 0))
      have HDV := hid (dec_store HCD.out HO1.out HO2.out HB5.out (by rw [HD0.out.1]; exact HQ.out))
      have HX7 := hid (HX5.out.keep HQ.out.bel)
      have HS7 := hid (HS5.out.keep HQ.out.bel).fit
      generalize hw7 : (w6.setCell ⟨w5.heap.size + 1, 0, none⟩ (.int .i64 0)).setCell ⟨w5.heap.size + 1, 1, none⟩ (.int .i64 0) = w7 at HDV HX7 HS7
      clear HRS HR2 HSC HSZ HOC HO1 HO2 HQ HX5 HS5 HCD HB5
      generalize w5.heap.size = R1 at HDV d0 d1 f0 f1 hw7 ⊢
      unfold Held
      go_wp2_with fail
      refine (pick_calls cut (L : Int) w7 hpos' (by omega)).mono ?_
      rintro _ _ ⟨rfl, rfl⟩
      obtain ⟨k, hk⟩ : ∃ k : Nat, cut % (L : Int) = (k : Int) := ⟨(cut % (L : Int)).toNat, by have := Int.emod_nonneg cut (show (L : Int) ≠ 0 by omega); omega⟩
      have hkl : k < L := by have := Int.emod_lt_of_pos cut hpos'; omega
      rw [hk]
      clear hk
      have HSK := hid (HS7.out.take k (by omega))
      have HFK := hid (HCUT.out k hkl)
      generalize bs.take k = bk at HSK HFK
      have HLK := hid HSK.out.1
      clear HCUT d0 d1 f0 f1 hw7
      have hkl' : (k : Int) < (L : Int) := by omega
      have hk0 : (0 : Int) ≤ (k : Int) := by omega
      have hkc : (k : Int) ≤ (c4 : Int) := by omega
      go_wp2_with fail
      refine (decode_calls w7.heap.size k c4 (some ⟨g, 0, none⟩) bk w7 HSK.out (by omega)).mono ?_
      rintro _ w8 ⟨y1, y2, rfl, o1, o2, -, hb8⟩
      have HX8 := hid (HX7.out.keep hb8)
      have HS8 := hid (HS7.out.keep hb8).fit
      have HDV8 := hid (HDV.out.keep hb8)
      have HO1 := hid o1; have HO2 := hid o2
      have HB8 := hid hb8
      have HV1 := hid (show y1.oneCell' = true from by rcases o1.form with ⟨_, _, _, rfl⟩; rfl)
      have HV2 := hid (show y2.oneCell' = true from by rcases o2.form with ⟨_, _, _, rfl⟩; rfl)
      have HSC := hid (size_man (m := decM bk) (decM_id bk) y1 y2)
      have HSZ := hid (show zd.size = (mcs (decM bk) y1 y2).toArray.size from by rw [← HZD.out]; exact size_man2 (decM bk) (decM_id bk) y1 y2)
      have HOC := hid (mcs_one (decM bk) y1 y2 HV1.out HV2.out)
      have HRS := hid (Res2.start w8 zd #[.int .i64 0, .int .i64 0])
      obtain ⟨cE, hcE⟩ : ∃ cE, cE = (mcs (decM bk) y1 y2).toArray := ⟨_, rfl⟩
      rw [← hcE] at HSC HSZ HOC ⊢
      clear o1 o2 hb8 HV1 HV2 hcE HX7 HS7 HDV HSK HO1 HO2 HB8
      unfold fltV
      generalize hGG : decF bk = GG at HFK ⊢
      clear hGG
      obtain ⟨gx, gy⟩ := GG
      have hgx : ¬ (gx : Int) = 0 := by have := HFK.out; dsimp only at this; omega
      dsimp only
      generalize (gx : Int) = X at hgx ⊢
      generalize (gy : Int) = Y
      clear HFK
      go_wp2_with ((refine wpList_store_blk rfl 28 _ _ rfl w8.heap.size _ rfl rfl 28 _ HRS.out.b0 HSC.out HSZ.out HOC.out ?_); refine Held.go ?_)
      have HR2 := hid (HRS.out.set0 cE)
      generalize ((w8.alloc (.cells zd 28)).alloc (.cells #[.int .i64 0, .int .i64 0] 43)).setRow w8.heap.size cE = w9 at HR2 ⊢
      have d0 := HR2.out.b1.cell 0 rfl
      have d1 := HR2.out.b1.cell 1 rfl
      have f0 := HR2.out.b1.frozen 0
      have f1 := HR2.out.b1.frozen 1
      have HQ := hid (HR2.out.cells1 (.int .i64 X) (.int .i64 Y))
      have HF2 := hid HQ.out.b1
      have HX10 := hid (HX8.out.keep HQ.out.bel)
      have HS10 := hid (HS8.out.keep HQ.out.bel).fit
      have HDV10 := hid (HDV8.out.keep HQ.out.bel)
      generalize hw10 : (w9.setCell ⟨w8.heap.size + 1, 0, none⟩ (.int .i64 X)).setCell ⟨w8.heap.size + 1, 1, none⟩ (.int .i64 Y) = w10 at HF2 HX10 HS10 HDV10
      clear HRS HR2 HSC HSZ HOC HQ HX8 HS8 HDV8
      generalize w8.heap.size = R2 at HF2 d0 d1 f0 f1 hw10 ⊢
      unfold Held
      go_wp2_with fail
      clear d0 d1 f0 f1 hw10
      refine (copyBytes_calls w10.heap.size L c4 (some ⟨g, 0, none⟩) bs w10 HS10.out (by omega)).mono ?_
      rintro _ w11 ⟨v11, rfl, ho11, hb11⟩
      have HB11 := hid hb11
      have HO11 := hid ho11
      clear ho11 hb11 HS10
      go_wp2_with (at_builtin; refine Held.go ?_)
      refine wpList_push w11 rfl _ _ _ rfl _ Try.underlying32 info5 w10.heap.size v11 L bs rfl HO11.out more _ rfl rfl (by omega) HB11.out.size ?_
      intro v12 w12 h1 h2 h3
      have HB12 := hid (HB11.out.trans (below_of_grown h2 HB11.out.size (fun b e => (HO11.out.block b e).1)))
      obtain ⟨A12, c12, rfl, -, sb12, -⟩ := h1.sb
      have HS12 := hid sb12
      have HX12 := hid (HX10.out.keep HB12.out)
      have HDV12 := hid (HDV10.out.keep HB12.out)
      have HF12 := hid (HF2.out.keep HB12.out)
      clear h1 h2 h3 sb12 HX10 HDV10 HF2 HB12 HO11 HB11
      go_wp2_with fail
      refine (decode_calls w12.heap.size (L + 1) c12 A12 (bs ++ [more]) w12 HS12.out (by omega)).mono ?_
      rintro _ w13 ⟨y3, y4, rfl, o1, o2, -, hb13⟩
      have HX13 := hid (HX12.out.keep hb13)
      have HF13 := hid (HF12.out.keep hb13)
      have HDV13 := hid (HDV12.out.keep hb13)
      have HV1 := hid (show y3.oneCell' = true from by rcases o1.form with ⟨_, _, _, rfl⟩; rfl)
      have HV2 := hid (show y4.oneCell' = true from by rcases o2.form with ⟨_, _, _, rfl⟩; rfl)
      have HSC := hid (size_man (m := decM (bs ++ [more])) (decM_id (bs ++ [more])) y3 y4)
      have HSZ := hid (show zd.size = (mcs (decM (bs ++ [more])) y3 y4).toArray.size from by rw [← HZD.out]; exact size_man2 (decM (bs ++ [more])) (decM_id (bs ++ [more])) y3 y4)
      have HOC := hid (mcs_one (decM (bs ++ [more])) y3 y4 HV1.out HV2.out)
      have HRS := hid (Res2.start w13 zd #[.int .i64 0, .int .i64 0])
      obtain ⟨cF, hcF⟩ : ∃ cF, cF = (mcs (decM (bs ++ [more])) y3 y4).toArray := ⟨_, rfl⟩
      rw [← hcF] at HSC HSZ HOC ⊢
      clear o1 o2 hb13 HV1 HV2 hcF HX12 HF12 HDV12 HS12
      unfold fltV
      rw [HMORE.out]
      dsimp only
      rw [show ((4 : Nat) : Int) = 4 from rfl]
      go_wp2_with ((refine wpList_store_blk rfl 28 _ _ rfl w13.heap.size _ rfl rfl 28 _ HRS.out.b0 HSC.out HSZ.out HOC.out ?_); refine Held.go ?_)
      have HR2 := hid (HRS.out.set0 cF)
      generalize ((w13.alloc (.cells zd 28)).alloc (.cells #[.int .i64 0, .int .i64 0] 43)).setRow w13.heap.size cF = w14 at HR2 ⊢
      have d0 := HR2.out.b1.cell 0 rfl
      have d1 := HR2.out.b1.cell 1 rfl
      have f0 := HR2.out.b1.frozen 0
      have f1 := HR2.out.b1.frozen 1
      have HQ := hid (HR2.out.cells1 (.int .i64 4) (.int .i64 (L : Int)))
      have HF3 := hid HQ.out.b1
      have HX15 := hid (HX13.out.keep HQ.out.bel)
      have HF15 := hid (HF13.out.keep HQ.out.bel)
      have HDV15 := hid (HDV13.out.keep HQ.out.bel)
      generalize hw15 : (w14.setCell ⟨w13.heap.size + 1, 0, none⟩ (.int .i64 4)).setCell ⟨w13.heap.size + 1, 1, none⟩ (.int .i64 (L : Int)) = w15 at HF3 HX15 HF15 HDV15
      clear HRS HR2 HSC HSZ HOC HQ HX13 HF13 HDV13 hz HZD
      generalize w13.heap.size = R3 at HF3 d0 d1 f0 f1 hw15 ⊢
      unfold Held
      obtain ⟨-, A1, c1, A2, c2, e1, e2, -, -, -, -⟩ := HVV.out
      have b0 := HX15.out.c0
      have b37 := HX15.out.c37
      have b38 := HX15.out.c38
      rw [e1] at b37
      rw [e2] at b38
      have hnl := HNL.out.l
      have hnu := HNL.out.u
      have HRB := hid HX15.out.run
      have HRD := hid HDV15.out.run
      have p0 := HF15.out.cell 0 rfl
      have q0 := HF3.out.cell 0 rfl
      have q1 := HF3.out.cell 1 rfl
      have t0 := HDV15.out.flt.cell 0 rfl
      have t1 := HDV15.out.flt.cell 1 rfl
      rw [HD0.out.1] at t0 t1
      dsimp only at t0 t1
      rw [show ((0 : Nat) : Int) = 0 from rfl] at t0 t1
      have HSM := hid (show Calls Try.prog 18 #[.agg cD, .agg cm] w15 fun e w' => e = .returned (.bool true) ∧ Below w15.heap.size w15 w' from by
        have h := HSM0.out w15 (decM bs) x1 x2 HDV15.out.mIn HX15.out.mIn (by rw [HD0.out.2]; omega)
        rw [← HDV15.out.cell, show eqM (decM bs) m = true from eqM_iff.2 HD0.out.2] at h
        exact h)
      have HDSC := hid (fun (W : World) (hb : Below w15.heap.size w15 W) => HDS.out W (HX15.out.keep hb).mIn (by omega) (by omega))
      have HEND := hid HX15.out.bel
      have HKEEP := hid (fun (W : World) (hb : Below w15.heap.size w15 W) => (⟨(HX15.out.keep hb).run, (HF3.out.keep hb).cell 0 rfl, (HF3.out.keep hb).cell 1 rfl, (HF15.out.keep hb).cell 0 rfl⟩ : (loadVar 28 ⟨w.heap.size, 0, none⟩).run Try.prog W = .ok (.agg cm) W ∧ W.cell? ⟨R3 + 1, 0, none⟩ = some (.int .i64 4) ∧ W.cell? ⟨R3 + 1, 1, none⟩ = some (.int .i64 (L : Int)) ∧ W.cell? ⟨R2 + 1, 0, none⟩ = some (.int .i64 X)))
      have HLEN := hid (descsL_length m)
      clear HX15 HDV15 HF15 HF3 HVV e1 e2 HDS HSM0 HD0 HNL HMORE
      generalize m.l.length = nl at b37 hnl HLEN
      generalize m.u.length = nu at b38 hnu HLEN
      generalize m.k = K at b0 HLEN
      by_cases hK : K = 3
      · rw [if_pos hK] at HLEN
        subst hK
        go_wp2_with (first | (refine wpList_load_run_g (by rfl) 28 _ rfl ⟨R1, 0, none⟩ _ rfl HRD.out ?_) | (refine wpList_load_run_g (by rfl) 28 _ rfl ⟨w.heap.size, 0, none⟩ _ rfl HRB.out ?_))
        refine HSM.out.mono ?_
        rintro _ w16 ⟨rfl, hb16⟩
        obtain ⟨k1, k2, k3, k4⟩ := HKEEP.out w16 hb16
        have HRK := hid k1
        have hxb : (X != 0) = true := by simpa using hgx
        have HDC := hid (HDSC.out w16 hb16)
        have HE16 := hid (HEND.out.trans (hb16.mono HEND.out.size))
        clear hb16 k1 HSM HKEEP HDSC HEND HRB HRD b0 b37 b38 p0 q0 q1 t0 t1 d0 d1 f0 f1 hw15
        go_wp2_with (first | (refine wpList_load_run_g (by rfl) 28 _ rfl ⟨w.heap.size, 0, none⟩ _ rfl HRK.out ?_))
        refine HDC.out.mono ?_
        rintro _ w17 ⟨v17, rfl, ho17, hb17⟩
        obtain ⟨A17, c17, ev17⟩ : ∃ A c, v17 = .slice A (descsL m).length c := by
          rcases ho17.2 with ⟨rfl, h0⟩ | ⟨_, _, _, rfl, _⟩
          · exact ⟨none, 0, by rw [h0]⟩
          · exact ⟨_, _, rfl⟩
        subst ev17
        rw [HLEN.out]
        have HE17 := hid (HE16.out.trans (hb17.mono HE16.out.size))
        clear ho17 hb17 HDC HRK HE16 k2 k3 k4
        go_wp2_with fail
        go_ret
        exact ⟨rfl, HE17.out⟩
      · rw [if_neg hK] at HLEN
        go_wp2_with (first | (refine wpList_load_run_g (by rfl) 28 _ rfl ⟨R1, 0, none⟩ _ rfl HRD.out ?_) | (refine wpList_load_run_g (by rfl) 28 _ rfl ⟨w.heap.size, 0, none⟩ _ rfl HRB.out ?_))
        refine HSM.out.mono ?_
        rintro _ w16 ⟨rfl, hb16⟩
        obtain ⟨k1, k2, k3, k4⟩ := HKEEP.out w16 hb16
        have HRK := hid k1
        have hxb : (X != 0) = true := by simpa using hgx
        have HDC := hid (HDSC.out w16 hb16)
        have HE16 := hid (HEND.out.trans (hb16.mono HEND.out.size))
        clear hb16 k1 HSM HKEEP HDSC HEND HRB HRD b0 b37 b38 p0 q0 q1 t0 t1 d0 d1 f0 f1 hw15
        go_wp2_with (first | (refine wpList_load_run_g (by rfl) 28 _ rfl ⟨w.heap.size, 0, none⟩ _ rfl HRK.out ?_))
        refine HDC.out.mono ?_
        rintro _ w17 ⟨v17, rfl, ho17, hb17⟩
        obtain ⟨A17, c17, ev17⟩ : ∃ A c, v17 = .slice A (descsL m).length c := by
          rcases ho17.2 with ⟨rfl, h0⟩ | ⟨_, _, _, rfl, _⟩
          · exact ⟨none, 0, by rw [h0]⟩
          · exact ⟨_, _, rfl⟩
        subst ev17
        rw [HLEN.out]
        have HE17 := hid (HE16.out.trans (hb17.mono HE16.out.size))
        clear ho17 hb17 HDC HRK HE16 k2 k3 k4
        go_wp2_with fail
        go_ret
        exact ⟨rfl, HE17.out⟩
    · have hB0 : encB m = [] := if_neg hE
      rw [hB0] at ho4
      obtain ⟨Av, cv, ev, -, -, -⟩ := ho4.sb
      subst ev
      generalize encE m = E at hE ⊢
      clear ho4 hb4 HDS HSM0 HOK hB0
      rw [show ([] : List UInt8).length = 0 from rfl]
      go_wp2_with fail
      go_ret
      exact ⟨rfl, HX4.out.bel⟩
end Go.Proofs.Ytfmbnlnnfoonjaa
