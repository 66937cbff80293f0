/- The walk of MediaOne. -/
import Derived.Test.YtfmbnlnnfoonjaaMdKnownW
import Derived.Test.YtfmbnlnnfoonjaaMdBack
import Derived.Test.YtfmbnlnnfoonjaaWrKit
import Derived.Test.YtfmbnlnnfoonjaaPickK
namespace Go.Proofs.Ytfmbnlnnfoonjaa
open Go.RowKit

theorem wpList_b0_g {P : Program} {ops : Array Oper} {rest : List Oper} {o : Oper} {a : Act} {w : World} {Q : Exit → Act → World → Prop} (hgd : Region.wanted o (yielded ops a.tmps) = true) (t : TypeId) (ho : o.op = .build t #[]) (v : Value) (hr : ∀ W, (Instr.build t #[]).run P W = .ok v W) (h : wpList P ops Q rest (a.put o.dst v) w) : wpList P ops Q (o :: rest) a w := by
  refine wpList_val_g hgd v ?_ h
  unfold execOp
  simp only [ho, List.map_toArray, List.map_nil, Sem.run_bind, Sem.run_pure, Result.andThen_ok, hr]
theorem run_bz (W : World) : (Instr.build 28 #[]).run Try.prog W = .ok (.agg (mcs zeroM nilV nilV).toArray) W := by kernel_rfl
theorem bxor_ne {x t : UInt8} (h : t ≠ 0) : bxor x t ≠ x := by
  unfold bxor
  intro e
  have h1 : x ^^^ (x ^^^ t) = x ^^^ x := by rw [e]
  rw [← UInt8.xor_assoc, UInt8.xor_self, UInt8.zero_xor] at h1
  exact h h1
/-- a manifest that was decoded, in a law's own variables -/
structure DecV (w W : World) (R : Nat) (bs : List UInt8) (cD : Array Value) (v1 v2 : Value) : Prop where
  cell : cD = (mcs (decM bs) v1 v2).toArray
  blk : Blk W R 28 cD
  flt : Blk W (R + 1) 43 #[.int .i64 ((decF bs).1 : Int), .int .i64 ((decF bs).2 : Int)]
  mIn : MIn W W.heap.size (decM bs) v1 v2
  bel : Below w.heap.size w W
theorem DecV.keep {w W W' : World} {R : Nat} {bs : List UInt8} {cD : Array Value} {v1 v2 : Value} (h : DecV w W R bs cD v1 v2) (hb : Below W.heap.size W W') : DecV w W' R bs cD v1 v2 :=
  ⟨h.cell, h.blk.keep hb, h.flt.keep hb, (h.mIn.keep hb).more hb.size, h.bel.trans (hb.mono h.bel.size)⟩
theorem DecV.run {w W : World} {R : Nat} {bs : List UInt8} {cD : Array Value} {v1 v2 : Value} (h : DecV w W R bs cD v1 v2) : (loadVar 28 ⟨R, 0, none⟩).run Try.prog W = .ok (.agg cD) W :=
  run_loadVar_row W R _ _ _ (0, 0) _ h.blk Try.underlying28 rfl (by rw [h.cell]; exact size_man (decM_id bs) v1 v2)
/-- the two stores behind a Decode -/
theorem dec_store {w W : World} {bs : List UInt8} {v1 v2 : Value} {cD : Array Value} (hc : cD = (mcs (decM bs) v1 v2).toArray) (o1 : OwnD W w.heap.size v1 (decM bs).l) (o2 : OwnD W w.heap.size v2 (decM bs).u) (hb : Below w.heap.size w W) {W' : World} {R : Nat} (h : Res2 W W' R cD #[.int .i64 ((decF bs).1 : Int), .int .i64 ((decF bs).2 : Int)]) : DecV w W' R bs cD v1 v2 :=
  ⟨hc, h.b0, h.b1, man_in (decM_id bs) (decM_ids bs).1 (decM_ids bs).2 (o1.keep h.bel) (o2.keep h.bel), hb.trans (h.bel.mono hb.size)⟩
theorem lists_len (bs : List UInt8) : (decM bs).l.length ≤ 1000000 ∧ (decM bs).u.length ≤ 1000000 := by
  by_cases h : (decF bs).1 = 0
  · have hv := (dec_good h).2.1
    exact ⟨by have := hv.ll; omega, by have := hv.lu; omega⟩
  · have : decM bs = zeroM := if_neg h
    rw [this]; simp [zeroM]
set_option maxRecDepth 20000 in
set_option maxHeartbeats 4000000 in
theorem one_calls (B n c : Nat) (A : Option Addr) (bs : List UInt8) (at_ : Int) (turn : UInt8) (w : World) (hs : SB w B A n bs) (hn : n ≤ 9223372036854775807) :
    Calls Try.prog 7 #[.slice A n c, .int .i64 at_, .int .u8 (turn.toNat : Int)] w fun e w' => e = .returned (.bool true) ∧ Below w.heap.size w w' := by
  have HKN := hid (known_calls w)
  have HLEN := hid hs.1
  have HDE := hid (fun W (hW : Below w.heap.size w W) => decode_calls w.heap.size n c A bs W (hs.fit.keep hW) hn)
  have HSB := hid hs.fit
  clear hs
  by_cases hlong : 4096 < n
  · have hl' : (4096 : Int) < (n : Int) := by omega
    clear HDE HSB
    go_enter Try.func7, Try.ntmps7
    go_wp2_with fail
    refine HKN.out.mono ?_
    rintro _ w1 ⟨rfl, hb1⟩
    have HB1 := hid hb1
    clear hb1 HKN
    go_wp2_with fail
    go_ret
    exact ⟨rfl, HB1.out⟩
  have hl' : ¬ (4096 : Int) < (n : Int) := by omega
  have HAT := hid (dec_at (bs := bs) (by rw [HLEN.out]; exact hlong))
  have HLL := hid (lists_len bs)
  go_enter Try.func7, Try.ntmps7
  go_wp2_with fail
  refine HKN.out.mono ?_
  rintro _ w1 ⟨rfl, hb1⟩
  have HB1 := hid hb1
  clear hb1 HKN
  go_wp2_with fail
  refine (HDE.out w1 HB1.out).mono ?_
  rintro _ w2 ⟨v1, v2, rfl, o1, o2, -, hb2⟩
  have HO1 := hid o1; have HO2 := hid o2
  have HB2 := hid hb2
  have HV1 := hid (show v1.oneCell' = true from by rcases o1.form with ⟨_, _, _, rfl⟩; rfl)
  have HV2 := hid (show v2.oneCell' = true from by rcases o2.form with ⟨_, _, _, rfl⟩; rfl)
  have HSC := hid (size_man (m := decM bs) (decM_id bs) v1 v2)
  have HSZ := hid (size_man2 (decM bs) (decM_id bs) v1 v2)
  have HOC := hid (mcs_one (decM bs) v1 v2 HV1.out HV2.out)
  have HRS := hid (Res2.start w2 zmc #[.int .i64 0, .int .i64 0])
  have hz := (zero_of_info infoM).1
  obtain ⟨cD, hcD⟩ : ∃ cD, cD = (mcs (decM bs) v1 v2).toArray := ⟨_, rfl⟩
  rw [← hcD] at HSC HSZ HOC ⊢
  have HCD := hid hcD
  generalize zmc = zd at hz HRS HSZ
  clear o1 o2 hb2 HV1 HV2 hcD
  unfold fltV
  generalize hFF : decF bs = FF
  have HFF := hid hFF
  clear hFF
  obtain ⟨fx, fy⟩ := FF
  dsimp only
  go_wp2_with ((refine wpList_store_blk rfl 28 _ _ rfl w2.heap.size _ rfl rfl 28 _ HRS.out.b0 HSC.out HSZ.out HOC.out ?_); refine Held.go ?_)
  have HR2 := hid (HRS.out.set0 cD)
  generalize ((w2.alloc (.cells zd 28)).alloc (.cells #[.int .i64 0, .int .i64 0] 43)).setRow w2.heap.size cD = w3 at HR2 ⊢
  have d0 := HR2.out.b1.cell 0 rfl
  have d1 := HR2.out.b1.cell 1 rfl
  have f0 := HR2.out.b1.frozen 0
  have f1 := HR2.out.b1.frozen 1
  have HDV := hid (dec_store HCD.out HO1.out HO2.out HB2.out (by rw [HFF.out]; exact HR2.out.cells1 (.int .i64 (fx : Int)) (.int .i64 (fy : Int))))
  have HBW := hid (HB1.out.trans (HDV.out.bel.mono HB1.out.size))
  have e0 := HDV.out.flt.cell 0 rfl
  have e1 := HDV.out.flt.cell 1 rfl
  rw [HFF.out] at e0 e1
  dsimp only at e0 e1
  generalize hw4 : (w3.setCell ⟨w2.heap.size + 1, 0, none⟩ (.int .i64 (fx : Int))).setCell ⟨w2.heap.size + 1, 1, none⟩ (.int .i64 (fy : Int)) = w4 at HDV HBW e0 e1
  clear hz HRS HR2 HSZ HOC HO1 HO2
  generalize w2.heap.size = R at HDV e0 e1 d0 d1 f0 f1 hw4 ⊢
  unfold Held
  by_cases hfx : fx = 0
  · subst hfx
    obtain ⟨hF0, -, hMOK, hE0, hEB, -⟩ := dec_good (bs := bs) (by rw [HFF.out])
    have hpos := dec_pos (bs := bs) (by rw [HFF.out])
    have HDIF := hid (fun bs' => dec_differ (bs := bs) (bs' := bs') (by rw [HFF.out]))
    have HEN := hid (encode_calls w4.heap.size (decM bs) v1 v2 w4 hMOK HDV.out.mIn (Nat.le_refl _))
    rw [hE0, hEB, ← HDV.out.cell] at HEN
    rw [show ((0 : Nat) : Int) = 0 from rfl] at e0 hw4 ⊢
    have HRUN := hid HDV.out.run
    obtain rfl := HLEN.out
    have hn0 : ¬ (bs.length : Int) = 0 := by omega
    clear hMOK hE0 hEB hF0 HAT HSC HDE
    generalize (fy : Int) = Y at e1 hw4 ⊢
    go_wp2_with (first | (refine wpList_load_run rfl 28 _ rfl _ _ rfl HRUN.out ?_))
    clear hw4 d0 d1 f0 f1
    refine HEN.out.mono ?_
    rintro _ w5 ⟨v5, rfl, ho5, hb5⟩
    obtain ⟨g, cap, rfl, hg1, hg2⟩ := World.ownsRow.form ho5 (by omega)
    have HO5 := hid ho5
    have HB5 := hid hb5
    obtain ⟨A5, c5, e5, -, sb5, -⟩ := ho5.sb
    have e5' : A5 = some ⟨g, 0, none⟩ ∧ c5 = cap := by injection e5 with h1 _ h3; exact ⟨h1.symm, h3.symm⟩
    obtain ⟨rfl, rfl⟩ := e5'
    have HS5 := hid sb5
    have HSB5 := hid ((HSB.out.keepB HBW.out).keep hb5)
    have HBW5 := hid (HBW.out.trans (hb5.mono HBW.out.size))
    clear ho5 hb5 sb5 e5 HEN HRUN HSB e0 e1
    go_wp2_with fail
    refine (sameBytes_calls _ bs.length c _ bs.length c5 A (some ⟨g, 0, none⟩) bs bs w5 HSB5.out HS5.out).mono ?_
    rintro _ _ ⟨rfl, rfl⟩
    rw [beq_self_eq_true]
    by_cases ht : turn = 0
    · have ht' : (turn.toNat : Int) = 0 := by rw [ht]; rfl
      generalize (turn.toNat : Int) = T at ht'
      subst ht'
      go_wp2_with fail
      go_ret
      exact ⟨rfl, HBW5.out⟩
    · have ht' : ¬ (turn.toNat : Int) = 0 := by
        intro e
        apply ht
        apply UInt8.toNat_inj.1
        have : turn.toNat = 0 := by omega
        rw [this]; rfl
      go_wp2_with fail
      refine (pick_calls at_ (bs.length : Int) w5 (by omega) (by have := hl'; omega)).mono ?_
      rintro _ _ ⟨rfl, rfl⟩
      obtain ⟨k, hk⟩ : ∃ k : Nat, at_ % (bs.length : Int) = (k : Int) := ⟨(at_ % (bs.length : Int)).toNat, by have := Int.emod_nonneg at_ (show (bs.length : Int) ≠ 0 by omega); omega⟩
      have hkl : k < bs.length := by have := Int.emod_lt_of_pos at_ (show (0 : Int) < (bs.length : Int) by omega); omega
      rw [hk]
      have hkl' : (k : Int) < (bs.length : Int) := by omega
      have hc := World.ownsRow.cellAt HO5.out k (by omega)
      have hx : (bs.map bv)[k]? = some (.int .u8 ((bs[k].toNat : Nat) : Int)) := by simp [hkl, bv]
      rw [hx] at hc
      have hf := World.ownsRow.frozenAt HO5.out k
      have HBX := hid (show bs.set k (bxor bs[k] turn) ≠ bs from fun e => by
        have h1 : (bs.set k (bxor bs[k] turn))[k]? = bs[k]? := by rw [e]
        rw [List.getElem?_set_self hkl, List.getElem?_eq_getElem hkl] at h1
        injection h1 with h1
        exact bxor_ne ht h1)
      have hst := World.ownsRow.stored HO5.out k (bv (bxor bs[k] turn))
      have hO6 : Own (w5.setCell ⟨g, k, none⟩ (bv (bxor bs[k] turn))) w4.heap.size 5 (.slice (some ⟨g, 0, none⟩) bs.length c5) bs.length (bs.set k (bxor bs[k] turn)) := by
        have := hst.1
        rw [← List.map_set] at this
        exact this
      have hB6 : Below w4.heap.size w4 (w5.setCell ⟨g, k, none⟩ (bv (bxor bs[k] turn))) := HB5.out.trans (below_of_grown hst.2 HB5.out.size (fun b e => (World.ownsRow.lt HO5.out b e).1))
      clear hst hx
      generalize bs[k] = x at hc hO6 hB6 HBX
      have hbx := n_bxor x turn
      generalize hbs : bs.set k (bxor x turn) = bs' at hO6 HBX
      have HBSL := hid (show bs'.length = bs.length from by rw [← hbs, List.length_set])
      unfold bv at hO6 hB6
      generalize (bxor x turn).toNat = X at hbx hO6 hB6
      have HO6 := hid hO6
      have HB6 := hid hB6
      have HDE6 := hid (fun W (hW : Below (w5.setCell ⟨g, k, none⟩ (.int .u8 (X : Int))).heap.size (w5.setCell ⟨g, k, none⟩ (.int .u8 (X : Int))) W) => by
        obtain ⟨A6, c6, e6, -, s6, -⟩ := (hO6.keep hW).sb
        have e6' : A6 = some ⟨g, 0, none⟩ ∧ c6 = c5 := by injection e6 with h1 _ h3; exact ⟨h1.symm, h3.symm⟩
        obtain ⟨rfl, rfl⟩ := e6'
        exact decode_calls _ bs.length c6 (some ⟨g, 0, none⟩) bs' W s6 hn)
      clear hbs hO6 hB6 hkl hk HS5 HSB5 HO5
      go_wp2_with fail
      generalize w5.setCell ⟨g, k, none⟩ (.int .u8 (X : Int)) = w6 at HO6 HB6 HDE6 ⊢
      have HLL' := hid (lists_len bs')
      have HDF := hid (HDIF.out bs' HBX.out)
      refine (HDE6.out w6 (Below.refl _ _)).mono ?_
      rintro _ w7 ⟨u1, u2, rfl, o1, o2, -, hb7⟩
      have HO1 := hid o1; have HO2 := hid o2
      have HB7 := hid hb7
      have HV1 := hid (show u1.oneCell' = true from by rcases o1.form with ⟨_, _, _, rfl⟩; rfl)
      have HV2 := hid (show u2.oneCell' = true from by rcases o2.form with ⟨_, _, _, rfl⟩; rfl)
      have HSC := hid (size_man (m := decM bs') (decM_id bs') u1 u2)
      have HSZ := hid (size_man2 (decM bs') (decM_id bs') u1 u2)
      have HOC := hid (mcs_one (decM bs') u1 u2 HV1.out HV2.out)
      have HRS := hid (Res2.start w7 zmc #[.int .i64 0, .int .i64 0])
      have hz := (zero_of_info infoM).1
      obtain ⟨cE, hcE⟩ : ∃ cE, cE = (mcs (decM bs') u1 u2).toArray := ⟨_, rfl⟩
      rw [← hcE] at HSC HSZ HOC ⊢
      have HCE := hid hcE
      generalize zmc = zd2 at hz HRS HSZ
      clear o1 o2 hb7 HV1 HV2 hcE hc hf hbx
      unfold fltV
      generalize hGG : decF bs' = GG
      have HGG := hid hGG
      clear hGG
      obtain ⟨gx, gy⟩ := GG
      dsimp only
      go_wp2_with ((refine wpList_store_blk rfl 28 _ _ rfl w7.heap.size _ rfl rfl 28 _ HRS.out.b0 HSC.out HSZ.out HOC.out ?_); refine Held.go ?_)
      have HR8 := hid (HRS.out.set0 cE)
      generalize ((w7.alloc (.cells zd2 28)).alloc (.cells #[.int .i64 0, .int .i64 0] 43)).setRow w7.heap.size cE = w8 at HR8 ⊢
      have d0 := HR8.out.b1.cell 0 rfl
      have d1 := HR8.out.b1.cell 1 rfl
      have f0 := HR8.out.b1.frozen 0
      have f1 := HR8.out.b1.frozen 1
      have HDV2 := hid (dec_store HCE.out HO1.out HO2.out HB7.out (by rw [HGG.out]; exact HR8.out.cells1 (.int .i64 (gx : Int)) (.int .i64 (gy : Int))))
      have HB9 := hid (HB6.out.trans (HDV2.out.bel.mono HB6.out.size))
      have HBW9 := hid (HBW.out.trans (HB9.out.mono HBW.out.size))
      have HDV9 := hid (HDV.out.keep HB9.out)
      generalize hw9 : (w8.setCell ⟨w7.heap.size + 1, 0, none⟩ (.int .i64 (gx : Int))).setCell ⟨w7.heap.size + 1, 1, none⟩ (.int .i64 (gy : Int)) = w9 at HDV2 HB9 HBW9 HDV9
      have HRUN1 := hid HDV9.out.run
      have HRUN2 := hid HDV2.out.run
      have HSM := hid (show Calls Try.prog 18 #[.agg cE, .agg cD] w9 fun e w' => e = .returned (.bool false) ∧ Below w9.heap.size w9 w' from by
        have := sameMan_calls w9.heap.size w9.heap.size (decM bs') (decM bs) u1 u2 v1 v2 w9 HDV2.out.mIn HDV9.out.mIn ⟨HLL'.out.1, HLL'.out.2, HLL.out.1, HLL.out.2⟩
        rw [← HDV2.out.cell, ← HDV9.out.cell, HDF.out] at this
        exact this)
      clear hz HRS HR8 HSZ HOC HO1 HO2 HDE6 HDV HDV2 HDV9 HO6
      generalize w7.heap.size = R2 at HRUN2 d0 d1 f0 f1 hw9 ⊢
      generalize (gx : Int) = X1 at hw9 ⊢
      generalize (gy : Int) = Y1 at hw9 ⊢
      unfold Held
      go_wp2_with (first | (refine wpList_load_run_g (by rfl) 28 _ rfl ⟨R2, 0, none⟩ _ rfl HRUN2.out ?_) | (refine wpList_load_run_g (by rfl) 28 _ rfl ⟨R, 0, none⟩ _ rfl HRUN1.out ?_))
      refine HSM.out.mono ?_
      rintro _ w10 ⟨rfl, hb10⟩
      have HBW10 := hid (HBW9.out.trans (hb10.mono HBW9.out.size))
      clear hb10 HSM HRUN1 HRUN2 d0 d1 f0 f1 hw9
      go_wp2_with fail
      go_ret
      exact ⟨rfl, HBW10.out⟩
  · have hfx' : ¬ (fx : Int) = 0 := by omega
    have hM : decM bs = zeroM := if_neg (by rw [HFF.out]; exact hfx)
    have hy : (fy : Int) ≤ (n : Int) := by have := HAT.out; rw [HFF.out] at this; have := HLEN.out; dsimp only at *; omega
    have hy0 : (0 : Int) ≤ (fy : Int) := by omega
    have HSM := hid (show Calls Try.prog 18 #[.agg cD, .agg (mcs zeroM nilV nilV).toArray] w4 fun e w' => e = .returned (.bool true) ∧ Below w4.heap.size w4 w' from by
      have := sameMan_calls w4.heap.size 0 (decM bs) zeroM v1 v2 nilV nilV w4 HDV.out.mIn (min_nil w4 0 rfl rfl rfl) ⟨HLL.out.1, HLL.out.2, by simp [zeroM], by simp [zeroM]⟩
      rw [← HDV.out.cell, show eqM (decM bs) zeroM = true from eqM_iff.2 hM] at this
      exact this)
    have HRUN := hid HDV.out.run
    have HBZ := hid run_bz
    generalize (mcs zeroM nilV nilV).toArray = cz at HSM HBZ
    generalize (fx : Int) = X at hfx' e0 hw4 ⊢
    generalize (fy : Int) = Y at hy hy0 e1 hw4 ⊢
    clear HDE HSB HSC hM HAT
    go_wp2_with (first | (refine wpList_load_run_g (by rfl) 28 _ rfl _ _ rfl HRUN.out ?_) | (refine wpList_b0_g (by rfl) 28 rfl _ HBZ.out ?_))
    refine HSM.out.mono ?_
    rintro _ w5 ⟨rfl, hb5⟩
    have HBW5 := hid (HBW.out.trans (hb5.mono HBW.out.size))
    clear hb5 HSM HRUN d0 d1 f0 f1 e0 e1 hw4
    go_wp2_with fail
    go_ret
    exact ⟨rfl, HBW5.out⟩
end Go.Proofs.Ytfmbnlnnfoonjaa
