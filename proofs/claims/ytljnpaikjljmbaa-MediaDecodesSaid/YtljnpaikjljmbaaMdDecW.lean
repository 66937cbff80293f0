/- The walk of MediaDecodes. -/
import Derived.Test.YtljnpaikjljmbaaMdRefC
import Derived.Test.YtljnpaikjljmbaaMdKnown
import Derived.Test.YtljnpaikjljmbaaMdSameM
import Derived.Test.YtljnpaikjljmbaaMdOver
import Derived.Test.YtljnpaikjljmbaaWrKept
namespace Go.Proofs.Ytljnpaikjljmbaa
open Go.RowKit

/-- a manifest that was decoded, in a law's own variables, with rows of its own -/
structure DcV (base R : Nat) (bs : List UInt8) (cD : Array Value) (v1 v2 : Value) (W : World) : Prop where
  cell : cD = (mcs (decM bs) v1 v2).toArray
  blk : Blk W R 28 cD
  flt : Blk W (R + 1) 43 #[.int .i64 ((decF bs).1 : Int), .int .i64 ((decF bs).2 : Int)]
  o1 : OwnD W base v1 (decM bs).l
  o2 : OwnD W base v2 (decM bs).u
section
variable {W W' : World} {base R : Nat} {bs : List UInt8} {cD : Array Value} {v1 v2 : Value}
theorem DcV.keep (h : DcV base R bs cD v1 v2 W) (hb : Below W.heap.size W W') : DcV base R bs cD v1 v2 W' := ⟨h.cell, h.blk.keep hb, h.flt.keep hb, h.o1.keep hb, h.o2.keep hb⟩
theorem DcV.run (h : DcV base R bs cD v1 v2 W) : (loadVar 28 ⟨R, 0, none⟩).run Try.prog W = .ok (.agg cD) W :=
  run_loadVar_row W R _ _ _ (0, 0) _ h.blk Try.underlying28 rfl (by rw [h.cell]; exact size_man (decM_id bs) v1 v2)
theorem DcV.runF (h : DcV base R bs cD v1 v2 W) : (loadVar 43 ⟨R + 1, 0, none⟩).run Try.prog W = .ok (.agg #[.int .i64 ((decF bs).1 : Int), .int .i64 ((decF bs).2 : Int)]) W :=
  run_loadVar_row W (R + 1) _ _ _ (0, 0) _ h.flt Try.underlying43 rfl (size_fault _ rfl)
theorem DcV.mIn (h : DcV base R bs cD v1 v2 W) : MIn W W.heap.size (decM bs) v1 v2 := man_in (decM_id bs) (decM_ids bs).1 (decM_ids bs).2 h.o1 h.o2
end
set_option maxRecDepth 20000 in
set_option maxHeartbeats 4000000 in
theorem decodes_calls (B n c : Nat) (A : Option Addr) (bs : List UInt8) (w : World) (hs : SB w B A n bs) (hnc : n ≤ c) (hn : n ≤ 9223372036854775807) :
    Calls Try.prog 4 #[.slice A n c] w fun e w' => e = .returned (.bool true) ∧ Below w.heap.size w w' := by
  have HAW := hid (fun W => awake_calls W)
  by_cases hlong : 5000 < n
  · have hl' : (5000 : Int) < (n : Int) := by omega
    clear hs
    go_enter Try.func4, Try.ntmps4
    go_wp2_with fail
    refine (HAW.out w).mono ?_
    rintro _ w1 ⟨rfl, hb1⟩
    have HB1 := hid hb1
    clear hb1 HAW
    go_wp2_with fail
    go_ret
    exact ⟨rfl, HB1.out⟩
  have hl' : ¬ (5000 : Int) < (n : Int) := by omega
  have HLB := hid (lentBytes_calls w.heap.size n c A bs w hs.fit (by omega))
  have HSB := hid hs.fit
  have HLEN := hid hs.1
  have HLL := hid (decM_lens bs)
  have HN := hid (show n ≤ 5000 ∧ n ≤ c from ⟨by omega, hnc⟩)
  clear hs hnc hlong
  go_enter Try.func4, Try.ntmps4
  go_wp2_with fail
  refine HLB.out.mono ?_
  rintro _ w1 ⟨A', c', rfl, hcc, hsl, hb1⟩
  have HSL := hid hsl
  have HCC := hid hcc
  have HB1 := hid hb1
  have HDE := hid (decode_calls w1.heap.size n c' A' bs w1 (by
    have h := hsl.take n (by omega)
    have hl := HLEN.out
    rw [List.take_append_of_le_length (by omega), List.take_of_length_le (by omega)] at h
    exact h) hn)
  clear hsl hb1 HLB hcc
  go_wp2_with fail
  refine HDE.out.mono ?_
  rintro _ w2 ⟨v1, v2, rfl, o1, o2, -, hb2⟩
  have HO1 := hid o1; have HO2 := hid o2
  have HB2 := hid hb2
  have HV1 := hid (show v1.oneCell' = true from by rcases o1.form with ⟨_, _, _, rfl⟩; rfl)
  have HV2 := hid (show v2.oneCell' = true from by rcases o2.form with ⟨_, _, _, rfl⟩; rfl)
  have HSC := hid (size_man (m := decM bs) (decM_id bs) v1 v2)
  have HSZ := hid (size_man2 (decM bs) (decM_id bs) v1 v2)
  have HOC := hid (mcs_one (decM bs) v1 v2 HV1.out HV2.out)
  have HRS := hid (Res2.start w2 zmc #[.int .i64 0, .int .i64 0])
  have hz := (zero_of_info infoM).1
  obtain ⟨cD, hcD⟩ : ∃ cD, cD = (mcs (decM bs) v1 v2).toArray := ⟨_, rfl⟩
  rw [← hcD] at HSC HSZ HOC ⊢
  have HCD := hid hcD
  generalize hzd : zmc = zd at hz HRS HSZ
  have HZD := hid hzd
  clear o1 o2 hb2 HV1 HV2 hcD hzd HDE
  unfold fltV
  generalize hFF : decF bs = FF
  have HFF := hid hFF
  clear hFF
  obtain ⟨fx, fy⟩ := FF
  dsimp only
  go_wp2_with ((refine wpList_store_blk rfl 28 _ _ rfl w2.heap.size _ rfl rfl 28 _ HRS.out.b0 HSC.out HSZ.out HOC.out ?_); refine Held.go ?_)
  have HR2 := hid (HRS.out.set0 cD)
  generalize ((w2.alloc (.cells zd 28)).alloc (.cells #[.int .i64 0, .int .i64 0] 43)).setRow w2.heap.size cD = w3 at HR2 ⊢
  have d0 := HR2.out.b1.cell 0 rfl
  have d1 := HR2.out.b1.cell 1 rfl
  have f0 := HR2.out.b1.frozen 0
  have f1 := HR2.out.b1.frozen 1
  have HR3 := hid (HR2.out.cells1 (.int .i64 (fx : Int)) (.int .i64 (fy : Int)))
  have HDV := hid (show DcV w1.heap.size w2.heap.size bs cD v1 v2 _ from ⟨HCD.out, HR3.out.b0, (by rw [HFF.out]; exact HR3.out.b1), HO1.out.keep HR3.out.bel, HO2.out.keep HR3.out.bel⟩)
  have HB4 := hid (HB2.out.trans (HR3.out.bel.mono HB2.out.size))
  have HRS2 := hid (show w1.heap.size ≤ w2.heap.size from HB2.out.size)
  generalize hw4 : (w3.setCell ⟨w2.heap.size + 1, 0, none⟩ (.int .i64 (fx : Int))).setCell ⟨w2.heap.size + 1, 1, none⟩ (.int .i64 (fy : Int)) = w4 at HDV HB4
  clear HRS HR2 HR3 HO1 HO2 HB2
  generalize w2.heap.size = R at HDV HRS2 d0 d1 f0 f1 hw4 ⊢
  unfold Held
  have HRD := hid (refDecode_calls w.heap.size n c A bs w4 ((HSB.out.keep HB1.out).keepB (HB4.out.mono HB1.out.size)) HN.out.2 (by have := HN.out.1; omega))
  go_wp2_with fail
  clear hw4 d0 d1 f0 f1
  refine HRD.out.mono ?_
  rintro _ w5 ⟨u1, u2, rfl, o1, o2, hb5⟩
  have HO1 := hid o1; have HO2 := hid o2
  have HB5 := hid hb5
  have HV1 := hid (show u1.oneCell' = true from by rcases o1.form with ⟨_, _, _, rfl⟩; rfl)
  have HV2 := hid (show u2.oneCell' = true from by rcases o2.form with ⟨_, _, _, rfl⟩; rfl)
  have HSC := hid (size_man (m := decM bs) (decM_id bs) u1 u2)
  have HSZ := hid (size_man2 (decM bs) (decM_id bs) u1 u2)
  have HOC := hid (mcs_one (decM bs) u1 u2 HV1.out HV2.out)
  have HRS := hid (Res2.start w5 zmc #[.int .i64 0, .int .i64 0])
  obtain ⟨cE, hcE⟩ : ∃ cE, cE = (mcs (decM bs) u1 u2).toArray := ⟨_, rfl⟩
  rw [← hcE] at HSC HSZ HOC ⊢
  rw [HZD.out] at HSZ HRS
  have HCE := hid hcE
  clear o1 o2 hb5 HV1 HV2 hcE HRD
  unfold fltV
  rw [HFF.out]
  dsimp only
  have HDV5 := hid (HDV.out.keep HB5.out)
  clear HDV
  go_wp2_with ((refine wpList_store_blk rfl 28 _ _ rfl w5.heap.size _ rfl rfl 28 _ HRS.out.b0 HSC.out HSZ.out HOC.out ?_); refine Held.go ?_)
  have HR2 := hid (HRS.out.set0 cE)
  generalize ((w5.alloc (.cells zd 28)).alloc (.cells #[.int .i64 0, .int .i64 0] 43)).setRow w5.heap.size cE = w6 at HR2 ⊢
  have d0 := HR2.out.b1.cell 0 rfl
  have d1 := HR2.out.b1.cell 1 rfl
  have f0 := HR2.out.b1.frozen 0
  have f1 := HR2.out.b1.frozen 1
  have HR3 := hid (HR2.out.cells1 (.int .i64 (fx : Int)) (.int .i64 (fy : Int)))
  have HDE := hid (show DcV w4.heap.size w5.heap.size bs cE u1 u2 _ from ⟨HCE.out, HR3.out.b0, (by rw [HFF.out]; exact HR3.out.b1), HO1.out.keep HR3.out.bel, HO2.out.keep HR3.out.bel⟩)
  have HDV7 := hid (HDV5.out.keep HR3.out.bel)
  have HB7 := hid (HB4.out.trans ((HB5.out.trans (HR3.out.bel.mono HB5.out.size)).mono HB4.out.size))
  generalize hw7 : (w6.setCell ⟨w5.heap.size + 1, 0, none⟩ (.int .i64 (fx : Int))).setCell ⟨w5.heap.size + 1, 1, none⟩ (.int .i64 (fy : Int)) = w7 at HDE HDV7 HB7
  clear HRS HR2 HR3 HO1 HO2 HB4 HB5 HDV5 hz
  generalize w5.heap.size = R2 at HDE d0 d1 f0 f1 hw7 ⊢
  have HRUN1 := hid HDV7.out.run
  have HRUN2 := hid HDE.out.run
  have HSM := hid (show Calls Try.prog 18 #[.agg cD, .agg cE] w7 fun e w' => e = .returned (.bool true) ∧ Below w7.heap.size w7 w' from by
    have := sameMan_calls w7.heap.size w7.heap.size (decM bs) (decM bs) v1 v2 u1 u2 w7 HDV7.out.mIn HDE.out.mIn ⟨HLL.out.1, HLL.out.2, HLL.out.1, HLL.out.2⟩
    rw [← HDV7.out.cell, ← HDE.out.cell, eqM_iff.2 rfl] at this
    exact this)
  unfold Held
  go_wp2_with (first | (refine wpList_load_run rfl 28 _ rfl ⟨R2, 0, none⟩ _ rfl HRUN2.out ?_) | (refine wpList_load_run rfl 28 _ rfl ⟨R, 0, none⟩ _ rfl HRUN1.out ?_))
  clear hw7 d0 d1 f0 f1
  refine HSM.out.mono ?_
  rintro _ w8 ⟨rfl, hb8⟩
  have HDV8 := hid (HDV7.out.keep hb8)
  have HDE8 := hid (HDE.out.keep hb8)
  have HB8 := hid (HB7.out.trans (hb8.mono HB7.out.size))
  clear hb8 HSM HRUN1 HRUN2 HDV7 HDE HB7
  have HF1 := hid (show (loadVar 43 ⟨R + 1, 0, none⟩).run Try.prog w8 = .ok (.agg #[.int .i64 (fx : Int), .int .i64 (fy : Int)]) w8 from by have := HDV8.out.runF; rw [HFF.out] at this; exact this)
  have HF2 := hid (show (loadVar 43 ⟨R2 + 1, 0, none⟩).run Try.prog w8 = .ok (.agg #[.int .i64 (fx : Int), .int .i64 (fy : Int)]) w8 from by have := HDE8.out.runF; rw [HFF.out] at this; exact this)
  have HRM := hid HDV8.out.run
  generalize (fx : Int) = X at HF1 HF2 ⊢
  generalize (fy : Int) = Y at HF1 HF2 ⊢
  go_wp2_with (first | (refine wpList_load_run_g (by rfl) 43 _ rfl ⟨R + 1, 0, none⟩ _ rfl HF1.out ?_) | (refine wpList_load_run_g (by rfl) 43 _ rfl ⟨R2 + 1, 0, none⟩ _ rfl HF2.out ?_) | (refine wpList_load_run rfl 28 _ rfl ⟨R, 0, none⟩ _ rfl HRM.out ?_))
  obtain ⟨A1, c1, rfl, -, -⟩ := HDV8.out.o1.sds (decM_ids bs).1
  obtain ⟨A2, c2, rfl, -, -⟩ := HDV8.out.o2.sds (decM_ids bs).2
  have HOV := hid (overMan_calls w1.heap.size (decM bs).l.length c1 (decM bs).u.length c2 A1 A2 (decM bs) w8 (decM_id bs) (HDV8.out.o1.rowO (Nat.le_refl _)) (HDV8.out.o2.rowO (Nat.le_refl _)) HB8.out.size HLL.out.1 HLL.out.2)
  rw [← HDV8.out.cell] at HOV
  clear HDV8 HDE8 HF1 HF2 HRM HCD HCE HSC HSZ HOC
  refine HOV.out.mono ?_
  rintro _ w9 ⟨rfl, hb9⟩
  have HB9 := hid (HB8.out.trans hb9)
  have HBW := hid (HB1.out.trans (HB9.out.mono HB1.out.size))
  have HKB := hid (keptBytes_calls w1.heap.size n c' w.heap.size c A' A bs w9 (HSL.out.keep HB9.out) (HSB.out.keepB HBW.out) (by have := HN.out.1; omega) HCC.out)
  clear hb9 HOV HB8
  go_wp2_with fail
  refine HKB.out.mono ?_
  rintro _ w10 ⟨rfl, hb10⟩
  have HBW10 := hid (HBW.out.trans (hb10.mono HBW.out.size))
  clear hb10 HKB HBW
  go_wp2_with fail
  refine (HAW.out w10).mono ?_
  rintro _ w11 ⟨rfl, hb11⟩
  have HBW11 := hid (HBW10.out.trans (hb11.mono HBW10.out.size))
  clear hb11 HAW
  go_wp2_with fail
  go_ret
  exact ⟨rfl, HBW11.out⟩
end Go.Proofs.Ytljnpaikjljmbaa
