/- The law DeviceScript, walked. -/
import Derived.Test.YtoajnabdflikfaaDvScD
namespace Go.Proofs.Ytoajnabdflikfaa
open Go.RowKit

/-- few loose writes, and a fuse that ends -/
def BndS (k : Nat) (s : DS) : Prop := s.loose.length ≤ k ∧ ∀ j, s.fuse = some j → j < 9223372036854775808
theorem burn_bnd {k : Nat} {s : DS} (h : BndS k s) : BndS k (burn s) := ⟨h.1, fun j hj => by
  cases hf : s.fuse with
  | none => simp [burn, hf] at hj
  | some i =>
    have := h.2 i hf
    simp [burn, hf] at hj
    omega⟩
theorem write_bnd {k : Nat} {s : DS} (h : BndS k s) (i : Int) (bs : List UInt8) : BndS (k + 1) (writeS s i bs) := by
  have h1 : BndS (k + 1) s := ⟨by have := h.1; omega, h.2⟩
  have h2 := burn_bnd h
  unfold writeS
  repeat' split
  · exact h1
  · exact h1
  · exact h1
  · exact ⟨by have := h2.1; omega, h2.2⟩
  · exact ⟨by simp only [putS, List.length_append, List.length_singleton]; have := h2.1; omega, h2.2⟩
theorem act_bnd {k : Nat} {s : DS} (h : BndS k s) (a : DAct) (hn : a.n ≤ 9223372036854775807) : BndS (k + 1) (actS s a) := by
  have h1 : BndS (k + 1) s := ⟨by have := h.1; omega, h.2⟩
  have h2 := burn_bnd h
  unfold actS
  split
  · exact write_bnd h _ _
  split
  · unfold flushD
    repeat' split
    · exact h1
    · exact ⟨by have := h2.1; omega, h2.2⟩
    · exact ⟨by simp [flushS], h2.2⟩
  split
  · unfold fuseS
    split
    · exact ⟨by have := h.1; show s.loose.length ≤ k + 1; omega, fun j hj => by injection hj with hj; omega⟩
    · exact h1
  split
  · unfold crashD
    split
    · exact ⟨by simp [brokeS, backS], fun j hj => by cases hj⟩
    · exact h1
  split
  · exact write_bnd h _ _
  · exact h1
section
variable {w W : World} {base bx g gx m : Nat} {H : List Nat} {s1 s2 : DS}
theorem DX.readO (h : DX w base bx g gx m H s1 s2 W) (i : Int) : Calls Try.prog 19 #[.pointer (some ⟨g, 0, none⟩), .int .i64 i] W (AskPost W (readB s1 i) (readE s1 i)) := by
  obtain ⟨⟨F, Fx, h1, -⟩, -⟩ := h
  exact dRead_calls base g F s1 W i h1
theorem DX.readR (h : DX w base bx g gx m H s1 s2 W) (hl : s2.loose.length ≤ 1000000) (i : Int) : Calls Try.prog 20 #[.pointer (some ⟨gx, 0, none⟩), .int .i64 i] W (AskPost W (readB s2 i) (readE s2 i)) := by
  obtain ⟨⟨F, Fx, -, h1, -⟩, -⟩ := h
  exact rRead_calls bx gx m Fx s2 W i hl h1
theorem DX.imageO (h : DX w base bx g gx m H s1 s2 W) (i : Int) : Calls Try.prog 21 #[.pointer (some ⟨g, 0, none⟩), .int .i64 i] W (AskPost W (imageB s1 i) (imageE s1 i)) := by
  obtain ⟨⟨F, Fx, h1, -⟩, -⟩ := h
  exact dImage_calls base g F s1 W i h1
theorem DX.imageR (h : DX w base bx g gx m H s1 s2 W) (i : Int) : Calls Try.prog 22 #[.pointer (some ⟨gx, 0, none⟩), .int .i64 i] W (AskPost W (imageB s2 i) (imageE s2 i)) := by
  obtain ⟨⟨F, Fx, -, h1, -⟩, -⟩ := h
  exact rImage_calls bx gx m Fx s2 W i h1
theorem DX.sizes (h : DX w base bx g gx m H s1 s2 W) : (Calls Try.prog 13 #[.pointer (some ⟨g, 0, none⟩)] W fun e w' => e = .returned (.int .i64 (s1.n : Int)) ∧ W = w') ∧ (Calls Try.prog 14 #[.pointer (some ⟨gx, 0, none⟩)] W fun e w' => e = .returned (.int .i64 (s2.n : Int)) ∧ W = w') := by
  obtain ⟨⟨F, Fx, h1, h2, -⟩, -⟩ := h
  exact ⟨dSize_calls base g F s1 W h1, rSize_calls bx gx m Fx s2 W h2⟩
theorem DX.outs (h : DX w base bx g gx m H s1 s2 W) : (Calls Try.prog 15 #[.pointer (some ⟨g, 0, none⟩)] W fun e w' => e = .returned (.bool s1.out) ∧ W = w') ∧ (Calls Try.prog 16 #[.pointer (some ⟨gx, 0, none⟩)] W fun e w' => e = .returned (.bool s2.out) ∧ W = w') := by
  obtain ⟨⟨F, Fx, h1, h2, -⟩, -⟩ := h
  exact ⟨dOut_calls base g F s1 W h1, rOut_calls bx gx m Fx s2 W h2⟩
theorem DX.looses (h : DX w base bx g gx m H s1 s2 W) : (Calls Try.prog 17 #[.pointer (some ⟨g, 0, none⟩)] W fun e w' => e = .returned (.int .i64 (s1.loose.length : Int)) ∧ W = w') ∧ (Calls Try.prog 18 #[.pointer (some ⟨gx, 0, none⟩)] W fun e w' => e = .returned (.int .i64 (s2.loose.length : Int)) ∧ W = w') := by
  obtain ⟨⟨F, Fx, h1, h2, -⟩, -⟩ := h
  exact ⟨dLoose_calls base g F s1 W h1, rLoose_calls bx gx m Fx s2 W h2⟩
theorem DX.ok (h : DX w base bx g gx m H s1 s2 W) : s1.OK := by
  obtain ⟨⟨F, Fx, h1, -⟩, -⟩ := h
  exact h1.ok
end
theorem read_short {s : DS} (h : s.OK) (i : Int) : (readB s i).length ≤ 64 := by rw [readB_len s h i]; split <;> omega
theorem image_short {s : DS} (h : s.OK) (i : Int) : (imageB s i).length ≤ 64 := by rw [imageB_len s h i]; split <;> omega
theorem run_load_act {w : World} {a : DAct} {ad : Addr} (hl : ∀ j v, (AV a).toList[j]? = some v → w.cell? (ad.add j) = some v) : (loadVar 35 ad).run Try.prog w = .ok (.agg (AV a)) w := by
  have HSZ : (Try.prog.info? 35).map (·.size) = some (AV a).toList.length := by kernel_rfl
  have HUN : ∃ d, Try.prog.underlying 35 = some d ∧ aggD d = true := by
    have h : (Try.prog.underlying 35).map aggD = some true := by kernel_rfl
    obtain ⟨d, h1, h2⟩ := Option.map_eq_some_iff.1 h
    exact ⟨d, h1, h2⟩
  obtain ⟨d, u1, u2⟩ := HUN
  have := run_load_cells (P := Try.prog) 35 ad (AV a).toList hl u1 u2 HSZ
  simpa using this
set_option maxRecDepth 20000 in
theorem script_off (z : Int) (n c : Nat) (A : Option Addr) (ts : List DAct) (w : World) (h : DATS w A n ts) (hn : n ≤ 9223372036854775807) (hq : longA ts = true ∨ (12 < z ∧ z ≤ 65536)) :
    Calls Try.prog 3 #[.int .i64 z, .slice A n c] w fun e w' => e = .returned (.bool true) ∧ Below w.heap.size w w' := by
  have HL := hid (longA_calls n c A ts w h hn)
  have HQ := hid hq
  clear h hn hq
  generalize longA ts = lo at HL HQ
  cases lo with
  | true =>
    go_enter Try.func3, Try.ntmps3
    go_wp2_with fail
    refine HL.out.mono ?_
    rintro _ _ ⟨rfl, rfl⟩
    go_wp2_with fail
    refine (awake_calls w).mono ?_
    rintro _ w1 ⟨rfl, hb⟩
    have HB := hid hb
    clear hb
    go_wp2_with fail
    go_ret
    exact ⟨rfl, HB.out⟩
  | false =>
    have h12 : 12 < z ∧ z ≤ 65536 := by
      rcases HQ.out with h | h
      · cases h
      · exact h
    obtain ⟨h1, h2⟩ := h12
    go_enter Try.func3, Try.ntmps3
    go_wp2_with fail
    refine HL.out.mono ?_
    rintro _ _ ⟨rfl, rfl⟩
    go_wp2_with fail
    refine (awake_calls w).mono ?_
    rintro _ w1 ⟨rfl, hb⟩
    have HB := hid hb
    clear hb
    go_wp2_with fail
    go_ret
    exact ⟨rfl, HB.out⟩
set_option maxRecDepth 20000 in
theorem script_bad (z : Int) (n c : Nat) (A : Option Addr) (ts : List DAct) (w : World) (h : DATS w A n ts) (hn : n ≤ 9223372036854775807) (hlo : longA ts = false) (hz : z < 1 ∨ 65536 < z) :
    Calls Try.prog 3 #[.int .i64 z, .slice A n c] w fun e w' => e = .returned (.bool true) ∧ Below w.heap.size w w' := by
  have HL := hid (longA_calls n c A ts w h hn)
  rw [hlo] at HL
  have HN := hid (new_bad z w hz)
  have HR := hid (rNew_bad z w hz)
  have he := fun W => eql_none_ptr (P := Try.prog) W 25 48 none (by kernel_rfl)
  have hq : ¬ (12 < z ∧ z ≤ 65536) := by omega
  clear h hn hlo
  by_cases h12 : 12 < z
  · have h65 : ¬ z ≤ 65536 := by omega
    clear hz hq
    go_enter Try.func3, Try.ntmps3
    go_wp2_with fail
    refine HL.out.mono ?_
    rintro _ _ ⟨rfl, rfl⟩
    go_wp2_with fail
    refine HN.out.mono ?_
    rintro _ _ ⟨rfl, rfl⟩
    go_wp2_with fail
    refine HR.out.mono ?_
    rintro _ _ ⟨rfl, rfl⟩
    go_wp2_with fail
    go_loop [9] (fun i => i = .int .i64 0) (fun _ => 0)
    case atStart => rfl
    case round =>
      obtain rfl := hrel
      go_wp2_with fail
      refine (awake_calls w).mono ?_
      rintro _ w1 ⟨rfl, hb⟩
      have HB := hid hb
      clear hb
      go_wp2_with fail
      go_ret
      exact ⟨rfl, HB.out⟩
  · clear hz hq
    go_enter Try.func3, Try.ntmps3
    go_wp2_with fail
    refine HL.out.mono ?_
    rintro _ _ ⟨rfl, rfl⟩
    go_wp2_with fail
    refine HN.out.mono ?_
    rintro _ _ ⟨rfl, rfl⟩
    go_wp2_with fail
    refine HR.out.mono ?_
    rintro _ _ ⟨rfl, rfl⟩
    go_wp2_with fail
    go_loop [9] (fun i => i = .int .i64 0) (fun _ => 0)
    case atStart => rfl
    case round =>
      obtain rfl := hrel
      go_wp2_with fail
      refine (awake_calls w).mono ?_
      rintro _ w1 ⟨rfl, hb⟩
      have HB := hid hb
      clear hb
      go_wp2_with fail
      go_ret
      exact ⟨rfl, HB.out⟩
set_option maxHeartbeats 8000000 in
set_option maxRecDepth 20000 in
theorem script_good (z n c : Nat) (A : Option Addr) (ts : List DAct) (w : World) (h : DATS w A n ts) (hn : n ≤ 9223372036854775807) (hlo : longA ts = false) (h1 : 1 ≤ z) (h2 : z ≤ 12) :
    Calls Try.prog 3 #[.int .i64 (z : Int), .slice A n c] w fun e w' => e = .returned (.bool true) ∧ Below w.heap.size w w' := by
  have HL := hid (longA_calls n c A ts w h hn)
  rw [hlo] at HL
  obtain ⟨hn60, hk60⟩ := longA_no hlo
  rw [h.len] at hn60
  have HK60 := hid hk60
  have HT := hid h
  have HN := hid (new_calls z w h1 (by omega))
  have HR := hid (fun W => rNew_calls z W h1 (by omega))
  have q1 : ¬ 12 < (z : Int) := by omega
  have hsz : (Try.prog.info? 48).map (·.size) = some 6 := by kernel_rfl
  have hsx : (Try.prog.info? 69).map (·.size) = some 5 := by kernel_rfl
  clear h hn hlo hk60
  go_enter Try.func3, Try.ntmps3
  go_wp2_with fail
  refine HL.out.mono ?_
  rintro _ _ ⟨rfl, rfl⟩
  go_wp2_with fail
  refine HN.out.mono ?_
  rintro _ w1 ⟨g, F, rfl, hd, hb1⟩
  have HD := hid hd; have HB1 := hid hb1
  clear hd hb1
  go_wp2_with fail
  refine (HR.out w1).mono ?_
  rintro _ w2 ⟨gx, Fx, rfl, hr, hb2⟩
  have HX := hid (show DX w w.heap.size w1.heap.size g gx 0 [] (startS z) (startS z) w2 from
    ⟨⟨F, Fx, HD.out.keep hb2, hr, fun b hb hb' => by have := (hr.lt b hb).1; have := (HD.out.lt b hb').2; omega, fun b hb => by cases hb⟩, HB1.out.trans (hb2.mono HB1.out.size), Nat.le_refl _, HB1.out.size, Nat.le_trans HB1.out.size hb2.size, hb2.size⟩)
  have HBN := hid (show BndS 0 (startS z) from ⟨by simp [startS], fun j hj => by simp [startS] at hj⟩)
  clear hr hb2 HD HB1 HL HN HR
  generalize w1.heap.size = bx at HX
  go_wp2_with fail
  go_loopw [9] (fun i wr => ∃ (k : Nat) (s : DS), k ≤ n ∧ i = .int .i64 (k : Int) ∧ Hid (BndS k s) ∧ Hid (DX w w.heap.size bx g gx k [] s s wr)) (fun i _ => n - (intOf i).toNat)
  case atStart => exact ⟨0, _, Nat.zero_le _, rfl, HBN, HX⟩
  case round =>
    clear HX HBN
    obtain ⟨k, s, hk, rfl, HBN, HX⟩ := hrel
    by_cases hlt : k < n
    · have HTw := hid (HT.out.keep HX.out.bel)
      obtain ⟨b, off, rfl, hc⟩ := HTw.out.at_ (by omega)
      obtain ⟨b0, off0, e0, hc0⟩ := HT.out.at_ (show 0 < n by omega)
      cases e0
      have hkl : k < ts.length := by have := HT.out.len; omega
      obtain ⟨a, ha⟩ : ∃ a, ts[k]? = some a := ⟨ts[k], List.getElem?_eq_getElem hkl⟩
      have hok := HT.out.ok a (List.mem_of_getElem? ha)
      have HRUN := hid (run_load_act (w := wr) (a := a) (ad := ⟨b, off + k * 4, none⟩) (fun j v hj => by rw [Addr.add_lit]; exact hc k a ha j v (by simpa using hj)))
      have hix := fun W => ix_act b off n c k hlt W
      have HAC := hid (acted_calls w w.heap.size bx g gx k s a wr HX.out (by omega) (by have := HBN.out.1; omega) HBN.out.2 (hok.keep HX.out.bel) (HK60.out a (List.mem_of_getElem? ha)) (fun h0 b off e => hok.1.lt h0 b off e) (fun W' hW' => hok.1.keep hW'))
      have HB2 := hid (act_bnd HBN.out a hok.2.1)
      have q0 : (k : Int) < (n : Int) := by omega
      clear hc hc0 hok ha HX HBN HTw
      generalize AV a = av at HRUN HAC
      generalize actS s a = sn at HAC HB2
      go_wp2_with (first | (refine wpList_load_run rfl 35 _ rfl _ _ rfl HRUN.out ?_))
      refine HAC.out.mono ?_
      rintro _ wa ⟨rfl, hx⟩
      have HX := hid hx
      clear hx HAC HRUN
      have HLO := hid (show sn.loose.length ≤ 1000000 from by have := HB2.out.1; omega)
      go_wp2_with fail
      refine (HX.out.sizes.1).mono ?_
      rintro _ _ ⟨rfl, rfl⟩
      go_wp2_with fail
      refine (HX.out.sizes.2).mono ?_
      rintro _ _ ⟨rfl, rfl⟩
      go_wp2_with fail
      refine (HX.out.outs.1).mono ?_
      rintro _ _ ⟨rfl, rfl⟩
      go_wp2_with fail
      refine (HX.out.outs.2).mono ?_
      rintro _ _ ⟨rfl, rfl⟩
      go_wp2_with fail
      refine (HX.out.looses.1).mono ?_
      rintro _ _ ⟨rfl, rfl⟩
      go_wp2_with fail
      refine (HX.out.looses.2).mono ?_
      rintro _ _ ⟨rfl, rfl⟩
      go_wp2_with fail
      go_loopw [10] (fun i wr => ∃ j : Int, -1 ≤ j ∧ j ≤ (z : Int) + 1 ∧ i = .int .i64 j ∧ Hid (DX w w.heap.size bx g gx (k + 1) [] sn sn wr)) (fun i _ => ((z : Int) + 1 - intOf i).toNat)
      case atStart => exact ⟨-1, by omega, by omega, rfl, HX⟩
      case round =>
        clear HX
        obtain ⟨j, hj1, hj2, rfl, HX⟩ := hrel
        by_cases hjz : j ≤ (z : Int)
        · have HRS := hid (read_short HX.out.ok j)
          have HIS := hid (image_short HX.out.ok j)
          have HRR := hid (fun W (h : DX w w.heap.size bx g gx (k + 1) ([] : List Nat) sn sn W) => h.readR HLO.out j)
          go_wp2_with fail
          refine (HX.out.readO j).mono ?_
          rintro _ wa ⟨v5, rfl, ho5, hb5⟩
          obtain ⟨A5, c5, rfl, -⟩ := ho5.sb
          have HX5 := hid (HX.out.more (H' := (Value.slice A5 (readB sn j).length c5).ownBlock.toList) hb5 (fun b hb => .inr (ho5.block b (by simpa using hb))))
          have HO5 := hid (ho5.lower HX.out.bel.size)
          have HZ5 := hid (fun b (e : (Value.slice A5 (readB sn j).length c5).ownBlock = some b) => (ho5.block b e).2)
          clear ho5 hb5 HX
          go_wp2_with fail
          refine (HRR.out _ (HX5.out.less (fun b hb => by cases hb))).mono ?_
          rintro _ wb ⟨v6, rfl, ho6, hb6⟩
          obtain ⟨A6, c6, rfl, -, hs6, -⟩ := ho6.sb
          have HX6 := hid (HX5.out.keep hb6)
          have HO6 := hid (HO5.out.keep hb6)
          have HS6 := hid hs6
          have HZ6 := hid (fun b e => Nat.lt_of_lt_of_le (HZ5.out b e) hb6.size)
          clear ho6 hb6 hs6 HX5 HO5 HZ5 HRR
          go_wp2_with fail
          refine (HX6.out.imageO j).mono ?_
          rintro _ wc ⟨v7, rfl, ho7, hb7⟩
          obtain ⟨A7, c7, rfl, -⟩ := ho7.sb
          have HX7 := hid (HX6.out.more (H' := (Value.slice A5 (readB sn j).length c5).ownBlock.toList ++ (Value.slice A7 (imageB sn j).length c7).ownBlock.toList) hb7 (fun b hb => by
            rw [List.mem_append] at hb
            rcases hb with hb | hb
            · exact .inl hb
            · exact .inr (ho7.block b (by simpa using hb))))
          have HO7 := hid (ho7.lower HX6.out.bel.size)
          have HN57 := hid (fun b (e : (Value.slice A5 (readB sn j).length c5).ownBlock = some b) (e2 : (Value.slice A7 (imageB sn j).length c7).ownBlock = some b) => (show False from by have := HZ6.out b e; have := (ho7.block b e2).1; omega))
          have HP5 := hid (HO6.out.keep hb7); have HS67 := hid (HS6.out.keep hb7)
          clear ho7 hb7 HX6 HO6 HS6 HZ6
          go_wp2_with fail
          refine (HX7.out.imageR j).mono ?_
          rintro _ wd ⟨v8, rfl, ho8, hb8⟩
          obtain ⟨A8, c8, rfl, -, hs8, -⟩ := ho8.sb
          have HX8 := hid (HX7.out.keep hb8)
          have HP58 := hid (HP5.out.keep hb8); have HS68 := hid (HS67.out.keep hb8); have HO78 := hid (HO7.out.keep hb8); have HS8 := hid hs8
          obtain ⟨A5', c5', e5, -, sb5, -⟩ := HP58.out.sb
          obtain ⟨rfl, rfl⟩ : A5 = A5' ∧ c5 = c5' := by injection e5 with h1 _ h3; exact ⟨h1, h3⟩
          obtain ⟨A7', c7', e7, -, sb7, -⟩ := HO78.out.sb
          obtain ⟨rfl, rfl⟩ : A7 = A7' ∧ c7 = c7' := by injection e7 with h1 _ h3; exact ⟨h1, h3⟩
          have HSM1 := hid (sameBytes_calls _ _ c5 _ _ c6 A5 A6 _ _ wd sb5 HS68.out)
          have HSM2 := hid (sameBytes_calls _ _ c7 _ _ c8 A7 A8 _ _ wd sb7 HS8.out)
          simp only [beq_self_eq_true] at HSM1 HSM2
          have HOV1 := hid (overBytes_calls _ _ c5 A5 _ wd HP58.out (by have := HRS.out; omega))
          have HOV2 := hid (fun W (ho : Own W w.heap.size 5 (.slice A7 (imageB sn j).length c7) (imageB sn j).length (imageB sn j)) => overBytes_calls _ _ c7 A7 _ W ho (by have := HIS.out; omega))
          have HF1 := hid (fun W' (hg : wd.grownBy W' (Value.slice A5 (readB sn j).length c5).ownBlock) => (show DX w w.heap.size bx g gx (k + 1) ((Value.slice A5 (readB sn j).length c5).ownBlock.toList ++ (Value.slice A7 (imageB sn j).length c7).ownBlock.toList) sn sn W' ∧ Own W' w.heap.size 5 (.slice A7 (imageB sn j).length c7) (imageB sn j).length (imageB sn j) from
            ⟨HX8.out.high (Chg.of_grown (L := (Value.slice A5 (readB sn j).length c5).ownBlock.toList) hg (fun b e => by rw [e]; simp)) (fun b hb => ⟨by rw [List.mem_append]; exact .inl hb, (HP58.out.block b (by simpa using hb)).1⟩), HO78.out.kept hg (by
              cases h7 : (Value.slice A7 (imageB sn j).length c7).ownBlock with
              | none => exact .inl rfl
              | some b => exact .inr (fun e => HN57.out b e.symm h7))⟩))
          have HF2 := hid (fun W W' (h : DX w w.heap.size bx g gx (k + 1) ((Value.slice A5 (readB sn j).length c5).ownBlock.toList ++ (Value.slice A7 (imageB sn j).length c7).ownBlock.toList) sn sn W) (ho : Own W w.heap.size 5 (.slice A7 (imageB sn j).length c7) (imageB sn j).length (imageB sn j)) (hg : W.grownBy W' (Value.slice A7 (imageB sn j).length c7).ownBlock) =>
            (h.high (Chg.of_grown (L := (Value.slice A7 (imageB sn j).length c7).ownBlock.toList) hg (fun b e => by rw [e]; simp)) (fun b hb => ⟨by rw [List.mem_append]; exact .inr hb, (ho.block b (by simpa using hb)).1⟩)).less (H' := []) (fun b hb => by cases hb))
          clear ho8 hb8 hs8 HX7 HP5 HS67 HO7 e5 sb5 e7 sb7 HX8 HP58 HS68 HO78 HS8 HN57 HRS HIS
          generalize (readB sn j).length = l5 at *
          generalize (imageB sn j).length = l7 at *
          go_wp2_with fail
          refine HSM1.out.mono ?_
          rintro _ _ ⟨rfl, rfl⟩
          clear HSM1
          go_wp2_with fail
          refine HSM2.out.mono ?_
          rintro _ _ ⟨rfl, rfl⟩
          clear HSM2
          go_wp2_with fail
          refine HOV1.out.mono ?_
          rintro _ we ⟨rfl, hg⟩
          obtain ⟨hx9, ho9⟩ := HF1.out _ hg
          have HX9 := hid hx9; have HO9 := hid ho9
          clear hg hx9 ho9 HF1 HOV1
          go_wp2_with fail
          refine (HOV2.out _ HO9.out).mono ?_
          rintro _ wf ⟨rfl, hg⟩
          have HXf := hid (HF2.out _ _ HX9.out HO9.out hg)
          clear hg HX9 HO9 HF2 HOV2
          go_wp2_with fail
          go_roundw
          case rel => exact ⟨j + 1, by omega, by omega, by go_num, HXf⟩
          case measure => simp [intOf]; omega
        · have hjz' : (z : Int) < j := by omega
          go_wp2_with fail
          go_roundw
          case rel => exact ⟨k + 1, sn, by omega, by go_num, HB2, HX⟩
          case measure => simp [intOf]; omega
    · obtain rfl : k = n := by omega
      have q0 : ¬ (k : Int) < (k : Int) := by omega
      go_wp2_with fail
      refine (awake_calls wr).mono ?_
      rintro _ w9 ⟨rfl, hb⟩
      have HB := hid (HX.out.bel.trans (hb.mono HX.out.bel.size))
      clear hb
      go_wp2_with fail
      go_ret
      exact ⟨rfl, HB.out⟩
end Go.Proofs.Ytoajnabdflikfaa
