/- The law WireBack, walked. -/
import Derived.Test.YtcpkjpeimnaimaaWrBackT
import Derived.Test.YtcpkjpeimnaimaaWrKnownW
namespace Go.Proofs.Ytcpkjpeimnaimaa
open Go.RowKit

theorem long_each {ts : List Th} (hl : longV ts = false) {t : Th} (hm : t ∈ ts) : ts.length ≤ 30 ∧ t.cs.length ≤ 60 ∧ t.zs.length ≤ 60 := by
  unfold longV at hl
  rw [Bool.or_eq_false_iff] at hl
  have h30 : ts.length ≤ 30 := by simpa using hl.2
  rw [List.take_of_length_le (by omega)] at hl
  have h1 := hl.1
  rw [List.any_eq_false] at h1
  have h2 := h1 t hm
  simp only [Bool.or_eq_true, decide_eq_true_eq, not_or] at h2
  omega
theorem long30 {ts : List Th} (hl : longV ts = false) : ts.length ≤ 30 := by
  unfold longV at hl
  rw [Bool.or_eq_false_iff] at hl
  simpa using hl.2
theorem THS.tok {w : World} {A : Option Addr} {n : Nat} {ts : List Th} (h : THS w A n ts) (hl : longV ts = false) {t : Th} (hm : t ∈ ts) : TOK w t :=
  (h.ok t hm).strong (long_each hl hm).2.1 (long_each hl hm).2.2
theorem TFit.of {w : World} {ts : List Th} (hl : longV ts = false) {t : Th} (hm : t ∈ ts) (ht : TOK w t) : TFit t :=
  ⟨ht.1, (long_each hl hm).2.1, (long_each hl hm).2.2, ht.2.2.2.2.2.2.2.1, ht.2.2.2.2.2.2.2.2.1, ht.2.2.2.2.2.2.2.2.2.1, ht.2.2.2.2.2.2.2.2.2.2⟩
theorem THS.load {w : World} {b off n : Nat} {ts : List Th} (h : THS w (some ⟨b, off, none⟩) n ts) {k : Nat} {t : Th} (hk : ts[k]? = some t) (hn : 0 < n) : ∀ j v, (TV t).toList[j]? = some v → w.cell? ((⟨b, off + k * 39, none⟩ : Addr).add j) = some v := by
  obtain ⟨b', off', e, hc⟩ := h.at_ hn
  cases e
  intro j v hj
  rw [Addr.add_lit]
  exact hc k t hk j v (by simpa using hj)
set_option maxRecDepth 20000 in
theorem back_long (n c : Nat) (A : Option Addr) (ts : List Th) (w : World) (h : THS w A n ts) (hn : n ≤ 9223372036854775807) (hl : longV ts = true) :
    Calls Try.prog 7 #[.slice A n c] w fun e w' => e = .returned (.bool true) ∧ Below w.heap.size w w' := by
  have HH := hid h
  have HL := hid hl
  clear h hl
  go_enter Try.func7, Try.ntmps7
  go_wp2_with fail
  refine (known_calls w).mono ?_
  rintro _ w1 ⟨rfl, b1⟩
  have B := hid b1
  clear b1
  go_wp2_with fail
  refine (long_calls n c A ts w1 (HH.out.keep B.out) hn).mono ?_
  rintro _ _ ⟨rfl, rfl⟩
  rw [HL.out]
  go_wp2_with fail
  go_ret
  exact ⟨rfl, B.out⟩
theorem run_load_thing {w : World} {t : Th} {ad : Addr} (h32 : t.id.length = 32) (hl : ∀ j v, (TV t).toList[j]? = some v → w.cell? (ad.add j) = some v) : (loadVar 38 ad).run Try.prog w = .ok (.agg (TV t)) w := by
  have HSZ : (Try.prog.info? 38).map (·.size) = some (TV t).toList.length := by rw [Array.length_toList, TV_size h32]; kernel_rfl
  have HUN : ∃ d, Try.prog.underlying 38 = some d ∧ aggD d = true := by
    have h : (Try.prog.underlying 38).map aggD = some true := by kernel_rfl
    obtain ⟨d, h1, h2⟩ := Option.map_eq_some_iff.1 h
    exact ⟨d, h1, h2⟩
  obtain ⟨d, u1, u2⟩ := HUN
  have := run_load_cells (P := Try.prog) 38 ad (TV t).toList hl u1 u2 HSZ
  simpa using this
theorem wpList_load_run {P : Program} {ops : Array Oper} {rest : List Oper} {o : Oper} {a : Act} {w : World} {Q : Exit → Act → World → Prop} (hg : o.guard = none) (t : TypeId) (x : Operand) (ho : o.op = .load t x) (ad : Addr) (v : Value) (hx : a.eval x = .pointer (some ad))
    (hr : (loadVar t ad).run P w = .ok v w) (h : wpList P ops Q rest (a.put o.dst v) w) : wpList P ops Q (o :: rest) a w :=
  wpList_plain hg fun K hK => by
    unfold Oper.wp execOp
    simp only [ho, hx, Instr.loadAt, Instr.sureAddr, Sem.run_bind, Sem.run_pure, Result.andThen_ok, hr]
    exact hK _ _ h
set_option maxHeartbeats 8000000 in
set_option maxRecDepth 20000 in
theorem back_short (n c : Nat) (A : Option Addr) (ts : List Th) (w : World) (h : THS w A n ts) (hl : longV ts = false) (hsep : ∀ t ∈ ts, (0 < t.cs.length → ∀ b off, t.A = some ⟨b, off, none⟩ → b < w.heap.size) ∧ (0 < t.zs.length → ∀ b off, t.A2 = some ⟨b, off, none⟩ → b < w.heap.size)) :
    Calls Try.prog 7 #[.slice A n c] w fun e w' => e = .returned (.bool true) ∧ Below w.heap.size w w' := by
  have hn30 : n ≤ 30 := by have := long30 hl; have := h.len; omega
  have HFT := hid (fun t (hm : t ∈ ts) => TFit.of hl hm (h.tok hl hm))
  have HAL := hid (allTB_len (fun t hm => HFT.out t hm))
  have HLN := hid h.len
  have HH := hid h
  have HL := hid hl
  have HSP := hid hsep
  clear h hl hsep
  go_enter Try.func7, Try.ntmps7
  go_wp2_with fail
  refine (known_calls w).mono ?_
  rintro _ w1 ⟨rfl, b1⟩
  have B := hid b1
  clear b1
  go_wp2_with fail
  refine (long_calls n c A ts w1 (HH.out.keep B.out) (by omega)).mono ?_
  rintro _ _ ⟨rfl, rfl⟩
  rw [HL.out]
  go_wp2_with fail
  refine (newWriter_calls 1048576 w1 (by omega)).mono ?_
  rintro _ w2 ⟨g, f, rfl, hw, hg, hf, b2⟩
  have HW := hid (hw w.heap.size B.out.size); have B2 := hid (B.out.trans (b2.mono B.out.size))
  clear hw b2 B hg hf
  go_wp2_with fail
  go_loopw [6, 7, 8, 9] (fun i _ _ _ wr => ∃ (k : Nat) (r : Option Nat), k ≤ n ∧ i = .int .i64 (k : Int) ∧ Hid (∀ t ∈ ts.take k, anyNeg (thItems t) = false) ∧ Hid (WrB wr w.heap.size g f r 1048576 ⟨allTB (ts.take k), 0⟩) ∧ Hid (Below w.heap.size w wr)) (fun i _ _ _ _ => n - (intOf i).toNat)
  case atStart => exact ⟨0, none, Nat.zero_le _, rfl, (fun t ht => by simp at ht : ∀ t ∈ ts.take 0, anyNeg (thItems t) = false), HW.out, B2.out⟩
  case round =>
    clear HW B2
    obtain ⟨k, r, hk, rfl, HNG, HW, HB⟩ := hrel
    by_cases hlt : k < n
    · have hkl : k < ts.length := by have := HLN.out; omega
      obtain ⟨t, ht⟩ : ∃ t, ts[k]? = some t := ⟨ts[k], List.getElem?_eq_getElem hkl⟩
      have hm := List.mem_of_getElem? ht
      have HHr := HH.out.keep HB.out
      obtain ⟨b, off, rfl, -⟩ := HHr.at_ (by omega)
      have HRUN := hid (run_load_thing (HHr.tok HL.out hm).1 (HHr.load ht (by omega)))
      go_wp2_with (first | (refine wpList_load_run rfl 38 _ rfl _ _ rfl HRUN.out ?_))
      have hTF := HFT.out t hm
      have HPW := hid (writes_all w.heap.size g f r 1048576 ⟨allTB (ts.take k), 0⟩ t wr rfl HW.out (HHr.tok HL.out hm) (fun hp b off e he => by
        have h1 := (HSP.out t hm).1 hp b off e
        have h2 := (HW.out.fp_lt b (by rw [mem_fpw]; exact .inr (.inr he))).1
        omega) (fun hp b off e he => by
        have h1 := (HSP.out t hm).2 hp b off e
        have h2 := (HW.out.fp_lt b (by rw [mem_fpw]; exact .inr (.inr he))).1
        omega))
      cases hneg : anyNeg (thItems t) with
      | true =>
        rw [put_neg hneg] at HPW
        refine HPW.out.mono ?_
        rintro _ w3 ⟨rfl, r', h3, k3, m3⟩
        have HW3 := hid h3; have HB3 := hid (HB.out.trans (k3.below (fun b hb => (HW.out.fp_lt b hb).1) HB.out.size))
        clear h3 k3 m3 HPW HRUN
        go_wp2_with fail
        refine (wDone_failed w.heap.size g f r' 1048576 _ w3 HW3.out (show (3 : Nat) ≠ 0 by omega)).mono ?_
        rintro _ w4 ⟨rfl, b4⟩
        have HB4 := hid (HB3.out.trans (b4.mono HB3.out.size))
        clear b4
        go_wp2_with fail
        go_ret
        exact ⟨rfl, HB4.out⟩
      | false =>
        have hlen1 := allTB_len (l := ts.take (k + 1)) (fun y hy => HFT.out y (List.mem_of_mem_take hy))
        rw [allTB_next ts k t ht, List.length_append, List.length_take] at hlen1
        have h549 : 549 * min (k + 1) ts.length ≤ 549 * 30 := Nat.mul_le_mul_left _ (by have := HLN.out; omega)
        rw [put_pos hneg (by have : (flat (thItems t)).length = (thB t).length := rfl; omega)] at HPW
        refine HPW.out.mono ?_
        rintro _ w3 ⟨rfl, r', h3, k3, m3⟩
        have HW3 := hid (show WrB w3 w.heap.size g f r' 1048576 ⟨allTB (ts.take (k + 1)), 0⟩ from by rw [allTB_next ts k t ht]; exact h3)
        have HB3 := hid (HB.out.trans (k3.below (fun b hb => (HW.out.fp_lt b hb).1) HB.out.size))
        have HNG3 : Hid (∀ t ∈ ts.take (k + 1), anyNeg (thItems t) = false) := fun y hy => by
          rw [List.take_add_one, ht] at hy
          rcases List.mem_append.1 hy with hy | hy
          · exact HNG.out y hy
          · simp at hy; subst hy; exact hneg
        clear h3 k3 m3 HPW HRUN hlen1
        go_wp2_with fail
        go_roundw
        case rel => exact ⟨k + 1, r', by omega, by go_num, HNG3, HW3, HB3⟩
        case measure => simp [intOf]; omega
    · obtain rfl : k = n := by omega
      rw [show ts.take k = ts from List.take_of_length_le (by have := HLN.out; omega)] at HNG HW
      go_wp2_with fail
      refine (wDone_open w.heap.size g f r 1048576 _ wr HW.out rfl).mono ?_
      rintro _ w4 ⟨v, rfl, h4, b4⟩
      obtain ⟨A4, c4, e4, hc4, s4, hlt4⟩ := h4.sb
      subst e4
      have HD := hid (And.intro h4 (And.intro hc4 (And.intro s4 hlt4)))
      have HW4 := hid (HW.out.keep b4)
      have HB4 := hid (HB.out.trans (b4.mono HB.out.size))
      have hL := HAL.out
      clear h4 hc4 s4 hlt4 b4 HW HB
      simp only at HD
      generalize hLL : (allTB ts).length = L at HD hL
      have HLL := hid hLL
      clear hLL
      go_wp2_with fail
      refine (newReader_calls w4.heap.size L c4 A4 (allTB ts) w4 HD.out.2.2.1 (by have := HLN.out; omega)).mono ?_
      rintro _ w5 ⟨g2, f2, r2, rfl, hr5, b5⟩
      have HR5 := hid hr5; have HW5 := hid (HW4.out.keep b5); have B5 := hid b5
      clear hr5 b5 HW4
      go_wp2_with fail
      refine (wLen_calls w.heap.size g f r 1048576 _ w5 HW5.out).mono ?_
      rintro _ _ ⟨rfl, rfl⟩
      rw [show (({ bs := allTB ts, e := 0 } : WS).bs.length) = L from HLL.out]
      clear HW5
      go_wp2_with fail
      go_loopw [13] (fun i wx => ∃ q : Nat, q ≤ k ∧ i = .int .i64 (q : Int) ∧ Hid (RdB wx w4.heap.size g2 f2 r2 (allTB ts) (.ok (allTB (ts.take q)).length)) ∧ Hid (Below w4.heap.size w4 wx)) (fun i _ => k - (intOf i).toNat)
      case atStart => exact ⟨0, Nat.zero_le _, rfl, HR5, B5⟩
      case round =>
        clear HR5 B5
        obtain ⟨q, hq, rfl, HRD, HB5⟩ := hrel
        by_cases hlt : q < k
        · have hkl : q < ts.length := by have := HLN.out; omega
          obtain ⟨t, ht⟩ : ∃ t, ts[q]? = some t := ⟨ts[q], List.getElem?_eq_getElem hkl⟩
          have hm := List.mem_of_getElem? ht
          have HHr := HH.out.keep (HB4.out.trans (HB5.out.mono HB4.out.size))
          obtain ⟨b, off, rfl, -⟩ := HHr.at_ (by omega)
          have HRUN := hid (run_load_thing (HHr.tok HL.out hm).1 (HHr.load ht (by omega)))
          have hAR := all_read ht (HFT.out t hm) (HNG.out t hm)
          have hgf := HRD.out.fp_lt
          have HCL := hid (reads_all w4.heap.size g2 f2 r2 (allTB ts) _ t _ (by rw [HLL.out]; have := HLN.out; omega) HRD.out (HHr.tok HL.out hm) (HFT.out t hm) (fun hp b off e hin => by
            have h1 := (HSP.out t hm).1 hp b off e
            have h2 := (hgf b (by rw [mem_fpw]; simp at hin; rcases hin with h | h <;> simp [h])).1
            have := HB4.out.size
            omega) (fun hp b off e hin => by
            have h1 := (HSP.out t hm).2 hp b off e
            have h2 := (hgf b (by rw [mem_fpw]; simp at hin; rcases hin with h | h <;> simp [h])).1
            have := HB4.out.size
            omega))
          unfold RtPost at HCL
          rw [hAR.1, hAR.2] at HCL
          go_wp2_with (first | (refine wpList_load_run rfl 38 _ rfl _ _ rfl HRUN.out ?_))
          refine HCL.out.mono ?_
          rintro _ w6 ⟨rfl, h6, k6⟩
          have HRD6 := hid h6
          have HB6 := hid (HB5.out.trans (k6.below (fun b hb => (hgf b (by rw [mem_fpw]; simp at hb; rcases hb with h | h <;> simp [h])).1) HB5.out.size))
          clear h6 k6 HCL HRUN hAR hgf HHr HRD HB5
          go_wp2_with fail
          go_roundw
          case rel => exact ⟨q + 1, by omega, by go_num, HRD6, HB6⟩
          case measure => simp [intOf]; omega
        · obtain rfl : q = k := by omega
          rw [show ts.take q = ts from List.take_of_length_le (by have := HLN.out; omega)] at HRD
          go_wp2_with fail
          refine (rEnd_calls w4.heap.size g2 f2 r2 (allTB ts) _ _ HRD.out).mono ?_
          rintro _ w6 ⟨rfl, b6⟩
          rw [show endS (allTB ts) (.ok (allTB ts).length) = (0, 0) from if_neg (Nat.lt_irrefl _)]
          have HR6 := hid (HRD.out.keep b6)
          have HB6 := hid (HB5.out.trans (b6.mono HB5.out.size))
          clear b6 HRD HB5
          go_wp2_with fail
          refine (rest_calls w4.heap.size g2 f2 r2 (allTB ts) _ w6 HR6.out).mono ?_
          rintro _ w7 ⟨rfl, b7, -⟩
          rw [show restS (allTB ts) (.ok (allTB ts).length) = 0 from Nat.sub_self _]
          have HB7 := hid (HB6.out.trans (b7.mono HB6.out.size))
          clear b7 HB6 HR6
          by_cases hL0 : L = 0
          · subst hL0
            go_wp2_with fail
            go_ret
            exact ⟨rfl, HB4.out.trans (HB7.out.mono HB4.out.size)⟩
          · have e1 : (L : Int) - 1 = ((L - 1 : Nat) : Int) := by omega
            have q1 : ¬ (L : Int) = 0 := by omega
            have q2 : ((L - 1 : Nat) : Int) ≤ (c4 : Int) := by have := HD.out.2.1; omega
            have q3 : (0 : Int) ≤ ((L - 1 : Nat) : Int) := by omega
            have e2 : wrap64 ((L - 1 : Nat) : Int) = ((L - 1 : Nat) : Int) := IntWalk.wrap64_in _ (by have := HLN.out; omega)
            go_wp2_with fail
            refine (newReader_calls w4.heap.size (L - 1) c4 A4 ((allTB ts).take (L - 1)) w7 ((HD.out.2.2.1.keep HB7.out).take (L - 1) (by omega)) (by have := HLN.out; omega)).mono ?_
            rintro _ w8 ⟨g3, f3, r3, rfl, hr8, b8⟩
            have HR8 := hid (hr8.lower HB7.out.size); have B8 := hid (HB7.out.trans (b8.mono HB7.out.size))
            clear hr8 b8 HB7
            go_wp2_with fail
            go_loopw [15] (fun i wx => ∃ m : Nat, m ≤ q ∧ i = .int .i64 (m : Int) ∧ (∃ s, Hid (CutS ts m s) ∧ Hid (RdB wx w4.heap.size g3 f3 r3 ((allTB ts).take (L - 1)) s)) ∧ Hid (Below w4.heap.size w4 wx)) (fun i _ => q - (intOf i).toNat)
            case atStart => exact ⟨0, Nat.zero_le _, rfl, ⟨_, (.inl ⟨Nat.zero_le _, rfl⟩ : CutS ts 0 (.ok 0)), HR8⟩, B8⟩
            case round =>
              clear HR8 B8
              obtain ⟨m, hm, rfl, ⟨s, HCS, HRD⟩, HB5⟩ := hrel
              by_cases hlt : m < q
              · have hkl : m < ts.length := by have := HLN.out; omega
                obtain ⟨t, ht⟩ : ∃ t, ts[m]? = some t := ⟨ts[m], List.getElem?_eq_getElem hkl⟩
                have hmm := List.mem_of_getElem? ht
                have HHr := HH.out.keep (HB4.out.trans (HB5.out.mono HB4.out.size))
                obtain ⟨b, off, rfl, -⟩ := HHr.at_ (by omega)
                have HRUN := hid (run_load_thing (HHr.tok HL.out hmm).1 (HHr.load ht (by omega)))
                have hAR := cut_next ht (HFT.out t hmm) (HNG.out t hmm) HCS.out
                rw [HLL.out] at hAR
                have hgf := HRD.out.fp_lt
                have HCL := hid (reads_all w4.heap.size g3 f3 r3 ((allTB ts).take (L - 1)) s t _ (by rw [List.length_take, HLL.out]; have := HLN.out; omega) HRD.out (HHr.tok HL.out hmm) (HFT.out t hmm) (fun hp b off e hin => by
                  have h1 := (HSP.out t hmm).1 hp b off e
                  have h2 := (hgf b (by rw [mem_fpw]; simp at hin; rcases hin with h | h <;> simp [h])).1
                  have := HB4.out.size
                  omega) (fun hp b off e hin => by
                  have h1 := (HSP.out t hmm).2 hp b off e
                  have h2 := (hgf b (by rw [mem_fpw]; simp at hin; rcases hin with h | h <;> simp [h])).1
                  have := HB4.out.size
                  omega))
                unfold RtPost at HCL
                have HAR := hid hAR
                clear hAR HCS
                generalize rdV ((allTB ts).take (L - 1)) t s = vv at HCL
                generalize rdS ((allTB ts).take (L - 1)) t s = s' at HCL HAR
                go_wp2_with (first | (refine wpList_load_run rfl 38 _ rfl _ _ rfl HRUN.out ?_))
                refine HCL.out.mono ?_
                rintro _ w9 ⟨rfl, h9, k9⟩
                have HRD9 := hid h9
                have HB9 := hid (HB5.out.trans (k9.below (fun b hb => (hgf b (by rw [mem_fpw]; simp at hb; rcases hb with h | h <;> simp [h])).1) HB5.out.size))
                clear h9 k9 HCL HRUN hgf HHr HRD HB5
                go_wp2_with fail
                go_roundw
                case rel => exact ⟨m + 1, by omega, by go_num, ⟨s', HAR, HRD9⟩, HB9⟩
                case measure => simp [intOf]; omega
              · obtain rfl : m = q := by omega
                obtain ⟨p, rfl⟩ : ∃ p, s = .bad 6 p := cut_end (by rw [HLL.out]; exact hL0) (HLN.out ▸ HCS.out)
                go_wp2_with fail
                refine (rEnd_calls w4.heap.size g3 f3 r3 _ _ _ HRD.out).mono ?_
                rintro _ w9 ⟨rfl, b9⟩
                rw [show ∀ bs, endS bs (.bad 6 p) = (6, p) from fun _ => rfl]
                have HB9 := hid (HB4.out.trans ((HB5.out.trans (b9.mono HB5.out.size)).mono HB4.out.size))
                clear b9
                have hfd : ∀ w : World, (Instr.field 61 (.agg #[.int .i64 6, .int .i64 (p : Int)]) 0).run Try.prog w = .ok (.int .i64 6) w := fun _ => by kernel_rfl
                go_wp2_with fail
                go_ret
                exact ⟨rfl, HB9.out⟩
end Go.Proofs.Ytcpkjpeimnaimaa
