/- The law DeviceCrash, walked. -/
import Derived.Test.YtjenafbkalokoaaDvRow
namespace Go.Proofs.Ytjenafbkalokoaa
open Go.RowKit

theorem cB_val (k : Int) (h0 : 0 ≤ k) (h : k < 256) : Value.int .u8 k = .int .u8 ((cB k.toNat).toNat : Int) := by
  have : ((cB k.toNat).toNat : Int) = k := by
    simp [cB, UInt8.toNat_ofNat']
    omega
  rw [this]
set_option maxRecDepth 20000 in
theorem crash_long (z t : Int) (A1 A2 : Option Addr) (n1 c1 n2 c2 : Nat) (w : World) (h : 30 < n1 ∨ (¬ 30 < n1 ∧ 40 < n2)) :
    Calls Try.prog 6 #[.int .i64 z, .slice A1 n1 c1, .slice A2 n2 c2, .int .i64 t] w fun e w' => e = .returned (.bool true) ∧ Below w.heap.size w w' := by
  have h1 := Int.emod_nonneg z (show (8 : Int) ≠ 0 by omega)
  have h2 := Int.emod_lt_of_pos z (show (0 : Int) < 8 by omega)
  obtain ⟨m, hm⟩ : ∃ m : Nat, z % 8 = (m : Int) := ⟨(z % 8).toNat, by omega⟩
  have hm8 : m < 8 := by omega
  have HM := hid hm
  have HN := hid (show (1 : Int) + (m : Int) = ((1 + m : Nat) : Int) from by omega)
  clear hm h1 h2
  rcases h with h | ⟨h, h'⟩
  · go_enter Try.func6, Try.ntmps6
    go_wp2_with fail
    refine (known_calls w).mono ?_
    rintro _ w1 ⟨rfl, hb⟩
    have HB := hid hb
    clear hb
    go_wp2_with fail
    refine (pick_calls z 8 w1 (by omega) (by omega)).mono ?_
    rintro _ _ ⟨rfl, rfl⟩
    rw [HM.out]
    go_wp2_with fail
    refine (pick_calls t 64 w1 (by omega) (by omega)).mono ?_
    rintro _ _ ⟨rfl, rfl⟩
    generalize t % 64 = t2
    go_wp2_with fail
    rw [HN.out]
    refine (d1_new w (1 + m) w1 HB.out (by omega) (by omega)).mono ?_
    rintro _ w2 ⟨g, rfl, hd⟩
    have HB2 := hid hd.1
    clear hd
    go_wp2_with fail
    go_ret
    exact ⟨rfl, HB2.out⟩
  · go_enter Try.func6, Try.ntmps6
    go_wp2_with fail
    refine (known_calls w).mono ?_
    rintro _ w1 ⟨rfl, hb⟩
    have HB := hid hb
    clear hb
    go_wp2_with fail
    refine (pick_calls z 8 w1 (by omega) (by omega)).mono ?_
    rintro _ _ ⟨rfl, rfl⟩
    rw [HM.out]
    go_wp2_with fail
    refine (pick_calls t 64 w1 (by omega) (by omega)).mono ?_
    rintro _ _ ⟨rfl, rfl⟩
    generalize t % 64 = t2
    go_wp2_with fail
    rw [HN.out]
    refine (d1_new w (1 + m) w1 HB.out (by omega) (by omega)).mono ?_
    rintro _ w2 ⟨g, rfl, hd⟩
    have HB2 := hid hd.1
    clear hd
    go_wp2_with fail
    go_ret
    exact ⟨rfl, HB2.out⟩
set_option maxHeartbeats 8000000 in
set_option maxRecDepth 20000 in
theorem crash_short (z t : Int) (A1 A2 : Option Addr) (n1 c1 n2 c2 : Nat) (since : List Int) (keep : List Bool) (w : World) (h1 : n1 ≤ 30) (h2 : n2 ≤ 40) (hsi : SI w A1 n1 since) (hkb : KB w A2 n2 keep) :
    Calls Try.prog 6 #[.int .i64 z, .slice A1 n1 c1, .slice A2 n2 c2, .int .i64 t] w fun e w' => e = .returned (.bool true) ∧ Below w.heap.size w w' := by
  have z1 := Int.emod_nonneg z (show (8 : Int) ≠ 0 by omega)
  have z2 := Int.emod_lt_of_pos z (show (0 : Int) < 8 by omega)
  have t1 := Int.emod_nonneg t (show (64 : Int) ≠ 0 by omega)
  have t2 := Int.emod_lt_of_pos t (show (0 : Int) < 64 by omega)
  obtain ⟨m, hm⟩ : ∃ m : Nat, z % 8 = (m : Int) := ⟨(z % 8).toNat, by omega⟩
  obtain ⟨u, hu⟩ : ∃ u : Nat, t % 64 = (u : Int) := ⟨(t % 64).toNat, by omega⟩
  have hm8 : m < 8 := by omega
  have hu64 : u < 64 := by omega
  have HM := hid hm; have HU := hid hu
  obtain ⟨N, hN⟩ : ∃ N, N = 1 + m := ⟨_, rfl⟩
  have HN := hid (show (1 : Int) + (m : Int) = ((N : Nat) : Int) from by omega)
  have hN0 : 0 < N := by omega
  have hN8 : N ≤ 8 := by omega
  have HSI := hid hsi; have HKB := hid hkb
  clear hm hu z1 z2 t1 t2 hN hsi hkb
  have n30 : ¬ 30 < n1 := by omega
  have n40 : ¬ 40 < n2 := by omega
  go_enter Try.func6, Try.ntmps6
  go_wp2_with fail
  refine (known_calls w).mono ?_
  rintro _ w1 ⟨rfl, hb⟩
  have HB := hid hb
  clear hb
  go_wp2_with fail
  refine (pick_calls z 8 w1 (by omega) (by omega)).mono ?_
  rintro _ _ ⟨rfl, rfl⟩
  rw [HM.out]
  go_wp2_with fail
  refine (pick_calls t 64 w1 (by omega) (by omega)).mono ?_
  rintro _ _ ⟨rfl, rfl⟩
  rw [HU.out]
  go_wp2_with fail
  rw [HN.out]
  refine (d1_new w N w1 HB.out (by omega) (by omega)).mono ?_
  rintro _ w2 ⟨g, rfl, hd⟩
  have HD := hid hd
  clear hd HB hm8
  go_wp2_with fail
  clear n30 n40
  go_loopw [12] (fun i wr => ∃ (k : Nat) (s : DS), k ≤ N ∧ i = .int .i64 (k : Int) ∧ Hid (Q1 N k s) ∧ Hid (Dev1 w wr g s)) (fun i _ => N - (intOf i).toNat)
  case atStart => exact ⟨0, _, Nat.zero_le _, rfl, q1_start N (by omega), HD.out⟩
  case round =>
    clear HD
    obtain ⟨k, s, hk, rfl, HQ, HD⟩ := hrel
    by_cases hlt : k < N
    · obtain ⟨q1, q2⟩ := q1_next HQ.out hlt
      have HQ2 := hid q1; have HE := hid (show okB (writeE s k 64) = true from by rw [q2]; rfl)
      clear q1 q2
      go_wp2_with fail
      refine (d1_puts (k : Int) 200 HD.out (HQ.out.plain.ok (by rw [HQ.out.len]; omega))).mono ?_
      rintro _ w3 ⟨rfl, hd⟩
      rw [HE.out]
      have HD2 := hid hd
      clear hd HD HQ
      go_wp2_with fail
      go_roundw
      case rel => exact ⟨k + 1, _, by omega, by go_num, HQ2, HD2⟩
      case measure => simp [intOf]; omega
    · obtain rfl : N = k := by omega
      clear hlt hk
      obtain ⟨I, q2, q3⟩ := q2_of HQ.out
      have HQ2 := hid q2; have HE := hid (show ((flushE s : Nat) : Int) = 0 from by rw [q3]; rfl)
      clear q2 q3
      go_wp2_with fail
      refine (d1_flush HD.out (HQ.out.plain.ok (by rw [HQ.out.len]; omega))).mono ?_
      rintro _ w3 ⟨rfl, hd⟩
      rw [HE.out]
      have HD2 := hid hd
      clear hd HD HQ HE
      generalize flushD s = s0 at HQ2 HD2
      go_wp2_with fail
      refine (full_calls 200 N (by omega) w3).mono ?_
      rintro _ w4 ⟨v, rfl, ho, hb⟩
      obtain ⟨wb, cw, rfl, hwb1, hwb2⟩ := World.ownsRow.form ho hN0
      have HR := hid (HD2.out.beside hb hwb1 hwb2)
      have HO := hid (ho.lower HD2.out.1.size)
      have HQ3 := hid (q3_start HQ2.out since keep)
      clear ho hb HD2 HQ2 hwb1 hwb2 w3
      go_wp2_with fail
      go_loopw [14, 15, 16] (fun l i _ wr => ∃ (k : Nat) (W : List UInt8) (last : Int) (s : DS), k ≤ n1 ∧ i = .int .i64 (k : Int) ∧ l = .int .i64 last ∧ -1 ≤ last ∧ last < (k : Int) ∧ Hid (Q3 N I since keep k W last s) ∧ Hid (DevR w wr g s wb) ∧ Hid (Own wr w.heap.size 5 (.slice (some ⟨wb, 0, none⟩) N cw) N W)) (fun _ i _ _ => n1 - (intOf i).toNat)
      case atStart => exact ⟨0, _, -1, _, Nat.zero_le _, rfl, rfl, by omega, by omega, HQ3, HR, HO⟩
      case round =>
        clear HR HO HQ3
        obtain ⟨k, W, last, s, hk, rfl, rfl, hl1, hl2, HQ, HR, HO⟩ := hrel
        by_cases hlt : k < n1
        · obtain ⟨b1, o1, z1, rfl, hz, hcell⟩ := (HSI.out.keep HR.out.1).at_ hlt
          obtain ⟨at_, hat⟩ : ∃ a : Nat, a = (z1 % (N : Int)).toNat := ⟨_, rfl⟩
          obtain ⟨q1, q2, q3⟩ := q3_next HQ.out hN0 hz at_ hat
          have HZ := hid hz
          have HAT := hid (show z1 % (N : Int) = (at_ : Int) from by
            have := Int.emod_nonneg z1 (show (N : Int) ≠ 0 by omega)
            omega)
          have HQ2 := hid q3; have HE := hid (show okB (writeE s at_ 64) = true from by rw [q2]; rfl)
          have HW := hid (cB_val ((k : Int) + 1) (by omega) (by omega))
          have HKE := hid (show cB ((k : Int) + 1).toNat = cB (k + 1) from by congr 1)
          rw [HKE.out] at HW
          clear hz hat q2 q3 HKE
          go_wp2_with fail
          refine (pick_calls z1 (N : Int) wr (by omega) (by omega)).mono ?_
          rintro _ _ ⟨rfl, rfl⟩
          rw [HAT.out]
          go_wp2_with fail
          rw [HW.out]
          refine (d2_puts (at_ : Int) (cB (k + 1)) HR.out (HQ.out.plain.ok (by rw [HQ.out.len]; omega))).mono ?_
          rintro _ w5 ⟨rfl, hd, hbl⟩
          rw [HE.out]
          have HR2 := hid hd; have HO2 := hid (HO.out.of_block hbl)
          have HKB2 := hid (HKB.out.keep hd.1)
          clear hd hbl HR HO HQ hcell HE
          have hal : at_ < W.length := by rw [HO2.out.len]; exact q1
          have hcw := World.ownsRow.cellAt HO2.out at_ (by omega)
          have hxw : (W.map bv)[at_]? = some (.int .u8 ((W[at_].toNat : Nat) : Int)) := by simp [hal, bv]
          rw [hxw] at hcw
          have hfw := World.ownsRow.frozenAt HO2.out at_
          generalize W[at_] = xw at hcw
          have hst := hid (World.ownsRow.stored HO2.out at_ (bv (cB (k + 1))))
          clear hxw
          by_cases hkn : k < n2
          · obtain ⟨b2, o2, rfl, hkc⟩ := HKB2.out.2 (by omega)
            have hkl : k < keep.length := by have := HKB.out.1; omega
            have hix := ix_bool b2 o2 n2 c2 k hkn
            by_cases hkk : keptAt keep k = true
            · have hct : w5.cell? ⟨b2, o2 + k, none⟩ = some (.bool true) := hkc k true (by
                unfold keptAt at hkk
                rw [List.getElem?_eq_getElem hkl] at hkk ⊢
                simpa using hkk)
              rw [if_pos hkk, if_pos hkk] at HQ2
              clear hkk hkc HKB2
              go_wp2_with fail
              rw [HW.out]
              go_roundw
              case rel =>
                refine ⟨k + 1, W.set at_ (cB (k + 1)), last, _, by omega, by go_num, rfl, by omega, by push_cast; omega, HQ2, HR2.out.setw at_ _, ?_⟩
                have := hst.out.1
                rw [← List.map_set] at this
                exact this
              case measure => simp [intOf]; omega
            · have hct : w5.cell? ⟨b2, o2 + k, none⟩ = some (.bool false) := hkc k false (by
                unfold keptAt at hkk
                rw [List.getElem?_eq_getElem hkl] at hkk ⊢
                simpa using hkk)
              rw [if_neg hkk, if_neg hkk] at HQ2
              clear hkk hkc HKB2 hst hcw hfw
              go_wp2_with fail
              go_roundw
              case rel => exact ⟨k + 1, W, _, _, by omega, by go_num, rfl, by omega, by push_cast; omega, HQ2, HR2, HO2⟩
              case measure => simp [intOf]; omega
          · have hkk : ¬ keptAt keep k = true := by unfold keptAt; rw [List.getElem?_eq_none (by have := HKB.out.1; omega)]; simp
            rw [if_neg hkk, if_neg hkk] at HQ2
            clear hkk HKB2 hst hcw hfw
            go_wp2_with fail
            go_roundw
            case rel => exact ⟨k + 1, W, _, _, by omega, by go_num, rfl, by omega, by push_cast; omega, HQ2, HR2, HO2⟩
            case measure => simp [intOf]; omega
        · obtain rfl : n1 = k := by omega
          clear hlt hk
          have HLN := hid (show ((s.loose.length : Nat) : Int) = (n1 : Int) from by rw [HQ.out.len])
          obtain ⟨c1', c2', c3', c4', c5'⟩ := q3_crash HQ.out u hu64
          have HCE := hid (show ((crashE (u : Int) : Nat) : Int) = 0 from by unfold crashE; rw [if_pos ⟨by omega, by omega⟩]; rfl)
          have HCL := hid (show (((crashD s keep u).loose.length : Nat) : Int) = 0 from by rw [c4']; rfl)
          have HCO := hid c3'.2
          have HCS := hid c5'
          have HKB2 := hid (HKB.out.keep HR.out.1)
          have HWL := hid HQ.out.wl
          have HF := hid (HQ.out.plain.ok (by rw [HQ.out.len]; omega))
          have HNE := hid (fun (hn : 0 < n2) b off (e : A2 = some ⟨b, off, none⟩) => HKB.out.lt hn b off e)
          clear c1' c2' c3' c4' c5' HQ
          go_wp2_with fail
          refine (d1_loose HR.out.one).mono ?_
          rintro _ _ ⟨rfl, rfl⟩
          rw [HLN.out]
          go_wp2_with fail
          refine (d2_crash n2 c2 A2 keep (u : Int) HR.out HF.out HKB2.out HNE.out (by omega)).mono ?_
          rintro _ w6 ⟨rfl, hd, hbl⟩
          rw [HCE.out]
          have HR2 := hid hd; have HO2 := hid (HO.out.of_block hbl)
          clear hd hbl HR HO HKB2 HNE HF HCE HLN
          generalize crashD s keep (u : Int) = s1 at HR2 HCL HCO HCS
          go_wp2_with fail
          refine (d1_loose HR2.out.one).mono ?_
          rintro _ _ ⟨rfl, rfl⟩
          rw [HCL.out]
          go_wp2_with fail
          refine (d1_out HR2.out.one).mono ?_
          rintro _ _ ⟨rfl, rfl⟩
          rw [HCO.out]
          have HD1 := hid HR2.out.one
          clear HR2 HCL HCO
          go_wp2_with fail
          go_loopw [17, 18] (fun i _ wr => ∃ k : Nat, k ≤ N ∧ i = .int .i64 (k : Int) ∧ Hid (Dev1 w wr g s1) ∧ Hid (Own wr w.heap.size 5 (.slice (some ⟨wb, 0, none⟩) N cw) N W)) (fun i _ _ => N - (intOf i).toNat)
          case atStart => exact ⟨0, Nat.zero_le _, rfl, HD1, HO2⟩
          case round =>
            clear HD1 HO2
            obtain ⟨k, hk, rfl, HD, HO⟩ := hrel
            by_cases hlt : k < N
            · have hal : k < W.length := by rw [HO.out.len]; exact hlt
              obtain ⟨b, hb⟩ : ∃ b, W[k]? = some b := ⟨W[k], List.getElem?_eq_getElem hal⟩
              obtain ⟨r1, r2, r3, r4⟩ := HCS.out k b hb
              have hcw := World.ownsRow.cellAt HO.out k (by omega)
              have hxw : (W.map bv)[k]? = some (.int .u8 ((b.toNat : Nat) : Int)) := by simp [hb, bv]
              rw [hxw] at hcw
              have HLB := hid (cB_val (last + 1) (by omega) (by omega))
              have HR1 := hid (show okB (readE s1 k) = true from by rw [r1]; rfl)
              have HR2 := hid (show okB (imageE s1 k) = true from by rw [r2]; rfl)
              have HR3 := hid r3; have HR4 := hid r4
              clear hxw hb r1 r2 r3 r4
              by_cases h0 : 0 ≤ last
              · obtain ⟨l, hl⟩ : ∃ l : Nat, last = (l : Int) := ⟨last.toNat, by omega⟩
                have hln : l < n1 := by omega
                obtain ⟨b3, o3, z2, rfl, hz, hcell⟩ := (HSI.out.keep HD.out.1).at_ hln
                obtain ⟨a2, ha2⟩ : ∃ a : Nat, a = (z2 % (N : Int)).toNat := ⟨_, rfl⟩
                have HAT := hid (show z2 % (N : Int) = (a2 : Int) from by
                  have := Int.emod_nonneg z2 (show (N : Int) ≠ 0 by omega)
                  omega)
                have HFR := hid (show frontN N since last u k = if a2 = k then u else 0 from by
                  unfold frontN
                  rw [hl, Int.toNat_natCast, hz]
                  simp only [← ha2]
                  by_cases e : a2 = k
                  · rw [if_pos ⟨by omega, e⟩, if_pos e]
                  · rw [if_neg (fun h => e h.2), if_neg e])
                rw [HFR.out] at HR3 HR4
                clear hz ha2 HFR
                have hl0 : (0 : Int) ≤ (l : Int) := by omega
                subst hl
                by_cases e : a2 = k
                · subst e
                  rw [if_pos rfl] at HR3 HR4
                  have HT1 := hid (show (okB (readE s1 a2) && (readB s1 a2 == twoB (cB ((l : Int) + 1).toNat) u b)) = true from by rw [HR1.out, HR3.out]; simp)
                  have HT2 := hid (show (okB (imageE s1 a2) && (imageB s1 a2 == twoB (cB ((l : Int) + 1).toNat) u b)) = true from by rw [HR2.out, HR4.out]; simp)
                  clear HR1 HR2 HR3 HR4
                  go_wp2_with fail
                  refine (pick_calls z2 (N : Int) _ (by omega) (by omega)).mono ?_
                  rintro _ _ ⟨rfl, rfl⟩
                  rw [HAT.out]
                  go_wp2_with fail
                  rw [HLB.out]
                  refine (d3_reads (a2 : Int) (cB ((l : Int) + 1).toNat) u b (by omega) HD.out).mono ?_
                  rintro _ w7 ⟨rfl, hd, hb⟩
                  rw [HT1.out]
                  have HD2 := hid hd; have HO2 := hid (HO.out.keep hb)
                  have hc2 := (hb.cell (p := ⟨wb, a2, none⟩) (lt_of_cell hcw)).trans hcw
                  clear hd hb HD HO
                  go_wp2_with fail
                  rw [HLB.out]
                  refine (d3_image (a2 : Int) (cB ((l : Int) + 1).toNat) u b (by omega) HD2.out).mono ?_
                  rintro _ w8 ⟨rfl, hd, hb⟩
                  rw [HT2.out]
                  have HD3 := hid hd; have HO3 := hid (HO2.out.keep hb)
                  clear hd hb HD2 HO2 hc2
                  go_wp2_with fail
                  go_roundw
                  case rel => exact ⟨a2 + 1, by omega, by go_num, HD3, HO3⟩
                  case measure => simp [intOf]; omega
                · rw [if_neg e] at HR3 HR4
                  have hq : ((a2 : Int) == (k : Int)) = false := by simp; omega
                  have HT1 := hid (show (okB (readE s1 k) && (readB s1 k == twoB (cB ((l : Int) + 1).toNat) 0 b)) = true from by rw [HR1.out, HR3.out]; simp)
                  have HT2 := hid (show (okB (imageE s1 k) && (imageB s1 k == twoB (cB ((l : Int) + 1).toNat) 0 b)) = true from by rw [HR2.out, HR4.out]; simp)
                  clear HR1 HR2 HR3 HR4
                  go_wp2_with fail
                  refine (pick_calls z2 (N : Int) _ (by omega) (by omega)).mono ?_
                  rintro _ _ ⟨rfl, rfl⟩
                  rw [HAT.out]
                  go_wp2_with fail
                  rw [HLB.out]
                  refine (d3_reads (k : Int) (cB ((l : Int) + 1).toNat) 0 b (by omega) HD.out).mono ?_
                  rintro _ w7 ⟨rfl, hd, hb⟩
                  rw [HT1.out]
                  have HD2 := hid hd; have HO2 := hid (HO.out.keep hb)
                  have hc2 := (hb.cell (p := ⟨wb, k, none⟩) (lt_of_cell hcw)).trans hcw
                  clear hd hb HD HO
                  go_wp2_with fail
                  rw [HLB.out]
                  refine (d3_image (k : Int) (cB ((l : Int) + 1).toNat) 0 b (by omega) HD2.out).mono ?_
                  rintro _ w8 ⟨rfl, hd, hb⟩
                  rw [HT2.out]
                  have HD3 := hid hd; have HO3 := hid (HO2.out.keep hb)
                  clear hd hb HD2 HO2 hc2
                  go_wp2_with fail
                  go_roundw
                  case rel => exact ⟨k + 1, by omega, by go_num, HD3, HO3⟩
                  case measure => simp [intOf]; omega
              · have HFR := hid (show frontN N since last u k = 0 from by
                  unfold frontN
                  split
                  · rw [if_neg (fun h => h0 h.1)]
                  · rfl)
                rw [HFR.out] at HR3 HR4
                have HT1 := hid (show (okB (readE s1 k) && (readB s1 k == twoB (cB (last + 1).toNat) 0 b)) = true from by rw [HR1.out, HR3.out]; simp)
                have HT2 := hid (show (okB (imageE s1 k) && (imageB s1 k == twoB (cB (last + 1).toNat) 0 b)) = true from by rw [HR2.out, HR4.out]; simp)
                clear HR1 HR2 HR3 HR4 HFR
                go_wp2_with fail
                rw [HLB.out]
                refine (d3_reads (k : Int) (cB (last + 1).toNat) 0 b (by omega) HD.out).mono ?_
                rintro _ w7 ⟨rfl, hd, hb⟩
                rw [HT1.out]
                have HD2 := hid hd; have HO2 := hid (HO.out.keep hb)
                have hc2 := (hb.cell (p := ⟨wb, k, none⟩) (lt_of_cell hcw)).trans hcw
                clear hd hb HD HO
                go_wp2_with fail
                rw [HLB.out]
                refine (d3_image (k : Int) (cB (last + 1).toNat) 0 b (by omega) HD2.out).mono ?_
                rintro _ w8 ⟨rfl, hd, hb⟩
                rw [HT2.out]
                have HD3 := hid hd; have HO3 := hid (HO2.out.keep hb)
                clear hd hb HD2 HO2 hc2
                go_wp2_with fail
                go_roundw
                case rel => exact ⟨k + 1, by omega, by go_num, HD3, HO3⟩
                case measure => simp [intOf]; omega
            · obtain rfl : N = k := by omega
              have HB := hid HD.out.1
              clear hlt hk HD HO
              go_wp2_with fail
              go_ret
              exact ⟨rfl, HB.out⟩
end Go.Proofs.Ytjenafbkalokoaa
