/- The law VectorLattice, walked. Written by tools/mkvl.py. -/
import Derived.Deep.DeepCutAuto
import Derived.Deep.CutBlock
import Derived.Test.YtfcildpigkobcaaVcLaw
namespace Go.Proofs.Ytfcildpigkobcaa
open Go Go.RowKit Go.Shelf

set_option maxRecDepth 20000 in
set_option maxHeartbeats 4000000 in
theorem lattice_calls (n0 c0 n1 c1 n2 c2 : Nat) (A0 A1 A2 : Option Addr) (u v z : List Int) (W0 : World) (h0 : NI W0 A0 n0 u) (h1 : NI W0 A1 n1 v) (h2 : NI W0 A2 n2 z) :
    Calls Try.prog 6 #[.slice A0 n0 c0, .slice A1 n1 c1, .slice A2 n2 c2] W0 fun e w' => e = .returned (.bool true) ∧ Below W0.heap.size W0 w' := by
  have HB := hid (Below.refl W0.heap.size W0)
  have HU := hid h0; have HV := hid h1; have HZ := hid h2
  clear h0 h1 h2
  go_enter Try.func6, Try.ntmps6
  have hc := known_calls W0
  have HC := hid hc
  clear hc
  go_wp2_with fail
  refine HC.out.mono ?_
  rintro e W1 ⟨rfl, hb⟩
  clear HC
  replace HU := hid (HU.out.keep hb)
  replace HV := hid (HV.out.keep hb)
  replace HZ := hid (HZ.out.keep hb)
  replace HB := hid (HB.out.trans (hb.mono HB.out.size))
  clear hb
  by_cases hl0 : n0 ≤ 20
  rotate_left
  · have hl0' : ¬ (n0 : Int) ≤ 20 := by omega
    go_wp2_with fail
    go_ret
    exact ⟨rfl, HB.out⟩
  have hl0' : (n0 : Int) ≤ 20 := by omega
  by_cases hl1 : n1 ≤ 20
  rotate_left
  · have hl1' : ¬ (n1 : Int) ≤ 20 := by omega
    go_wp2_with fail
    go_ret
    exact ⟨rfl, HB.out⟩
  have hl1' : (n1 : Int) ≤ 20 := by omega
  by_cases hl2 : n2 ≤ 20
  rotate_left
  · have hl2' : ¬ (n2 : Int) ≤ 20 := by omega
    go_wp2_with fail
    go_ret
    exact ⟨rfl, HB.out⟩
  have hl2' : (n2 : Int) ≤ 20 := by omega
  have hc := join_calls n0 c0 n1 c1 A0 A1 u v W1 HU.out HV.out (by omega) (by omega)
  have HC := hid hc
  clear hc
  go_wp2_with fail
  refine HC.out.mono ?_
  rintro e W2 ⟨vv1, rfl, ho, hb⟩
  clear HC
  replace HU := hid (HU.out.keep hb)
  replace HV := hid (HV.out.keep hb)
  replace HZ := hid (HZ.out.keep hb)
  replace HB := hid (HB.out.trans (hb.mono HB.out.size))
  clear hb
  obtain ⟨nn1, hnn⟩ : ∃ n, max n0 n1 = n := ⟨_, rfl⟩
  rw [hnn] at ho
  have hnb1 : nn1 ≤ 1000000 := by omega
  clear hnn
  obtain ⟨AA1, cc1, rfl, _, hf, _⟩ := ho.ni
  have F1 : Hid (NI W2 AA1 nn1 (joinV u v)) := hf
  clear ho hf
  have hc := meet_calls n0 c0 n1 c1 A0 A1 u v W2 HU.out HV.out (by omega) (by omega)
  have HC := hid hc
  clear hc
  go_wp2_with fail
  refine HC.out.mono ?_
  rintro e W3 ⟨vv2, rfl, ho, hb⟩
  clear HC
  replace HU := hid (HU.out.keep hb)
  replace HV := hid (HV.out.keep hb)
  replace HZ := hid (HZ.out.keep hb)
  replace F1 := hid (F1.out.keep hb)
  replace HB := hid (HB.out.trans (hb.mono HB.out.size))
  clear hb
  obtain ⟨nn2, hnn⟩ : ∃ n, max n0 n1 = n := ⟨_, rfl⟩
  rw [hnn] at ho
  have hnb2 : nn2 ≤ 1000000 := by omega
  clear hnn
  obtain ⟨AA2, cc2, rfl, _, hf, _⟩ := ho.ni
  have F2 : Hid (NI W3 AA2 nn2 (meetV u v)) := hf
  clear ho hf
  have hc := leq_calls n0 c0 nn1 cc1 A0 AA1 u (joinV u v) W3 HU.out F1.out (by omega) (by omega)
  rw [show leqV u (joinV u v) = true from leq_join1 u v] at hc
  have HC := hid hc
  clear hc
  go_wp2_with fail
  refine HC.out.mono ?_
  rintro e W4 ⟨rfl, hb⟩
  clear HC
  replace HU := hid (HU.out.keep hb)
  replace HV := hid (HV.out.keep hb)
  replace HZ := hid (HZ.out.keep hb)
  replace F1 := hid (F1.out.keep hb)
  replace F2 := hid (F2.out.keep hb)
  replace HB := hid (HB.out.trans (hb.mono HB.out.size))
  clear hb
  have hc := leq_calls n1 c1 nn1 cc1 A1 AA1 v (joinV u v) W4 HV.out F1.out (by omega) (by omega)
  rw [show leqV v (joinV u v) = true from leq_join2 u v] at hc
  have HC := hid hc
  clear hc
  go_wp2_with fail
  refine HC.out.mono ?_
  rintro e W5 ⟨rfl, hb⟩
  clear HC
  replace HU := hid (HU.out.keep hb)
  replace HV := hid (HV.out.keep hb)
  replace HZ := hid (HZ.out.keep hb)
  replace F1 := hid (F1.out.keep hb)
  replace F2 := hid (F2.out.keep hb)
  replace HB := hid (HB.out.trans (hb.mono HB.out.size))
  clear hb
  have hc := leq_calls nn2 cc2 n0 c0 AA2 A0 (meetV u v) u W5 F2.out HU.out (by omega) (by omega)
  rw [show leqV (meetV u v) u = true from leq_meet1 u v] at hc
  have HC := hid hc
  clear hc
  go_wp2_with fail
  refine HC.out.mono ?_
  rintro e W6 ⟨rfl, hb⟩
  clear HC
  replace HU := hid (HU.out.keep hb)
  replace HV := hid (HV.out.keep hb)
  replace HZ := hid (HZ.out.keep hb)
  replace F1 := hid (F1.out.keep hb)
  replace F2 := hid (F2.out.keep hb)
  replace HB := hid (HB.out.trans (hb.mono HB.out.size))
  clear hb
  have hc := leq_calls nn2 cc2 n1 c1 AA2 A1 (meetV u v) v W6 F2.out HV.out (by omega) (by omega)
  rw [show leqV (meetV u v) v = true from leq_meet2 u v] at hc
  have HC := hid hc
  clear hc
  go_wp2_with fail
  refine HC.out.mono ?_
  rintro e W7 ⟨rfl, hb⟩
  clear HC
  replace HU := hid (HU.out.keep hb)
  replace HV := hid (HV.out.keep hb)
  replace HZ := hid (HZ.out.keep hb)
  replace F1 := hid (F1.out.keep hb)
  replace F2 := hid (F2.out.keep hb)
  replace HB := hid (HB.out.trans (hb.mono HB.out.size))
  clear hb
  have hc := leq_calls n0 c0 n0 c0 A0 A0 u u W7 HU.out HU.out (by omega) (by omega)
  rw [show leqV u u = true from leq_refl u] at hc
  have HC := hid hc
  clear hc
  go_wp2_with fail
  refine HC.out.mono ?_
  rintro e W8 ⟨rfl, hb⟩
  clear HC
  replace HU := hid (HU.out.keep hb)
  replace HV := hid (HV.out.keep hb)
  replace HZ := hid (HZ.out.keep hb)
  replace F1 := hid (F1.out.keep hb)
  replace F2 := hid (F2.out.keep hb)
  replace HB := hid (HB.out.trans (hb.mono HB.out.size))
  clear hb
  go_upto_region 7 with fail
  go_cut [84] from 59 to 84 (fun x wr => x = .bool false ∧ Hid (NI wr A0 n0 u) ∧ Hid (NI wr A1 n1 v) ∧ Hid (NI wr A2 n2 z) ∧ Hid (NI wr AA1 nn1 (joinV u v)) ∧ Hid (NI wr AA2 nn2 (meetV u v)) ∧ Hid (Below W0.heap.size W0 wr))
  case first =>
    cases hE : leqV u z with
    | false =>
      have hc := leq_calls n0 c0 n2 c2 A0 A2 u z W8 HU.out HZ.out (by omega) (by omega)
      rw [show leqV u z = false from hE] at hc
      have HC := hid hc
      clear hc
      go_wp2_with fail
      refine HC.out.mono ?_
      rintro e W9 ⟨rfl, hb⟩
      clear HC
      replace HU := hid (HU.out.keep hb)
      replace HV := hid (HV.out.keep hb)
      replace HZ := hid (HZ.out.keep hb)
      replace F1 := hid (F1.out.keep hb)
      replace F2 := hid (F2.out.keep hb)
      replace HB := hid (HB.out.trans (hb.mono HB.out.size))
      clear hb
      cases hC : leqV z u with
      | false =>
        have hc := leq_calls n2 c2 n0 c0 A2 A0 z u W9 HZ.out HU.out (by omega) (by omega)
        rw [show leqV z u = false from hC] at hc
        have HC := hid hc
        clear hc
        go_wp2_with fail
        refine HC.out.mono ?_
        rintro e W10 ⟨rfl, hb⟩
        clear HC
        replace HU := hid (HU.out.keep hb)
        replace HV := hid (HV.out.keep hb)
        replace HZ := hid (HZ.out.keep hb)
        replace F1 := hid (F1.out.keep hb)
        replace F2 := hid (F2.out.keep hb)
        replace HB := hid (HB.out.trans (hb.mono HB.out.size))
        clear hb
        go_wp2_with fail
        go_meet
        case rel => exact ⟨rfl, HU, HV, HZ, F1, F2, HB⟩
      | true =>
        have hc := leq_calls n2 c2 n0 c0 A2 A0 z u W9 HZ.out HU.out (by omega) (by omega)
        rw [show leqV z u = true from hC] at hc
        have HC := hid hc
        clear hc
        go_wp2_with fail
        refine HC.out.mono ?_
        rintro e W10 ⟨rfl, hb⟩
        clear HC
        replace HU := hid (HU.out.keep hb)
        replace HV := hid (HV.out.keep hb)
        replace HZ := hid (HZ.out.keep hb)
        replace F1 := hid (F1.out.keep hb)
        replace F2 := hid (F2.out.keep hb)
        replace HB := hid (HB.out.trans (hb.mono HB.out.size))
        clear hb
        have hc := leq_calls n2 c2 n1 c1 A2 A1 z v W10 HZ.out HV.out (by omega) (by omega)
        have HC := hid hc
        clear hc
        go_wp2_with fail
        refine HC.out.mono ?_
        rintro e W11 ⟨rfl, hb⟩
        clear HC
        replace HU := hid (HU.out.keep hb)
        replace HV := hid (HV.out.keep hb)
        replace HZ := hid (HZ.out.keep hb)
        replace F1 := hid (F1.out.keep hb)
        replace F2 := hid (F2.out.keep hb)
        replace HB := hid (HB.out.trans (hb.mono HB.out.size))
        clear hb
        have hc := leq_calls n2 c2 nn2 cc2 A2 AA2 z (meetV u v) W11 HZ.out F2.out (by omega) (by omega)
        rw [show leqV z (meetV u v) = leqV z v from meet_glb hC] at hc
        have HC := hid hc
        clear hc
        go_wp2_with fail
        refine HC.out.mono ?_
        rintro e W12 ⟨rfl, hb⟩
        clear HC
        replace HU := hid (HU.out.keep hb)
        replace HV := hid (HV.out.keep hb)
        replace HZ := hid (HZ.out.keep hb)
        replace F1 := hid (F1.out.keep hb)
        replace F2 := hid (F2.out.keep hb)
        replace HB := hid (HB.out.trans (hb.mono HB.out.size))
        clear hb
        go_wp2_with fail
        go_meet
        case rel => exact ⟨rfl, HU, HV, HZ, F1, F2, HB⟩
    | true =>
      have hc := leq_calls n0 c0 n2 c2 A0 A2 u z W8 HU.out HZ.out (by omega) (by omega)
      rw [show leqV u z = true from hE] at hc
      have HC := hid hc
      clear hc
      go_wp2_with fail
      refine HC.out.mono ?_
      rintro e W9 ⟨rfl, hb⟩
      clear HC
      replace HU := hid (HU.out.keep hb)
      replace HV := hid (HV.out.keep hb)
      replace HZ := hid (HZ.out.keep hb)
      replace F1 := hid (F1.out.keep hb)
      replace F2 := hid (F2.out.keep hb)
      replace HB := hid (HB.out.trans (hb.mono HB.out.size))
      clear hb
      have hc := leq_calls n1 c1 n2 c2 A1 A2 v z W9 HV.out HZ.out (by omega) (by omega)
      have HC := hid hc
      clear hc
      go_wp2_with fail
      refine HC.out.mono ?_
      rintro e W10 ⟨rfl, hb⟩
      clear HC
      replace HU := hid (HU.out.keep hb)
      replace HV := hid (HV.out.keep hb)
      replace HZ := hid (HZ.out.keep hb)
      replace F1 := hid (F1.out.keep hb)
      replace F2 := hid (F2.out.keep hb)
      replace HB := hid (HB.out.trans (hb.mono HB.out.size))
      clear hb
      have hc := leq_calls nn1 cc1 n2 c2 AA1 A2 (joinV u v) z W10 F1.out HZ.out (by omega) (by omega)
      rw [show leqV (joinV u v) z = leqV v z from join_lub hE] at hc
      have HC := hid hc
      clear hc
      go_wp2_with fail
      refine HC.out.mono ?_
      rintro e W11 ⟨rfl, hb⟩
      clear HC
      replace HU := hid (HU.out.keep hb)
      replace HV := hid (HV.out.keep hb)
      replace HZ := hid (HZ.out.keep hb)
      replace F1 := hid (F1.out.keep hb)
      replace F2 := hid (F2.out.keep hb)
      replace HB := hid (HB.out.trans (hb.mono HB.out.size))
      clear hb
      cases hC : leqV z u with
      | false =>
        have hc := leq_calls n2 c2 n0 c0 A2 A0 z u W11 HZ.out HU.out (by omega) (by omega)
        rw [show leqV z u = false from hC] at hc
        have HC := hid hc
        clear hc
        go_wp2_with fail
        refine HC.out.mono ?_
        rintro e W12 ⟨rfl, hb⟩
        clear HC
        replace HU := hid (HU.out.keep hb)
        replace HV := hid (HV.out.keep hb)
        replace HZ := hid (HZ.out.keep hb)
        replace F1 := hid (F1.out.keep hb)
        replace F2 := hid (F2.out.keep hb)
        replace HB := hid (HB.out.trans (hb.mono HB.out.size))
        clear hb
        go_wp2_with fail
        go_meet
        case rel => exact ⟨rfl, HU, HV, HZ, F1, F2, HB⟩
      | true =>
        have hc := leq_calls n2 c2 n0 c0 A2 A0 z u W11 HZ.out HU.out (by omega) (by omega)
        rw [show leqV z u = true from hC] at hc
        have HC := hid hc
        clear hc
        go_wp2_with fail
        refine HC.out.mono ?_
        rintro e W12 ⟨rfl, hb⟩
        clear HC
        replace HU := hid (HU.out.keep hb)
        replace HV := hid (HV.out.keep hb)
        replace HZ := hid (HZ.out.keep hb)
        replace F1 := hid (F1.out.keep hb)
        replace F2 := hid (F2.out.keep hb)
        replace HB := hid (HB.out.trans (hb.mono HB.out.size))
        clear hb
        have hc := leq_calls n2 c2 n1 c1 A2 A1 z v W12 HZ.out HV.out (by omega) (by omega)
        have HC := hid hc
        clear hc
        go_wp2_with fail
        refine HC.out.mono ?_
        rintro e W13 ⟨rfl, hb⟩
        clear HC
        replace HU := hid (HU.out.keep hb)
        replace HV := hid (HV.out.keep hb)
        replace HZ := hid (HZ.out.keep hb)
        replace F1 := hid (F1.out.keep hb)
        replace F2 := hid (F2.out.keep hb)
        replace HB := hid (HB.out.trans (hb.mono HB.out.size))
        clear hb
        have hc := leq_calls n2 c2 nn2 cc2 A2 AA2 z (meetV u v) W13 HZ.out F2.out (by omega) (by omega)
        rw [show leqV z (meetV u v) = leqV z v from meet_glb hC] at hc
        have HC := hid hc
        clear hc
        go_wp2_with fail
        refine HC.out.mono ?_
        rintro e W14 ⟨rfl, hb⟩
        clear HC
        replace HU := hid (HU.out.keep hb)
        replace HV := hid (HV.out.keep hb)
        replace HZ := hid (HZ.out.keep hb)
        replace F1 := hid (F1.out.keep hb)
        replace F2 := hid (F2.out.keep hb)
        replace HB := hid (HB.out.trans (hb.mono HB.out.size))
        clear hb
        go_wp2_with fail
        go_meet
        case rel => exact ⟨rfl, HU, HV, HZ, F1, F2, HB⟩
  clear HU HV HZ F1 F2 HB
  obtain ⟨rfl, HU, HV, HZ, F1, F2, HB⟩ := hcut
  obtain ⟨W28, rfl⟩ : ∃ W, W = wc := ⟨_, rfl⟩
  go_upto_region 9 with fail
  go_cut [112] from 85 to 112 (fun x wr => x = .bool false ∧ Hid (NI wr A0 n0 u) ∧ Hid (NI wr A1 n1 v) ∧ Hid (NI wr A2 n2 z) ∧ Hid (NI wr AA1 nn1 (joinV u v)) ∧ Hid (NI wr AA2 nn2 (meetV u v)) ∧ Hid (Below W0.heap.size W0 wr))
  case first =>
    cases hA : leqV u v with
    | false =>
      have hc := leq_calls n0 c0 n1 c1 A0 A1 u v W28 HU.out HV.out (by omega) (by omega)
      rw [show leqV u v = false from hA] at hc
      have HC := hid hc
      clear hc
      go_wp2_with fail
      refine HC.out.mono ?_
      rintro e W29 ⟨rfl, hb⟩
      clear HC
      replace HU := hid (HU.out.keep hb)
      replace HV := hid (HV.out.keep hb)
      replace HZ := hid (HZ.out.keep hb)
      replace F1 := hid (F1.out.keep hb)
      replace F2 := hid (F2.out.keep hb)
      replace HB := hid (HB.out.trans (hb.mono HB.out.size))
      clear hb
      have hc := same_calls n0 c0 n1 c1 A0 A1 u v W29 HU.out HV.out (by omega) (by omega)
      rw [show (leqV u v && leqV v u) = false from by rw [hA]; rfl] at hc
      have HC := hid hc
      clear hc
      go_wp2_with fail
      refine HC.out.mono ?_
      rintro e W30 ⟨rfl, hb⟩
      clear HC
      replace HU := hid (HU.out.keep hb)
      replace HV := hid (HV.out.keep hb)
      replace HZ := hid (HZ.out.keep hb)
      replace F1 := hid (F1.out.keep hb)
      replace F2 := hid (F2.out.keep hb)
      replace HB := hid (HB.out.trans (hb.mono HB.out.size))
      clear hb
      have hc := leq_calls n0 c0 n1 c1 A0 A1 u v W30 HU.out HV.out (by omega) (by omega)
      rw [show leqV u v = false from hA] at hc
      have HC := hid hc
      clear hc
      go_wp2_with fail
      refine HC.out.mono ?_
      rintro e W31 ⟨rfl, hb⟩
      clear HC
      replace HU := hid (HU.out.keep hb)
      replace HV := hid (HV.out.keep hb)
      replace HZ := hid (HZ.out.keep hb)
      replace F1 := hid (F1.out.keep hb)
      replace F2 := hid (F2.out.keep hb)
      replace HB := hid (HB.out.trans (hb.mono HB.out.size))
      clear hb
      go_wp2_with fail
      go_meet
      case rel => exact ⟨rfl, HU, HV, HZ, F1, F2, HB⟩
    | true =>
      have hc := leq_calls n0 c0 n1 c1 A0 A1 u v W28 HU.out HV.out (by omega) (by omega)
      rw [show leqV u v = true from hA] at hc
      have HC := hid hc
      clear hc
      go_wp2_with fail
      refine HC.out.mono ?_
      rintro e W29 ⟨rfl, hb⟩
      clear HC
      replace HU := hid (HU.out.keep hb)
      replace HV := hid (HV.out.keep hb)
      replace HZ := hid (HZ.out.keep hb)
      replace F1 := hid (F1.out.keep hb)
      replace F2 := hid (F2.out.keep hb)
      replace HB := hid (HB.out.trans (hb.mono HB.out.size))
      clear hb
      cases hD : leqV v z with
      | false =>
        have hc := leq_calls n1 c1 n2 c2 A1 A2 v z W29 HV.out HZ.out (by omega) (by omega)
        rw [show leqV v z = false from hD] at hc
        have HC := hid hc
        clear hc
        go_wp2_with fail
        refine HC.out.mono ?_
        rintro e W30 ⟨rfl, hb⟩
        clear HC
        replace HU := hid (HU.out.keep hb)
        replace HV := hid (HV.out.keep hb)
        replace HZ := hid (HZ.out.keep hb)
        replace F1 := hid (F1.out.keep hb)
        replace F2 := hid (F2.out.keep hb)
        replace HB := hid (HB.out.trans (hb.mono HB.out.size))
        clear hb
        have hc := same_calls n0 c0 n1 c1 A0 A1 u v W30 HU.out HV.out (by omega) (by omega)
        rw [show (leqV u v && leqV v u) = leqV v u from by rw [hA]; rfl] at hc
        have HC := hid hc
        clear hc
        go_wp2_with fail
        refine HC.out.mono ?_
        rintro e W31 ⟨rfl, hb⟩
        clear HC
        replace HU := hid (HU.out.keep hb)
        replace HV := hid (HV.out.keep hb)
        replace HZ := hid (HZ.out.keep hb)
        replace F1 := hid (F1.out.keep hb)
        replace F2 := hid (F2.out.keep hb)
        replace HB := hid (HB.out.trans (hb.mono HB.out.size))
        clear hb
        have hc := leq_calls n0 c0 n1 c1 A0 A1 u v W31 HU.out HV.out (by omega) (by omega)
        rw [show leqV u v = true from hA] at hc
        have HC := hid hc
        clear hc
        go_wp2_with fail
        refine HC.out.mono ?_
        rintro e W32 ⟨rfl, hb⟩
        clear HC
        replace HU := hid (HU.out.keep hb)
        replace HV := hid (HV.out.keep hb)
        replace HZ := hid (HZ.out.keep hb)
        replace F1 := hid (F1.out.keep hb)
        replace F2 := hid (F2.out.keep hb)
        replace HB := hid (HB.out.trans (hb.mono HB.out.size))
        clear hb
        have hc := leq_calls n1 c1 n0 c0 A1 A0 v u W32 HV.out HU.out (by omega) (by omega)
        have HC := hid hc
        clear hc
        go_wp2_with fail
        refine HC.out.mono ?_
        rintro e W33 ⟨rfl, hb⟩
        clear HC
        replace HU := hid (HU.out.keep hb)
        replace HV := hid (HV.out.keep hb)
        replace HZ := hid (HZ.out.keep hb)
        replace F1 := hid (F1.out.keep hb)
        replace F2 := hid (F2.out.keep hb)
        replace HB := hid (HB.out.trans (hb.mono HB.out.size))
        clear hb
        go_wp2_with fail
        go_meet
        case rel => exact ⟨rfl, HU, HV, HZ, F1, F2, HB⟩
      | true =>
        have hc := leq_calls n1 c1 n2 c2 A1 A2 v z W29 HV.out HZ.out (by omega) (by omega)
        rw [show leqV v z = true from hD] at hc
        have HC := hid hc
        clear hc
        go_wp2_with fail
        refine HC.out.mono ?_
        rintro e W30 ⟨rfl, hb⟩
        clear HC
        replace HU := hid (HU.out.keep hb)
        replace HV := hid (HV.out.keep hb)
        replace HZ := hid (HZ.out.keep hb)
        replace F1 := hid (F1.out.keep hb)
        replace F2 := hid (F2.out.keep hb)
        replace HB := hid (HB.out.trans (hb.mono HB.out.size))
        clear hb
        have hc := leq_calls n0 c0 n2 c2 A0 A2 u z W30 HU.out HZ.out (by omega) (by omega)
        rw [show leqV u z = true from leq_trans hA hD] at hc
        have HC := hid hc
        clear hc
        go_wp2_with fail
        refine HC.out.mono ?_
        rintro e W31 ⟨rfl, hb⟩
        clear HC
        replace HU := hid (HU.out.keep hb)
        replace HV := hid (HV.out.keep hb)
        replace HZ := hid (HZ.out.keep hb)
        replace F1 := hid (F1.out.keep hb)
        replace F2 := hid (F2.out.keep hb)
        replace HB := hid (HB.out.trans (hb.mono HB.out.size))
        clear hb
        have hc := same_calls n0 c0 n1 c1 A0 A1 u v W31 HU.out HV.out (by omega) (by omega)
        rw [show (leqV u v && leqV v u) = leqV v u from by rw [hA]; rfl] at hc
        have HC := hid hc
        clear hc
        go_wp2_with fail
        refine HC.out.mono ?_
        rintro e W32 ⟨rfl, hb⟩
        clear HC
        replace HU := hid (HU.out.keep hb)
        replace HV := hid (HV.out.keep hb)
        replace HZ := hid (HZ.out.keep hb)
        replace F1 := hid (F1.out.keep hb)
        replace F2 := hid (F2.out.keep hb)
        replace HB := hid (HB.out.trans (hb.mono HB.out.size))
        clear hb
        have hc := leq_calls n0 c0 n1 c1 A0 A1 u v W32 HU.out HV.out (by omega) (by omega)
        rw [show leqV u v = true from hA] at hc
        have HC := hid hc
        clear hc
        go_wp2_with fail
        refine HC.out.mono ?_
        rintro e W33 ⟨rfl, hb⟩
        clear HC
        replace HU := hid (HU.out.keep hb)
        replace HV := hid (HV.out.keep hb)
        replace HZ := hid (HZ.out.keep hb)
        replace F1 := hid (F1.out.keep hb)
        replace F2 := hid (F2.out.keep hb)
        replace HB := hid (HB.out.trans (hb.mono HB.out.size))
        clear hb
        have hc := leq_calls n1 c1 n0 c0 A1 A0 v u W33 HV.out HU.out (by omega) (by omega)
        have HC := hid hc
        clear hc
        go_wp2_with fail
        refine HC.out.mono ?_
        rintro e W34 ⟨rfl, hb⟩
        clear HC
        replace HU := hid (HU.out.keep hb)
        replace HV := hid (HV.out.keep hb)
        replace HZ := hid (HZ.out.keep hb)
        replace F1 := hid (F1.out.keep hb)
        replace F2 := hid (F2.out.keep hb)
        replace HB := hid (HB.out.trans (hb.mono HB.out.size))
        clear hb
        go_wp2_with fail
        go_meet
        case rel => exact ⟨rfl, HU, HV, HZ, F1, F2, HB⟩
  clear HU HV HZ F1 F2 HB
  obtain ⟨rfl, HU, HV, HZ, F1, F2, HB⟩ := hcut
  obtain ⟨W48, rfl⟩ : ∃ W, W = wc := ⟨_, rfl⟩
  have hc := join_calls n1 c1 n0 c0 A1 A0 v u W48 HV.out HU.out (by omega) (by omega)
  have HC := hid hc
  clear hc
  go_wp2_with fail
  refine HC.out.mono ?_
  rintro e W49 ⟨vv3, rfl, ho, hb⟩
  clear HC
  replace HU := hid (HU.out.keep hb)
  replace HV := hid (HV.out.keep hb)
  replace HZ := hid (HZ.out.keep hb)
  replace F1 := hid (F1.out.keep hb)
  replace F2 := hid (F2.out.keep hb)
  replace HB := hid (HB.out.trans (hb.mono HB.out.size))
  clear hb
  obtain ⟨nn3, hnn⟩ : ∃ n, max n1 n0 = n := ⟨_, rfl⟩
  rw [hnn] at ho
  have hnb3 : nn3 ≤ 1000000 := by omega
  clear hnn
  obtain ⟨AA3, cc3, rfl, _, hf, _⟩ := ho.ni
  have F3 : Hid (NI W49 AA3 nn3 (joinV v u)) := hf
  clear ho hf
  have hc := sameI_calls nn1 cc1 nn3 cc3 AA1 AA3 (joinV u v) (joinV v u) W49 F1.out F3.out (by omega) (by omega)
  rw [show ((joinV u v) == (joinV v u)) = true from by rw [join_comm]; exact beq_self_eq_true _] at hc
  have HC := hid hc
  clear hc
  go_wp2_with fail
  refine HC.out.mono ?_
  rintro e W50 ⟨rfl, hb⟩
  clear HC
  replace HU := hid (HU.out.keep hb)
  replace HV := hid (HV.out.keep hb)
  replace HZ := hid (HZ.out.keep hb)
  replace F1 := hid (F1.out.keep hb)
  replace F2 := hid (F2.out.keep hb)
  replace F3 := hid (F3.out.keep hb)
  replace HB := hid (HB.out.trans (hb.mono HB.out.size))
  clear hb
  have hc := meet_calls n1 c1 n0 c0 A1 A0 v u W50 HV.out HU.out (by omega) (by omega)
  have HC := hid hc
  clear hc
  go_wp2_with fail
  refine HC.out.mono ?_
  rintro e W51 ⟨vv4, rfl, ho, hb⟩
  clear HC
  replace HU := hid (HU.out.keep hb)
  replace HV := hid (HV.out.keep hb)
  replace HZ := hid (HZ.out.keep hb)
  replace F1 := hid (F1.out.keep hb)
  replace F2 := hid (F2.out.keep hb)
  replace F3 := hid (F3.out.keep hb)
  replace HB := hid (HB.out.trans (hb.mono HB.out.size))
  clear hb
  obtain ⟨nn4, hnn⟩ : ∃ n, max n1 n0 = n := ⟨_, rfl⟩
  rw [hnn] at ho
  have hnb4 : nn4 ≤ 1000000 := by omega
  clear hnn
  obtain ⟨AA4, cc4, rfl, _, hf, _⟩ := ho.ni
  have F4 : Hid (NI W51 AA4 nn4 (meetV v u)) := hf
  clear ho hf
  have hc := sameI_calls nn2 cc2 nn4 cc4 AA2 AA4 (meetV u v) (meetV v u) W51 F2.out F4.out (by omega) (by omega)
  rw [show ((meetV u v) == (meetV v u)) = true from by rw [meet_comm]; exact beq_self_eq_true _] at hc
  have HC := hid hc
  clear hc
  go_wp2_with fail
  refine HC.out.mono ?_
  rintro e W52 ⟨rfl, hb⟩
  clear HC
  replace HU := hid (HU.out.keep hb)
  replace HV := hid (HV.out.keep hb)
  replace HZ := hid (HZ.out.keep hb)
  replace F1 := hid (F1.out.keep hb)
  replace F2 := hid (F2.out.keep hb)
  replace F3 := hid (F3.out.keep hb)
  replace F4 := hid (F4.out.keep hb)
  replace HB := hid (HB.out.trans (hb.mono HB.out.size))
  clear hb
  have hc := join_calls nn1 cc1 n2 c2 AA1 A2 (joinV u v) z W52 F1.out HZ.out (by omega) (by omega)
  have HC := hid hc
  clear hc
  go_wp2_with fail
  refine HC.out.mono ?_
  rintro e W53 ⟨vv5, rfl, ho, hb⟩
  clear HC
  replace HU := hid (HU.out.keep hb)
  replace HV := hid (HV.out.keep hb)
  replace HZ := hid (HZ.out.keep hb)
  replace F1 := hid (F1.out.keep hb)
  replace F2 := hid (F2.out.keep hb)
  replace F3 := hid (F3.out.keep hb)
  replace F4 := hid (F4.out.keep hb)
  replace HB := hid (HB.out.trans (hb.mono HB.out.size))
  clear hb
  obtain ⟨nn5, hnn⟩ : ∃ n, max nn1 n2 = n := ⟨_, rfl⟩
  rw [hnn] at ho
  have hnb5 : nn5 ≤ 1000000 := by omega
  clear hnn
  obtain ⟨AA5, cc5, rfl, _, hf, _⟩ := ho.ni
  have F5 : Hid (NI W53 AA5 nn5 (joinV (joinV u v) z)) := hf
  clear ho hf
  have hc := join_calls n1 c1 n2 c2 A1 A2 v z W53 HV.out HZ.out (by omega) (by omega)
  have HC := hid hc
  clear hc
  go_wp2_with fail
  refine HC.out.mono ?_
  rintro e W54 ⟨vv6, rfl, ho, hb⟩
  clear HC
  replace HU := hid (HU.out.keep hb)
  replace HV := hid (HV.out.keep hb)
  replace HZ := hid (HZ.out.keep hb)
  replace F1 := hid (F1.out.keep hb)
  replace F2 := hid (F2.out.keep hb)
  replace F3 := hid (F3.out.keep hb)
  replace F4 := hid (F4.out.keep hb)
  replace F5 := hid (F5.out.keep hb)
  replace HB := hid (HB.out.trans (hb.mono HB.out.size))
  clear hb
  obtain ⟨nn6, hnn⟩ : ∃ n, max n1 n2 = n := ⟨_, rfl⟩
  rw [hnn] at ho
  have hnb6 : nn6 ≤ 1000000 := by omega
  clear hnn
  obtain ⟨AA6, cc6, rfl, _, hf, _⟩ := ho.ni
  have F6 : Hid (NI W54 AA6 nn6 (joinV v z)) := hf
  clear ho hf
  have hc := join_calls n0 c0 nn6 cc6 A0 AA6 u (joinV v z) W54 HU.out F6.out (by omega) (by omega)
  have HC := hid hc
  clear hc
  go_wp2_with fail
  refine HC.out.mono ?_
  rintro e W55 ⟨vv7, rfl, ho, hb⟩
  clear HC
  replace HU := hid (HU.out.keep hb)
  replace HV := hid (HV.out.keep hb)
  replace HZ := hid (HZ.out.keep hb)
  replace F1 := hid (F1.out.keep hb)
  replace F2 := hid (F2.out.keep hb)
  replace F3 := hid (F3.out.keep hb)
  replace F4 := hid (F4.out.keep hb)
  replace F5 := hid (F5.out.keep hb)
  replace F6 := hid (F6.out.keep hb)
  replace HB := hid (HB.out.trans (hb.mono HB.out.size))
  clear hb
  obtain ⟨nn7, hnn⟩ : ∃ n, max n0 nn6 = n := ⟨_, rfl⟩
  rw [hnn] at ho
  have hnb7 : nn7 ≤ 1000000 := by omega
  clear hnn
  obtain ⟨AA7, cc7, rfl, _, hf, _⟩ := ho.ni
  have F7 : Hid (NI W55 AA7 nn7 (joinV u (joinV v z))) := hf
  clear ho hf
  have hc := sameI_calls nn5 cc5 nn7 cc7 AA5 AA7 (joinV (joinV u v) z) (joinV u (joinV v z)) W55 F5.out F7.out (by omega) (by omega)
  rw [show ((joinV (joinV u v) z) == (joinV u (joinV v z))) = true from by rw [join_assoc]; exact beq_self_eq_true _] at hc
  have HC := hid hc
  clear hc
  go_wp2_with fail
  refine HC.out.mono ?_
  rintro e W56 ⟨rfl, hb⟩
  clear HC
  replace HU := hid (HU.out.keep hb)
  replace HV := hid (HV.out.keep hb)
  replace HZ := hid (HZ.out.keep hb)
  replace F1 := hid (F1.out.keep hb)
  replace F2 := hid (F2.out.keep hb)
  replace F3 := hid (F3.out.keep hb)
  replace F4 := hid (F4.out.keep hb)
  replace F5 := hid (F5.out.keep hb)
  replace F6 := hid (F6.out.keep hb)
  replace F7 := hid (F7.out.keep hb)
  replace HB := hid (HB.out.trans (hb.mono HB.out.size))
  clear hb
  have hc := meet_calls nn2 cc2 n2 c2 AA2 A2 (meetV u v) z W56 F2.out HZ.out (by omega) (by omega)
  have HC := hid hc
  clear hc
  go_wp2_with fail
  refine HC.out.mono ?_
  rintro e W57 ⟨vv8, rfl, ho, hb⟩
  clear HC
  replace HU := hid (HU.out.keep hb)
  replace HV := hid (HV.out.keep hb)
  replace HZ := hid (HZ.out.keep hb)
  replace F1 := hid (F1.out.keep hb)
  replace F2 := hid (F2.out.keep hb)
  replace F3 := hid (F3.out.keep hb)
  replace F4 := hid (F4.out.keep hb)
  replace F5 := hid (F5.out.keep hb)
  replace F6 := hid (F6.out.keep hb)
  replace F7 := hid (F7.out.keep hb)
  replace HB := hid (HB.out.trans (hb.mono HB.out.size))
  clear hb
  obtain ⟨nn8, hnn⟩ : ∃ n, max nn2 n2 = n := ⟨_, rfl⟩
  rw [hnn] at ho
  have hnb8 : nn8 ≤ 1000000 := by omega
  clear hnn
  obtain ⟨AA8, cc8, rfl, _, hf, _⟩ := ho.ni
  have F8 : Hid (NI W57 AA8 nn8 (meetV (meetV u v) z)) := hf
  clear ho hf
  have hc := meet_calls n1 c1 n2 c2 A1 A2 v z W57 HV.out HZ.out (by omega) (by omega)
  have HC := hid hc
  clear hc
  go_wp2_with fail
  refine HC.out.mono ?_
  rintro e W58 ⟨vv9, rfl, ho, hb⟩
  clear HC
  replace HU := hid (HU.out.keep hb)
  replace HV := hid (HV.out.keep hb)
  replace HZ := hid (HZ.out.keep hb)
  replace F1 := hid (F1.out.keep hb)
  replace F2 := hid (F2.out.keep hb)
  replace F3 := hid (F3.out.keep hb)
  replace F4 := hid (F4.out.keep hb)
  replace F5 := hid (F5.out.keep hb)
  replace F6 := hid (F6.out.keep hb)
  replace F7 := hid (F7.out.keep hb)
  replace F8 := hid (F8.out.keep hb)
  replace HB := hid (HB.out.trans (hb.mono HB.out.size))
  clear hb
  obtain ⟨nn9, hnn⟩ : ∃ n, max n1 n2 = n := ⟨_, rfl⟩
  rw [hnn] at ho
  have hnb9 : nn9 ≤ 1000000 := by omega
  clear hnn
  obtain ⟨AA9, cc9, rfl, _, hf, _⟩ := ho.ni
  have F9 : Hid (NI W58 AA9 nn9 (meetV v z)) := hf
  clear ho hf
  have hc := meet_calls n0 c0 nn9 cc9 A0 AA9 u (meetV v z) W58 HU.out F9.out (by omega) (by omega)
  have HC := hid hc
  clear hc
  go_wp2_with fail
  refine HC.out.mono ?_
  rintro e W59 ⟨vv10, rfl, ho, hb⟩
  clear HC
  replace HU := hid (HU.out.keep hb)
  replace HV := hid (HV.out.keep hb)
  replace HZ := hid (HZ.out.keep hb)
  replace F1 := hid (F1.out.keep hb)
  replace F2 := hid (F2.out.keep hb)
  replace F3 := hid (F3.out.keep hb)
  replace F4 := hid (F4.out.keep hb)
  replace F5 := hid (F5.out.keep hb)
  replace F6 := hid (F6.out.keep hb)
  replace F7 := hid (F7.out.keep hb)
  replace F8 := hid (F8.out.keep hb)
  replace F9 := hid (F9.out.keep hb)
  replace HB := hid (HB.out.trans (hb.mono HB.out.size))
  clear hb
  obtain ⟨nn10, hnn⟩ : ∃ n, max n0 nn9 = n := ⟨_, rfl⟩
  rw [hnn] at ho
  have hnb10 : nn10 ≤ 1000000 := by omega
  clear hnn
  obtain ⟨AA10, cc10, rfl, _, hf, _⟩ := ho.ni
  have F10 : Hid (NI W59 AA10 nn10 (meetV u (meetV v z))) := hf
  clear ho hf
  have hc := sameI_calls nn8 cc8 nn10 cc10 AA8 AA10 (meetV (meetV u v) z) (meetV u (meetV v z)) W59 F8.out F10.out (by omega) (by omega)
  rw [show ((meetV (meetV u v) z) == (meetV u (meetV v z))) = true from by rw [meet_assoc]; exact beq_self_eq_true _] at hc
  have HC := hid hc
  clear hc
  go_wp2_with fail
  refine HC.out.mono ?_
  rintro e W60 ⟨rfl, hb⟩
  clear HC
  replace HU := hid (HU.out.keep hb)
  replace HV := hid (HV.out.keep hb)
  replace HZ := hid (HZ.out.keep hb)
  replace F1 := hid (F1.out.keep hb)
  replace F2 := hid (F2.out.keep hb)
  replace F3 := hid (F3.out.keep hb)
  replace F4 := hid (F4.out.keep hb)
  replace F5 := hid (F5.out.keep hb)
  replace F6 := hid (F6.out.keep hb)
  replace F7 := hid (F7.out.keep hb)
  replace F8 := hid (F8.out.keep hb)
  replace F9 := hid (F9.out.keep hb)
  replace F10 := hid (F10.out.keep hb)
  replace HB := hid (HB.out.trans (hb.mono HB.out.size))
  clear hb
  go_wp2_with fail
  go_ret
  exact ⟨rfl, HB.out⟩
end Go.Proofs.Ytfcildpigkobcaa
