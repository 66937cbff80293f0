/- The law WireKnown, walked. -/
import Derived.Test.YtcpkjpeimnaimaaWrKnown
namespace Go.Proofs.Ytcpkjpeimnaimaa
open Go.RowKit

theorem fpw_sep {L : List Nat} {B g f : Nat} {r r' : Option Nat} (hL : ∀ b ∈ L, b < B ∧ b ∉ fpw g f r) (m : Moved B r r') : ∀ b ∈ L, b ∉ fpw g f r' := fun b hb hm => by
  obtain ⟨h1, h2⟩ := hL b hb
  rcases fpw_moved m b hm with h | h
  · exact h2 h
  · omega
theorem put1 : putW 5 ⟨[], 0⟩ [numI (([97, 98, 99] : List UInt8).length : Int), some [97, 98, 99]] = ⟨[3, 97, 98, 99], 0⟩ := by rfl
theorem put2 : putW 5 ⟨[3, 97, 98, 99], 0⟩ [numI (-1)] = ⟨[3, 97, 98, 99], 3⟩ := by rfl
theorem put3 : putW 5 ⟨[3, 97, 98, 99], 3⟩ [numI 1] = ⟨[3, 97, 98, 99], 3⟩ := by rfl
theorem put4 : putW 3 ⟨[], 0⟩ [numI (([97, 98, 99] : List UInt8).length : Int), some [97, 98, 99]] = ⟨[], 4⟩ := by rfl
set_option maxHeartbeats 8000000 in
set_option maxRecDepth 20000 in
theorem known_calls (w : World) : Calls Try.prog 6 #[] w fun e w' => e = .returned (.bool true) ∧ Below w.heap.size w w' := by
  go_enter Try.func6, Try.ntmps6
  go_wp2_with fail
  refine (newWriter_calls 5 w (by omega)).mono ?_
  rintro _ w1 ⟨g, f, rfl, hw, -, -, b1⟩
  have HW := hid (hw w.heap.size (Nat.le_refl _)); have B := hid b1
  have W1S := hid b1.size
  clear hw b1
  go_wp2_with fail
  refine (newWriter_calls 3 w1 (by omega)).mono ?_
  rintro _ w2 ⟨g2, f2, rfl, hw, -, -, b1⟩
  have HX := hid (hw w1.heap.size (Nat.le_refl _)); have B := hid (B.out.trans (b1.mono B.out.size))
  have HSEP := hid (show ∀ b ∈ fpw g2 f2 none, b ∉ fpw g f none from fun b hb hm => by
    have h1 := (HX.out.fp_lt b hb).1
    have h2 := (HW.out.fp_lt b hm).2
    omega)
  have HW := hid (HW.out.keep b1)
  clear hw b1
  go_wp2_with fail
  refine (newWriter_bad (-1) w2 (.inl (by omega))).mono ?_
  rintro _ _ ⟨rfl, rfl⟩
  go_wp2_with fail
  refine (wText_calls w.heap.size g f none 5 ⟨[], 0⟩ w2 [97, 98, 99] (by simp) HW.out).mono ?_
  rintro _ w3 ⟨rfl, r3, h3, k3, m3⟩
  rw [put1] at h3 ⊢
  have HSEP3 := hid (fpw_sep (fun b hb => ⟨(HX.out.fp_lt b hb).2, HSEP.out b hb⟩) m3)
  have B3 := hid (B.out.trans (k3.below (fun b hb => (HW.out.fp_lt b hb).1) B.out.size))
  have HX3 := hid (HX.out.chg k3 HSEP.out)
  have HW3 := hid h3
  clear h3 k3 m3 HX HSEP B HW
  go_wp2_with fail
  refine (wNum_calls w.heap.size g f r3 5 ⟨[3, 97, 98, 99], 0⟩ w3 (-1) (by omega) HW3.out).mono ?_
  rintro _ w4 ⟨rfl, r4, h4, k4, m4⟩
  rw [put2] at h4 ⊢
  have HSEP4 := hid (fpw_sep (fun b hb => ⟨(HX3.out.fp_lt b hb).2, HSEP3.out b hb⟩) m4)
  have B4 := hid (B3.out.trans (k4.below (fun b hb => (HW3.out.fp_lt b hb).1) B3.out.size))
  have HX4 := hid (HX3.out.chg k4 HSEP3.out)
  have HW4 := hid h4
  clear h4 k4 m4 HX3 HSEP3 B3 HW3
  go_wp2_with fail
  refine (wNum_calls w.heap.size g f r4 5 ⟨[3, 97, 98, 99], 3⟩ w4 1 (by omega) HW4.out).mono ?_
  rintro _ w5 ⟨rfl, r5, h5, k5, m5⟩
  rw [put3] at h5 ⊢
  have HSEP5 := hid (fpw_sep (fun b hb => ⟨(HX4.out.fp_lt b hb).2, HSEP4.out b hb⟩) m5)
  have B5 := hid (B4.out.trans (k5.below (fun b hb => (HW4.out.fp_lt b hb).1) B4.out.size))
  have HX5 := hid (HX4.out.chg k5 HSEP4.out)
  have HW5 := hid h5
  clear h5 k5 m5 HX4 HSEP4 B4 HW4
  go_wp2_with fail
  refine (wText_calls w1.heap.size g2 f2 none 3 ⟨[], 0⟩ w5 [97, 98, 99] (by simp) HX5.out).mono ?_
  rintro _ w6 ⟨rfl, r6, h6, k6, m6⟩
  rw [put4]
  have B6 := hid (B5.out.trans (k6.below (fun b hb => by
    have h1 := (HX5.out.fp_lt b hb).1
    have h2 := (HW5.out.fp_lt g (by rw [mem_fpw]; exact .inr (.inl rfl))).1
    have h3 := W1S.out
    omega) B5.out.size))
  have HW6 := hid (HW5.out.chg k6 (fun b hb hm => HSEP5.out b hm hb))
  clear h6 k6 m6 HX5 HSEP5 B5 HW5
  go_wp2_with fail
  refine (wDone_failed w.heap.size g f r5 5 ⟨[3, 97, 98, 99], 3⟩ w6 HW6.out (by simp)).mono ?_
  rintro _ w7 ⟨rfl, b7⟩
  have B := hid (B6.out.trans (b7.mono B6.out.size))
  clear b7 B6 HW6
  go_wp2_with fail
  refine (form_lit 255 [192, 255] _ 2 (by omega) (by decide +kernel) rfl rfl _ rfl w7).mono ?_
  rintro _ c0 ⟨rfl, b⟩
  have B := hid (B.out.trans (b.mono B.out.size))
  clear b
  go_wp2_with fail
  refine (form_lit 9223372036854775807 [199, 127, 255, 255, 255, 255, 255, 255, 255] _ 9 (by omega) (by decide +kernel) rfl rfl _ rfl c0).mono ?_
  rintro _ c1 ⟨rfl, b⟩
  have B := hid (B.out.trans (b.mono B.out.size))
  clear b
  go_wp2_with fail
  refine (fails0_lit [192] _ 1 0 6 0 (by decide +kernel) rfl rfl (by omega) _ _ rfl rfl c1).mono ?_
  rintro _ c2 ⟨rfl, b⟩
  have B := hid (B.out.trans (b.mono B.out.size))
  clear b
  go_wp2_with fail
  refine (fails0_lit [200] _ 1 0 5 0 (by decide +kernel) rfl rfl (by omega) _ _ rfl rfl c2).mono ?_
  rintro _ c3 ⟨rfl, b⟩
  have B := hid (B.out.trans (b.mono B.out.size))
  clear b
  go_wp2_with fail
  refine (fails0_lit [193, 0, 9] _ 3 0 5 0 (by decide +kernel) rfl rfl (by omega) _ _ rfl rfl c3).mono ?_
  rintro _ c4 ⟨rfl, b⟩
  have B := hid (B.out.trans (b.mono B.out.size))
  clear b
  go_wp2_with fail
  refine (fails1_lit [3, 97] _ 2 9 6 0 (by decide +kernel) rfl rfl (by omega) _ _ rfl rfl c4).mono ?_
  rintro _ c5 ⟨rfl, b⟩
  have B := hid (B.out.trans (b.mono B.out.size))
  clear b
  go_wp2_with fail
  refine (fails1_lit [3, 97, 98, 99] _ 4 2 4 0 (by decide +kernel) rfl rfl (by omega) _ _ rfl rfl c5).mono ?_
  rintro _ c6 ⟨rfl, b⟩
  have B := hid (B.out.trans (b.mono B.out.size))
  clear b
  go_wp2_with fail
  refine (fails6_lit [2] _ 1 0 5 0 (by decide +kernel) rfl rfl (by omega) _ _ rfl rfl c6).mono ?_
  rintro _ c7 ⟨rfl, b⟩
  have B := hid (B.out.trans (b.mono B.out.size))
  clear b
  go_wp2_with fail
  refine (awake_calls c7).mono ?_
  rintro _ c8 ⟨rfl, b⟩
  have B := hid (B.out.trans (b.mono B.out.size))
  clear b
  go_wp2_with fail
  go_ret
  exact ⟨rfl, B.out⟩
end Go.Proofs.Ytcpkjpeimnaimaa
