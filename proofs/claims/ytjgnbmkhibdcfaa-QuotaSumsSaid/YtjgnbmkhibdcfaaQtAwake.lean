/- The law's awake. -/
import Derived.Test.YtjgnbmkhibdcfaaQtLaw
namespace Go.Proofs.Ytjgnbmkhibdcfaa
open Go.RowKit

def qA (l : List (LKey × Int)) : QS := ⟨10, l⟩
theorem ask_of {q : QS} {n : Nat} {r id : List UInt8} {sz : Int} (hr : IsR r true) (h1 : r.length ≤ 128) (h2 : id.length = 32) (h3 : 0 ≤ sz ∧ sz ≤ 4096) (h4 : n < 60000) (h5 : q.l.length < 65536) : Ask q n r id sz := ⟨h1, h2, hr, h3, h4, h5⟩
set_option maxRecDepth 20000 in
set_option maxHeartbeats 2000000 in
theorem qawake_calls (w : World) : Calls Try.prog 28 #[] w fun e w' => e = .returned (.bool true) ∧ Below w.heap.size w w' := by
  have HN := hid (q1_new 10 (by omega) (by omega) w w (Below.refl _ _))
  go_enter Try.func28, Try.ntmps28
  go_wp2_with fail
  refine HN.out.mono ?_
  rintro _ w1 ⟨s, rfl, h1⟩
  have H1 := hid h1
  clear HN h1
  go_wp2_with fail
  refine (one_calls _).mono ?_
  rintro _ w2 ⟨rfl, hb⟩
  have H2 := hid (H1.out.keep hb)
  have HL := hid (ql_links (want := true) (err := 0) (q2 := qA [(([97], dig1), 6)]) (H2.out : Q1 w w2 s 0 (qA [])) (ask_of (r := [97]) (id := dig1) (sz := 6) isR_a (by decide) (by decide) (by decide) (by decide) (by decide)) (by decide +kernel) (by kernel_rfl))
  clear hb H1
  go_wp2_with fail
  refine HL.out.mono ?_
  rintro _ w3 ⟨rfl, h3⟩
  have H3 := hid h3
  clear h3 HL H2
  go_wp2_with fail
  refine (one_calls _).mono ?_
  rintro _ w4 ⟨rfl, hb⟩
  have H4 := hid (H3.out.keep hb)
  have HL := hid (ql_links (want := false) (err := 0) (q2 := qA [(([97], dig1), 6)]) H4.out (ask_of (r := [97]) (id := dig1) (sz := 6) isR_a (by decide) (by decide) (by decide) (by decide) (by decide)) (by decide +kernel) (by kernel_rfl))
  clear hb H3
  go_wp2_with fail
  refine HL.out.mono ?_
  rintro _ w5 ⟨rfl, h5⟩
  have H5 := hid h5
  clear h5 HL H4
  go_wp2_with fail
  refine (two_calls _).mono ?_
  rintro _ w6 ⟨rfl, hb⟩
  have H6 := hid (H5.out.keep hb)
  have HL := hid (ql_links (want := false) (err := 11) (q2 := qA [(([97], dig1), 6)]) H6.out (ask_of (r := [97]) (id := dig2) (sz := 5) isR_a (by decide) (by decide) (by decide) (by decide) (by decide)) (by decide +kernel) (by kernel_rfl))
  clear hb H5
  go_wp2_with fail
  refine HL.out.mono ?_
  rintro _ w7 ⟨rfl, h7⟩
  have H7 := hid h7
  have HU := hid (H7.out.use [97] (by unfold maxLen; decide))
  rw [show sumQ (qA [(([97], dig1), 6)]).l [97] = 6 from by decide +kernel] at HU
  clear h7 HL H6
  go_wp2_with fail
  refine HU.out.mono ?_
  rintro _ _ ⟨rfl, rfl⟩
  clear HU
  go_wp2_with fail
  refine (one_calls _).mono ?_
  rintro _ w8 ⟨rfl, hb⟩
  have H8 := hid (H7.out.keep hb)
  have HH := hid (H8.out.has ([97], dig1) ⟨by unfold maxLen; decide, by decide⟩)
  rw [show (szQ (qA [(([97], dig1), 6)]).l ([97], dig1)).isSome = true from by decide +kernel] at HH
  clear hb H7
  go_wp2_with fail
  refine HH.out.mono ?_
  rintro _ w9 ⟨rfl, h9⟩
  have H9 := hid h9.below
  clear h9 HH H8
  go_wp2_with fail
  go_ret
  exact ⟨rfl, H9.out⟩
end Go.Proofs.Ytjgnbmkhibdcfaa
