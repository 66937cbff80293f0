/- The chapter's examples of a log, reckoned. -/
import Derived.Test.YtnblikcfbhbndaaLgWrite
import Derived.Test.YtnblikcfbhbndaaLgHas
namespace Go.Proofs.Ytnblikcfbhbndaa
open Go.RowKit

def abcL : List UInt8 := [97, 98, 99]
def ar7 (g : Int) : AR := ⟨1, 4, g⟩
def m0 : DS := startS 4
def m1 : DS := (blankR m0 (ar7 7)).1
def m2 : DS := (logWR m1 (ar7 7) 0 abcL).1
def m3 : DS := flushD m2
def manyL (n : Nat) : List UInt8 := (List.range n).map fun i => UInt8.ofNat (i * 7)
def m4 : DS := (logWR m3 (ar7 7) 1 (manyL 50)).1
def m4b : DS := (logWR m4 (ar7 7) 3 []).1
def m5 : DS := flushD m4b
def m6 : DS := crashD m4 [true] 63
theorem ex1 : (blankR m0 (ar7 7)).2 = 0 := by decide +kernel
theorem ex2 : (logWR m1 (ar7 7) 0 abcL).2 = (1, 0) := by decide +kernel
theorem ex3 : flushE m2 = 0 := by decide +kernel
theorem ex4 : scanR m3 (ar7 7) = ([abcL], 1) := by decide +kernel
theorem ex5 : scanR m3 (ar7 8) = ([], 0) := by decide +kernel
theorem ex6 : (logWR m3 (ar7 7) 1 (manyL 50)).2 = (3, 0) := by decide +kernel
theorem ex7 : (logWR m4 (ar7 7) 3 []).2 = (0, 10) := by decide +kernel
theorem ex8 : flushE m4b = 0 := by decide +kernel
theorem ex9 : scanR m5 (ar7 7) = ([abcL, manyL 50], 3) := by decide +kernel
theorem ex10 : scanR m5 (ar7 8) = ([], 0) := by decide +kernel
theorem ex11 : crashE 63 = 0 := by decide +kernel
theorem ex12 : scanR m6 (ar7 7) = ([abcL], 1) := by decide +kernel
end Go.Proofs.Ytnblikcfbhbndaa
/- The chapter's examples of a log, walked: made, awake, LogKnown. -/
namespace Go.Proofs.Ytnblikcfbhbndaa
open Go.RowKit

theorem many_eq (n : Nat) : manyB n = manyL n := rfl

set_option maxHeartbeats 4000000 in
set_option maxRecDepth 20000 in
theorem made_calls (w0 w : World) (hb : Below w0.heap.size w0 w) : Calls Try.prog 62 #[] w fun e w' => ∃ g, e = .returned (.pointer (some ⟨g, 0, none⟩)) ∧ Dev1 w0 w' g m3 := by
  have HB := hid hb
  clear hb
  go_enter Try.func62, Try.ntmps62
  go_wp2_with fail
  refine (d1_new w0 4 w HB.out (by omega) (by omega)).mono ?_
  rintro _ w1 ⟨g, rfl, h⟩
  have H := hid h
  clear h HB
  go_wp2_with fail
  refine (area_calls 7 w1).mono ?_
  rintro _ w2 ⟨rfl, h⟩
  have H := hid (H.out.keep h)
  clear h
  go_wp2_with fail
  refine (d1_blank (ar7 7) (s := m0) H.out (fuseOK_of (by decide +kernel)) (by decide +kernel)).mono ?_
  rintro _ w3 ⟨rfl, h⟩
  rw [show (((blankR m0 (ar7 7)).2 : Int)) = 0 from by rw [ex1]; rfl]
  have H := hid h
  clear h
  go_wp2_with fail
  refine (area_calls 7 w3).mono ?_
  rintro _ w4 ⟨rfl, h⟩
  have H := hid (H.out.keep h)
  clear h
  go_wp2_with fail
  refine upon_text _ 37 5 Try.underlying37 Try.underlying5 _ abcL rfl 3 rfl ?_
  intro w5 hs hb
  have HW := hid (d1_lwrite (s := m1) (ar7 7) 0 _ 3 3 _ _ H.out (fuseOK_of (by decide +kernel)) (by decide +kernel) hb hs (by omega) (fun _ b off e => by cases e; exact .inr (Nat.le_refl _)))
  clear hs hb H
  try dsimp only
  go_wp2_with fail
  refine HW.out.mono ?_
  rintro _ w6 ⟨rfl, h⟩
  have H := hid (show Dev1 w0 w6 g m2 from h)
  rw [ex2]
  clear h HW
  go_wp2_with fail
  refine (d1_flush (s := m2) H.out (fuseOK_of (by decide +kernel))).mono ?_
  rintro _ w7 ⟨rfl, h⟩
  rw [show ((flushE m2 : Int)) = 0 from by rw [ex3]; rfl]
  have H := hid (show Dev1 w0 w7 g m3 from h)
  clear h
  go_wp2_with fail
  go_ret
  exact ⟨g, rfl, H.out⟩
theorem ar_eq (g : Int) : (⟨1, 4, g⟩ : AR) = ar7 g := rfl
theorem sl_one (w : World) (t : TypeId) (x : List UInt8) (n c B : Nat) (A : Option Addr) (hn : x.length = n) (hs : SB w B A n x) (hc : n ≤ c) : SL (w.alloc (.cells #[.slice A n c] t)) (some ⟨w.heap.size, 0, none⟩) [x] :=
  sl_new w t [.slice A n c] [x] rfl (fun k y u hy hu => by
    match k with
    | 0 => cases hy; cases hu; subst hn; exact ⟨B, A, c, rfl, hs, hc⟩
    | k + 1 => simp at hy)
theorem sl_two (w : World) (t : TypeId) (x y : List UInt8) (n c B : Nat) (A : Option Addr) (n2 c2 B2 : Nat) (A2 : Option Addr) (hn : x.length = n) (hs : SB w B A n x) (hc : n ≤ c) (hn2 : y.length = n2) (hs2 : SB w B2 A2 n2 y) (hc2 : n2 ≤ c2) : SL (w.alloc (.cells #[.slice A n c, .slice A2 n2 c2] t)) (some ⟨w.heap.size, 0, none⟩) [x, y] :=
  sl_new w t [.slice A n c, .slice A2 n2 c2] [x, y] rfl (fun k z u hy hu => by
    match k with
    | 0 => cases hy; cases hu; subst hn; exact ⟨B, A, c, rfl, hs, hc⟩
    | 1 => cases hy; cases hu; subst hn2; exact ⟨B2, A2, c2, rfl, hs2, hc2⟩
    | k + 2 => simp at hy)
theorem exH1 : hasL m3 (ar7 7) 1 [abcL] = true := by decide +kernel
theorem exH2 : hasL m3 (ar7 8) 0 [] = true := by decide +kernel
theorem exH3 : hasL m5 (ar7 7) 3 [abcL, manyL 50] = true := by decide +kernel
theorem exH4 : hasL m5 (ar7 8) 0 [] = true := by decide +kernel
theorem exH5 : hasL m6 (ar7 7) 1 [abcL] = true := by decide +kernel
set_option maxHeartbeats 4000000 in
set_option maxRecDepth 20000 in
theorem awake_calls (w : World) : Calls Try.prog 23 #[] w fun e w' => e = .returned (.bool true) ∧ Below w.heap.size w w' := by
  go_enter Try.func23, Try.ntmps23
  go_wp2_with fail
  refine (made_calls w w (Below.refl _ _)).mono ?_
  rintro _ w1 ⟨g, rfl, h⟩
  have H := hid h
  clear h
  go_wp2_with fail
  refine (need_calls 50 w1).mono ?_
  rintro _ _ ⟨rfl, rfl⟩
  rw [show ((needE 50 : Int)) = 2 from by decide +kernel]
  go_wp2_with fail
  refine (area_calls 7 w1).mono ?_
  rintro _ w2 ⟨rfl, h⟩
  have H := hid (H.out.keep h)
  clear h
  go_wp2_with fail
  refine upon_text _ 37 5 Try.underlying37 Try.underlying5 _ abcL rfl 3 rfl ?_
  intro w3 hs hb
  have H := hid (H.out.keep hb)
  have HL := hid (sl_one w3 37 abcL 3 3 _ _ rfl hs (by omega))
  have H1 := hid (H.out.keep (below_new w3 (.cells #[.slice (some ⟨w2.heap.size, 0, none⟩) 3 3] 37)))
  clear hs hb H
  try dsimp only
  go_wp2_with fail
  refine (lgHas_calls (ar7 7) 1 _ 1 [abcL] H1.out HL.out).mono ?_
  rintro _ w4 ⟨rfl, h⟩
  rw [exH1]
  have H := hid (H1.out.keep h)
  clear h H1 HL
  go_wp2_with fail
  refine (area_calls 8 w4).mono ?_
  rintro _ w5 ⟨rfl, h⟩
  have H := hid (H.out.keep h)
  clear h
  go_wp2_with fail
  refine (lgHas_calls (s := m3) (ar7 8) 0 none 0 [] H.out (SL.nil _ _)).mono ?_
  rintro _ w6 ⟨rfl, h⟩
  rw [exH2]
  have H := hid (H.out.keep h)
  clear h
  go_wp2_with fail
  go_ret
  exact ⟨rfl, H.out.1⟩
set_option maxHeartbeats 8000000 in
set_option maxRecDepth 20000 in
theorem known_calls (w : World) : Calls Try.prog 46 #[] w fun e w' => e = .returned (.bool true) ∧ Below w.heap.size w w' := by
  go_enter Try.func46, Try.ntmps46
  go_wp2_with fail
  refine (made_calls w w (Below.refl _ _)).mono ?_
  rintro _ w1 ⟨g, rfl, h⟩
  have H0 := hid h
  clear h
  go_wp2_with fail
  refine (made_calls w1 w1 (Below.refl _ _)).mono ?_
  rintro _ w2 ⟨g2, rfl, h⟩
  have H := hid (dev2_of H0.out h)
  clear h H0
  go_wp2_with fail
  refine (area_calls 7 w2).mono ?_
  rintro _ w3 ⟨rfl, h⟩
  have H := hid (H.out.keep h)
  clear h
  go_wp2_with fail
  refine (many_calls 50 (by omega) w3).mono ?_
  rintro _ w4 ⟨v, rfl, ho, hb⟩
  obtain ⟨A, c, rfl, hc, hs, hblk⟩ := ho.sb
  have HW := hid (d2_lwrite (s := m3) (ar7 7) 1 A 50 c _ (manyL 50) H.out (fuseOK_of (by decide +kernel)) (by decide +kernel) hb hs hc (fun _ b off e => .inr (hblk b (by rw [e]; rfl)).1))
  clear ho hb hs hblk hc H
  go_wp2_with fail
  refine HW.out.mono ?_
  rintro _ w5 ⟨rfl, h⟩
  have H := hid (show Dev2 w w5 g m4 g2 m3 from h)
  rw [ex6]
  clear h HW
  go_wp2_with fail
  refine (area_calls 7 w5).mono ?_
  rintro _ w6 ⟨rfl, h⟩
  have H := hid (H.out.keep h)
  clear h
  go_wp2_with fail
  refine (d2_lwrite (s := m4) (ar7 7) 3 none 0 0 0 [] H.out (fuseOK_of (by decide +kernel)) (by decide +kernel) (Below.refl _ _) (SB.nil _ _ _) (by omega) (fun h => absurd h (by omega))).mono ?_
  rintro _ w7 ⟨rfl, h⟩
  have H := hid (show Dev2 w w7 g m4b g2 m3 from h)
  rw [ex7]
  clear h
  go_wp2_with fail
  refine (d2_flush (s := m4b) H.out (fuseOK_of (by decide +kernel))).mono ?_
  rintro _ w8 ⟨rfl, h⟩
  rw [show ((flushE m4b : Int)) = 0 from by rw [ex8]; rfl]
  have H := hid (show Dev2 w w8 g m5 g2 m3 from h)
  clear h
  go_wp2_with fail
  refine (area_calls 7 w8).mono ?_
  rintro _ w9 ⟨rfl, h⟩
  have H := hid (H.out.keep h)
  clear h
  go_wp2_with fail
  refine upon_text _ 37 5 Try.underlying37 Try.underlying5 _ abcL rfl 3 rfl ?_
  intro w10 hs hb
  have H := hid (H.out.keep hb)
  have HS := hid hs
  clear hs hb
  try dsimp only
  go_wp2_with fail
  refine (many_calls 50 (by omega) w10).mono ?_
  rintro _ w11 ⟨v, rfl, ho, hb⟩
  obtain ⟨A, c, rfl, hc, hs2, -⟩ := ho.sb
  have HL := hid (sl_two w11 37 abcL (manyL 50) 3 3 _ _ 50 c _ A rfl (HS.out.keep hb) (by omega) rfl hs2 hc)
  have H := hid ((H.out.keep hb).keep (below_new w11 (.cells #[.slice (some ⟨w9.heap.size, 0, none⟩) 3 3, .slice A 50 c] 37)))
  clear ho hb hs2 hc HS
  go_wp2_with fail
  refine (lgHas_calls (ar7 7) 3 _ 2 [abcL, manyL 50] H.out.fst HL.out).mono ?_
  rintro _ w12 ⟨rfl, h⟩
  rw [exH3]
  have H := hid (H.out.keep h)
  clear h HL
  go_wp2_with fail
  refine (area_calls 8 w12).mono ?_
  rintro _ w13 ⟨rfl, h⟩
  have H := hid (H.out.keep h)
  clear h
  go_wp2_with fail
  refine (lgHas_calls (s := m5) (ar7 8) 0 none 0 [] H.out.fst (SL.nil _ _)).mono ?_
  rintro _ w14 ⟨rfl, h⟩
  rw [exH4]
  have H := hid (H.out.keep h)
  clear h
  go_wp2_with fail
  refine (d1_check (s := m5) ⟨2, 5, 7⟩ H.out.fst).mono ?_
  rintro _ w15 ⟨rfl, h⟩
  rw [show ((checkE m5.n ⟨2, 5, 7⟩ : Int)) = 3 from by decide +kernel]
  have H := hid (H.out.keep h)
  clear h
  go_wp2_with fail
  refine (area_calls 0 w15).mono ?_
  rintro _ w16 ⟨rfl, h⟩
  have H := hid (H.out.keep h)
  clear h
  go_wp2_with fail
  refine (d1_check (s := m5) (ar7 0) H.out.fst).mono ?_
  rintro _ w17 ⟨rfl, h⟩
  rw [show ((checkE m5.n (ar7 0) : Int)) = 3 from by decide +kernel]
  have H := hid (H.out.keep h)
  clear h
  go_wp2_with fail
  refine (need_calls 0 w17).mono ?_
  rintro _ _ ⟨rfl, rfl⟩
  rw [show ((needE 0 : Int)) = 1 from by decide +kernel]
  go_wp2_with fail
  refine (need_calls 49 w17).mono ?_
  rintro _ _ ⟨rfl, rfl⟩
  rw [show ((needE 49 : Int)) = 1 from by decide +kernel]
  go_wp2_with fail
  refine (need_calls (-1) w17).mono ?_
  rintro _ _ ⟨rfl, rfl⟩
  rw [show ((needE (-1) : Int)) = 0 from by decide +kernel]
  go_wp2_with fail
  refine (area_calls 7 w17).mono ?_
  rintro _ w18 ⟨rfl, h⟩
  have H := hid (H.out.swap.keep h)
  clear h
  go_wp2_with fail
  refine (many_calls 50 (by omega) w18).mono ?_
  rintro _ w19 ⟨v, rfl, ho, hb⟩
  obtain ⟨A, c, rfl, hc, hs, hblk⟩ := ho.sb
  have HW := hid (d2_lwrite (s := m3) (ar7 7) 1 A 50 c _ (manyL 50) H.out (fuseOK_of (by decide +kernel)) (by decide +kernel) hb hs hc (fun _ b off e => .inr (hblk b (by rw [e]; rfl)).1))
  clear ho hb hs hblk hc H
  go_wp2_with fail
  refine HW.out.mono ?_
  rintro _ w20 ⟨rfl, h⟩
  have H := hid (show Dev1 w w20 g2 m4 from h.fst)
  rw [ex6]
  clear h HW
  go_wp2_with fail
  refine (awake_calls w20).mono ?_
  rintro _ w21 ⟨rfl, h⟩
  have H := hid (H.out.keep h)
  clear h
  go_wp2_with fail
  refine (d1_crash 1 1 (some ⟨w21.heap.size, 0, none⟩) [true] 63 (s := m4) H.out (fuseOK_of (by decide +kernel)) (below_new _ _) (kb_lit _ _ [true] _ 1 rfl rfl) (fun _ b off e => by cases e; exact .inr (Nat.le_refl _)) (by omega)).mono ?_
  rintro _ w22 ⟨rfl, h⟩
  rw [show ((crashE 63 : Int)) = 0 from by decide +kernel]
  have H := hid (show Dev1 w w22 g2 m6 from h)
  clear h
  go_wp2_with fail
  refine (area_calls 7 w22).mono ?_
  rintro _ w23 ⟨rfl, h⟩
  have H := hid (H.out.keep h)
  clear h
  go_wp2_with fail
  refine upon_text _ 37 5 Try.underlying37 Try.underlying5 _ abcL rfl 3 rfl ?_
  intro w24 hs hb
  have H := hid (H.out.keep hb)
  have HL := hid (sl_one w24 37 abcL 3 3 _ _ rfl hs (by omega))
  have H1 := hid (H.out.keep (below_new w24 (.cells #[.slice (some ⟨w23.heap.size, 0, none⟩) 3 3] 37)))
  clear hs hb H
  try dsimp only
  go_wp2_with fail
  refine (lgHas_calls (ar7 7) 1 _ 1 [abcL] H1.out HL.out).mono ?_
  rintro _ w25 ⟨rfl, h⟩
  rw [exH5]
  have H := hid (H1.out.keep h)
  clear h H1 HL
  go_wp2_with fail
  go_ret
  exact ⟨rfl, H.out.1⟩
end Go.Proofs.Ytnblikcfbhbndaa
