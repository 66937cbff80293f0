/- The chapter's examples, walked: one, awake, DeviceKnown. -/
import Derived.Test.YtoajnabdflikfaaDvOne
namespace Go.Proofs.Ytoajnabdflikfaa
open Go.RowKit

def k0 : DS := startS 2
def k1 : DS := writeS k0 0 (putB 1)
def k2 : DS := flushD k1
def k3 : DS := writeS k2 0 (putB 2)
def k4 : DS := writeS k3 1 (putB 3)
def k5 : DS := crashD k4 [false, true] 5
def k7 : DS := crashD k3 [] 5
def k8 : DS := fuseS k7 1
def k9 : DS := writeS k8 0 (putB 4)
def k10 : DS := flushD k9
def k11 : DS := crashD k10 [true] 0
set_option maxHeartbeats 4000000 in
theorem one_calls (w0 w : World) (hb : Below w0.heap.size w0 w) : Calls Try.prog 29 #[] w fun e w' => ∃ g, e = .returned (.pointer (some ⟨g, 0, none⟩)) ∧ Dev1 w0 w' g k2 := by
  have HB := hid hb
  clear hb
  go_enter Try.func29, Try.ntmps29
  go_wp2_with fail
  refine (d1_new w0 2 w HB.out (by omega) (by omega)).mono ?_
  rintro _ w1 ⟨g, rfl, h⟩
  have H := hid h
  clear h
  go_wp2_with fail
  refine (d1_puts 0 1 (s := k0) H.out (fuseOK_of (by decide +kernel))).mono ?_
  rintro _ w2 ⟨rfl, h⟩
  rw [show okB (writeE k0 0 64) = true from by decide +kernel]
  have H := hid h
  clear h
  go_wp2_with fail
  refine (d1_reads 0 1 64 0 (s := k1) (by omega) H.out).mono ?_
  rintro _ w3 ⟨rfl, h⟩
  rw [show (okB (readE k1 0) && (readB k1 0 == twoB 1 64 0)) = true from by decide +kernel]
  have H := hid h
  clear h
  go_wp2_with fail
  refine (d1_image 0 0 64 0 (s := k1) (by omega) H.out).mono ?_
  rintro _ w4 ⟨rfl, h⟩
  rw [show (okB (imageE k1 0) && (imageB k1 0 == twoB 0 64 0)) = true from by decide +kernel]
  have H := hid h
  clear h
  go_wp2_with fail
  refine (d1_loose (s := k1) H.out).mono ?_
  rintro _ _ ⟨rfl, rfl⟩
  rw [show ((k1.loose.length : Int)) = 1 from by decide +kernel]
  go_wp2_with fail
  refine (d1_flush (s := k1) H.out (fuseOK_of (by decide +kernel))).mono ?_
  rintro _ w5 ⟨rfl, h⟩
  rw [show ((flushE k1 : Int)) = 0 from by decide +kernel]
  have H := hid h
  clear h
  go_wp2_with fail
  refine (d1_image 0 1 64 0 (s := k2) (by omega) H.out).mono ?_
  rintro _ w6 ⟨rfl, h⟩
  rw [show (okB (imageE k2 0) && (imageB k2 0 == twoB 1 64 0)) = true from by decide +kernel]
  have H := hid h
  clear h
  go_wp2_with fail
  go_ret
  exact ⟨g, rfl, H.out⟩
set_option maxHeartbeats 4000000 in
theorem awake_calls (w : World) : Calls Try.prog 9 #[] w fun e w' => e = .returned (.bool true) ∧ Below w.heap.size w w' := by
  go_enter Try.func9, Try.ntmps9
  go_wp2_with fail
  refine (one_calls w w (Below.refl _ _)).mono ?_
  rintro _ w1 ⟨g, rfl, h⟩
  have H := hid h
  clear h
  go_wp2_with fail
  refine (d1_puts 0 2 (s := k2) H.out (fuseOK_of (by decide +kernel))).mono ?_
  rintro _ w2 ⟨rfl, h⟩
  rw [show okB (writeE k2 0 64) = true from by decide +kernel]
  have H := hid h
  clear h
  go_wp2_with fail
  refine (d1_puts 1 3 (s := k3) H.out (fuseOK_of (by decide +kernel))).mono ?_
  rintro _ w3 ⟨rfl, h⟩
  rw [show okB (writeE k3 1 64) = true from by decide +kernel]
  have H := hid h
  clear h
  go_wp2_with fail
  refine (d1_crash 2 2 (some ⟨w3.heap.size, 0, none⟩) [false, true] 5 (s := k4) H.out (fuseOK_of (by decide +kernel)) (below_new _ _) (kb_lit _ _ [false, true] _ 2 rfl rfl) (fun _ b off e => by cases e; exact .inr (Nat.le_refl _)) (by omega)).mono ?_
  rintro _ w4 ⟨rfl, h⟩
  rw [show ((crashE 5 : Int)) = 0 from by decide +kernel]
  have H := hid h
  clear h
  go_wp2_with fail
  refine (d1_reads 0 2 5 1 (s := k5) (by omega) H.out).mono ?_
  rintro _ w5 ⟨rfl, h⟩
  rw [show (okB (readE k5 0) && (readB k5 0 == twoB 2 5 1)) = true from by decide +kernel]
  have H := hid h
  clear h
  go_wp2_with fail
  refine (d1_reads 1 3 64 0 (s := k5) (by omega) H.out).mono ?_
  rintro _ w6 ⟨rfl, h⟩
  rw [show (okB (readE k5 1) && (readB k5 1 == twoB 3 64 0)) = true from by decide +kernel]
  have H := hid h
  clear h
  go_wp2_with fail
  refine (d1_loose (s := k5) H.out).mono ?_
  rintro _ _ ⟨rfl, rfl⟩
  rw [show ((k5.loose.length : Int)) = 0 from by decide +kernel]
  go_wp2_with fail
  go_ret
  exact ⟨rfl, H.out.1⟩
set_option maxHeartbeats 8000000 in
set_option maxRecDepth 20000 in
theorem known_calls (w : World) : Calls Try.prog 5 #[] w fun e w' => e = .returned (.bool true) ∧ Below w.heap.size w w' := by
  go_enter Try.func5, Try.ntmps5
  go_wp2_with fail
  refine (one_calls w w (Below.refl _ _)).mono ?_
  rintro _ w1 ⟨g, rfl, h⟩
  have H := hid h
  clear h
  go_wp2_with fail
  refine (d1_puts 0 2 (s := k2) H.out (fuseOK_of (by decide +kernel))).mono ?_
  rintro _ w2 ⟨rfl, h⟩
  rw [show okB (writeE k2 0 64) = true from by decide +kernel]
  have H := hid h
  clear h
  go_wp2_with fail
  refine (d1_crash 0 0 none [] 5 (s := k3) H.out (fuseOK_of (by decide +kernel)) (Below.refl _ _) (kb_nil _) (fun _ b off e => by cases e) (by omega)).mono ?_
  rintro _ w3 ⟨rfl, h⟩
  rw [show ((crashE 5 : Int)) = 0 from by decide +kernel]
  have H := hid h
  clear h
  go_wp2_with fail
  refine (d1_fuse 1 (s := k7) H.out).mono ?_
  rintro _ w4 ⟨rfl, h⟩
  rw [show ((fuseE k7 1 : Int)) = 0 from by decide +kernel]
  have H := hid h
  clear h
  go_wp2_with fail
  refine (d1_puts 0 4 (s := k8) H.out (fuseOK_of (by decide +kernel))).mono ?_
  rintro _ w5 ⟨rfl, h⟩
  rw [show okB (writeE k8 0 64) = true from by decide +kernel]
  have H := hid h
  clear h
  go_wp2_with fail
  refine (d1_flush (s := k9) H.out (fuseOK_of (by decide +kernel))).mono ?_
  rintro _ w6 ⟨rfl, h⟩
  rw [show ((flushE k9 : Int)) = 22 from by decide +kernel]
  have H := hid h
  clear h
  go_wp2_with fail
  refine (d1_out (s := k10) H.out).mono ?_
  rintro _ _ ⟨rfl, rfl⟩
  rw [show k10.out = true from by decide +kernel]
  go_wp2_with fail
  refine (d1_read 0 (s := k10) H.out).mono ?_
  rintro _ w7 ⟨v, rfl, h⟩
  rw [show ((readE k10 0 : Int)) = 22 from by decide +kernel]
  have H := hid h
  clear h
  go_wp2_with fail
  refine (d1_image 0 2 5 1 (s := k10) (by omega) H.out).mono ?_
  rintro _ w8 ⟨rfl, h⟩
  rw [show (okB (imageE k10 0) && (imageB k10 0 == twoB 2 5 1)) = true from by decide +kernel]
  have H := hid h
  clear h
  go_wp2_with fail
  refine (d1_crash 1 1 (some ⟨w8.heap.size, 0, none⟩) [true] 0 (s := k10) H.out (fuseOK_of (by decide +kernel)) (below_new _ _) (kb_lit _ _ [true] _ 1 rfl rfl) (fun _ b off e => by cases e; exact .inr (Nat.le_refl _)) (by omega)).mono ?_
  rintro _ w9 ⟨rfl, h⟩
  rw [show ((crashE 0 : Int)) = 0 from by decide +kernel]
  have H := hid h
  clear h
  go_wp2_with fail
  refine (d1_reads 0 4 64 0 (s := k11) (by omega) H.out).mono ?_
  rintro _ w10 ⟨rfl, h⟩
  rw [show (okB (readE k11 0) && (readB k11 0 == twoB 4 64 0)) = true from by decide +kernel]
  have H := hid h
  clear h
  go_wp2_with fail
  refine (d1_read 2 (s := k11) H.out).mono ?_
  rintro _ w11 ⟨v2, rfl, h⟩
  rw [show ((readE k11 2 : Int)) = 3 from by decide +kernel]
  have H := hid h
  clear h
  go_wp2_with fail
  refine (new_bad 0 w11 (.inl (by omega))).mono ?_
  rintro _ _ ⟨rfl, rfl⟩
  go_wp2_with fail
  refine (awake_calls w11).mono ?_
  rintro _ w12 ⟨rfl, h⟩
  have H := hid (H.out.keep h)
  clear h
  go_wp2_with fail
  refine (full_calls 1 64 (by omega) w12).mono ?_
  rintro _ w13 ⟨v3, rfl, ho, hb⟩
  obtain ⟨A3, c3, rfl, _, hs3, hblk⟩ := ho.sb
  have HC := hid (d1_write (s := k11) 2 _ 64 c3 A3 _ H.out (fuseOK_of (by decide +kernel)) hb hs3 (fun b off e => .inr (hblk b (by rw [e]; rfl)).1))
  clear ho hb hs3 hblk
  go_wp2_with fail
  refine HC.out.mono ?_
  rintro _ w14 ⟨rfl, h⟩
  rw [show ((writeE k11 2 64 : Int)) = 3 from by decide +kernel]
  have H := hid h
  clear h HC
  go_wp2_with fail
  refine (d1_write 0 0 0 0 none [] (s := writeS k11 2 (List.replicate 64 1)) H.out (fuseOK_of (by decide +kernel)) (Below.refl _ _) (SB.nil _ _ _) (fun b off e => by cases e)).mono ?_
  rintro _ w15 ⟨rfl, h⟩
  rw [show ((writeE (writeS k11 2 (List.replicate 64 1)) 0 0 : Int)) = 2 from by decide +kernel]
  have H := hid h
  clear h
  go_wp2_with fail
  refine (d1_crash 0 0 none [] 64 H.out (fuseOK_of (by decide +kernel)) (Below.refl _ _) (kb_nil _) (fun _ b off e => by cases e) (by omega)).mono ?_
  rintro _ w16 ⟨rfl, h⟩
  rw [show ((crashE 64 : Int)) = 2 from by decide +kernel]
  have H := hid h
  clear h
  go_wp2_with fail
  refine (d1_fuse (-1) H.out).mono ?_
  rintro _ w17 ⟨rfl, h⟩
  rw [show ((fuseE (crashD (writeS (writeS k11 2 (List.replicate 64 1)) 0 []) [] 64) (-1) : Int)) = 2 from by decide +kernel]
  have H := hid h
  clear h
  go_wp2_with fail
  go_ret
  exact ⟨rfl, H.out.1⟩
end Go.Proofs.Ytoajnabdflikfaa
