/- Contracts: the state low of the machine that reads a digest. -/
import Derived.Test.YtgbjnndebdmijaaDoorNmDig
import Derived.Laws.BitsAllLaws
namespace Go.Proofs.YtgbjnndebdmijaaDoor
open Go.RowKit
attribute [local go_sem] run_mk
set_option maxHeartbeats 4000000 in
theorem low_more (g : Nat) (id : List UInt8) (j : Nat) (hj : j < 32) (hj2 : j < 31) (c : Int) (hc : IsChar c) (hd : 0 ≤ hexv c) (hd2 : hexv c ≤ 15) (x : UInt8) (hy : id[j]? = some x) (w : World) (hl : id.length = 32) (hb : Blk w g 37 (dcells id 7 j)) :
    Calls Tryd.prog 38 #[.pointer (some ⟨g, 0, none⟩), .int .i32 c] w
      fun e w' => e = .returned (fm 26 g) ∧ w.grownBy w' (some g) ∧ Blk w' g 37 (dcells (id.set j (x ||| UInt8.ofNat (hexv c).toNat)) 7 (j + 1)) := by
  have HD := hid (digit_calls c hc)
  have HQ := hid (isDigit_calls c hc)
  generalize hexv c = d at hd hd2 HD HQ ⊢
  obtain ⟨n, rfl⟩ : ∃ n : Nat, d = (n : Int) := ⟨d.toNat, by omega⟩
  have K := hid hb; have HL := hid hl
  have c33 := hb.cell 33 (dc_bytes hl)
  obtain ⟨x2, hx2, hx⟩ := dc_at (a := 7) (b := j) hl hj
  obtain rfl : x = x2 := Option.some.inj (hy.symm.trans hx2)
  clear hy hx2
  have HX := hid hx
  have cj := hb.cell j hx
  have fj := hb.frozen j
  have f33 := hb.frozen 33
  have hj0 : (0 : Int) ≤ (j : Int) := by omega
  have hj1 : (j : Int) < 32 := by omega
  have hj3 : (j : Int) + 1 < 32 := by omega
  clear hj2
  have hE : Enters' 37 := enters_of Tryd.func37 (by kernel_rfl) rfl
  have HE := hid hE
  clear hb hl hx hE
  go_enter Tryd.func38, Tryd.ntmps38
  go_wp2_with fail
  go_region_with ((with_reducible (refine (HD.out _).mono ?_)); rintro e w1 ⟨rfl, b1⟩; have K1 := hid (Blk.keep (w := w.drew) K.out b1); have d33 := K1.out.cell 33 (dc_bytes HL.out); have dj := K1.out.cell j HX.out; have gj := K1.out.frozen j; have g33 := K1.out.frozen 33)
  all_goals
    go_wp2_with fail
  all_goals
    have gx : w.grownBy w1 (some g) := ⟨b1.os, b1.tape, b1.output, b1.size, fun i hi _ => b1.block i hi⟩
    have hv : bits .or .u8 (x.toNat : Int) (n : Int) = ((x ||| UInt8.ofNat n).toNat : Int) := by
      rw [u8_or_nat x.toNat n x.toNat_lt (by omega), UInt8.toNat_or, UInt8.toNat_ofNat']
      have : n % 2 ^ 8 = n := by omega
      rw [this]
    have hv2 : (j : Int) + 1 = ((j + 1 : Nat) : Int) := by omega
    rw [hv, hv2]
    have k2 := (K1.out.set_ j (.int .u8 ((x ||| UInt8.ofNat n).toNat : Int))).set_ 33 (.int .i64 ((j + 1 : Nat) : Int))
    rw [dc_set_id HL.out hj, dc_set_bytes (by rw [List.length_set]; exact HL.out)] at k2
    have gy := (gx.trans (grown_setCell w1 g j (.int .u8 ((x ||| UInt8.ofNat n).toNat : Int)))).trans (grown_setCell (w1.setCell ⟨g, j, none⟩ (.int .u8 ((x ||| UInt8.ofNat n).toNat : Int))) g 33 (.int .i64 ((j + 1 : Nat) : Int)))
    generalize (w1.setCell ⟨g, j, none⟩ (.int .u8 ((x ||| UInt8.ofNat n).toNat : Int))).setCell ⟨g, 33, none⟩ (.int .i64 ((j + 1 : Nat) : Int)) = w2 at k2 gy ⊢
    have K2 := hid k2; have GY := hid gy
    clear hv hv2 k2 gy gx b1 K1 d33 dj gj g33 K c33 cj fj f33
    refine (pass_calls c 37 (fm 26 g) _ w2 HE.out (HQ.out w2)).mono ?_
    rintro e w3 ⟨rfl, b3⟩
    rw [decide_eq_true hd, show pick true (fm 26 g) = (fm 26 g) from rfl]
    have K3 := hid (K2.out.keep b3); have GZ := hid (GY.out.trans (grown_of_below b3 _))
    clear b3 K2 GY
    go_wp2_with fail
    go_ret
    exact ⟨rfl, GZ.out, K3.out⟩
set_option maxHeartbeats 4000000 in
theorem low_last (g : Nat) (id : List UInt8) (j : Nat) (hj : j < 32) (hj2 : j = 31) (c : Int) (hc : IsChar c) (hd : 0 ≤ hexv c) (hd2 : hexv c ≤ 15) (x : UInt8) (hy : id[j]? = some x) (w : World) (hl : id.length = 32) (hb : Blk w g 37 (dcells id 7 j)) :
    Calls Tryd.prog 38 #[.pointer (some ⟨g, 0, none⟩), .int .i32 c] w
      fun e w' => e = .returned (.func (.func 33) #[] #[]) ∧ w.grownBy w' (some g) ∧ Blk w' g 37 (dcells (id.set j (x ||| UInt8.ofNat (hexv c).toNat)) 7 (j + 1)) := by
  have HD := hid (digit_calls c hc)
  have HQ := hid (isDigit_calls c hc)
  generalize hexv c = d at hd hd2 HD HQ ⊢
  obtain ⟨n, rfl⟩ : ∃ n : Nat, d = (n : Int) := ⟨d.toNat, by omega⟩
  have K := hid hb; have HL := hid hl
  have c33 := hb.cell 33 (dc_bytes hl)
  obtain ⟨x2, hx2, hx⟩ := dc_at (a := 7) (b := j) hl hj
  obtain rfl : x = x2 := Option.some.inj (hy.symm.trans hx2)
  clear hy hx2
  have HX := hid hx
  have cj := hb.cell j hx
  have fj := hb.frozen j
  have f33 := hb.frozen 33
  have hj0 : (0 : Int) ≤ (j : Int) := by omega
  have hj1 : (j : Int) < 32 := by omega
  have hj3 : ¬ (j : Int) + 1 < 32 := by omega
  clear hj2
  have hE : Enters' 37 := enters_of Tryd.func37 (by kernel_rfl) rfl
  have HE := hid hE
  clear hb hl hx hE
  go_enter Tryd.func38, Tryd.ntmps38
  go_wp2_with fail
  go_region_with ((with_reducible (refine (HD.out _).mono ?_)); rintro e w1 ⟨rfl, b1⟩; have K1 := hid (Blk.keep (w := w.drew) K.out b1); have d33 := K1.out.cell 33 (dc_bytes HL.out); have dj := K1.out.cell j HX.out; have gj := K1.out.frozen j; have g33 := K1.out.frozen 33)
  all_goals
    go_wp2_with fail
  all_goals
    have gx : w.grownBy w1 (some g) := ⟨b1.os, b1.tape, b1.output, b1.size, fun i hi _ => b1.block i hi⟩
    have hv : bits .or .u8 (x.toNat : Int) (n : Int) = ((x ||| UInt8.ofNat n).toNat : Int) := by
      rw [u8_or_nat x.toNat n x.toNat_lt (by omega), UInt8.toNat_or, UInt8.toNat_ofNat']
      have : n % 2 ^ 8 = n := by omega
      rw [this]
    have hv2 : (j : Int) + 1 = ((j + 1 : Nat) : Int) := by omega
    rw [hv, hv2]
    have k2 := (K1.out.set_ j (.int .u8 ((x ||| UInt8.ofNat n).toNat : Int))).set_ 33 (.int .i64 ((j + 1 : Nat) : Int))
    rw [dc_set_id HL.out hj, dc_set_bytes (by rw [List.length_set]; exact HL.out)] at k2
    have gy := (gx.trans (grown_setCell w1 g j (.int .u8 ((x ||| UInt8.ofNat n).toNat : Int)))).trans (grown_setCell (w1.setCell ⟨g, j, none⟩ (.int .u8 ((x ||| UInt8.ofNat n).toNat : Int))) g 33 (.int .i64 ((j + 1 : Nat) : Int)))
    generalize (w1.setCell ⟨g, j, none⟩ (.int .u8 ((x ||| UInt8.ofNat n).toNat : Int))).setCell ⟨g, 33, none⟩ (.int .i64 ((j + 1 : Nat) : Int)) = w2 at k2 gy ⊢
    have K2 := hid k2; have GY := hid gy
    clear hv hv2 k2 gy gx b1 K1 d33 dj gj g33 K c33 cj fj f33
    refine (pass_calls c 37 (.func (.func 33) #[] #[]) _ w2 HE.out (HQ.out w2)).mono ?_
    rintro e w3 ⟨rfl, b3⟩
    rw [decide_eq_true hd, show pick true (.func (.func 33) #[] #[]) = (.func (.func 33) #[] #[]) from rfl]
    have K3 := hid (K2.out.keep b3); have GZ := hid (GY.out.trans (grown_of_below b3 _))
    clear b3 K2 GY
    go_wp2_with fail
    go_ret
    exact ⟨rfl, GZ.out, K3.out⟩
set_option maxHeartbeats 4000000 in
theorem low_no (g : Nat) (id : List UInt8) (j : Nat) (hj : j < 32) (c : Int) (hc : IsChar c) (hd : hexv c = -1) (w : World) (hl : id.length = 32) (hb : Blk w g 37 (dcells id 7 j)) :
    Calls Tryd.prog 38 #[.pointer (some ⟨g, 0, none⟩), .int .i32 c] w
      fun e w' => e = .returned .nilFunc ∧ w.grownBy w' (some g) := by
  have HD := hid (digit_calls c hc)
  have HQ := hid (isDigit_calls c hc)
  rw [hd] at HD HQ
  clear hd
  have K := hid hb; have HL := hid hl
  have c33 := hb.cell 33 (dc_bytes hl)
  obtain ⟨x, -, hx⟩ := dc_at (a := 7) (b := j) hl hj
  have HX := hid hx
  have cj := hb.cell j hx
  have fj := hb.frozen j
  have f33 := hb.frozen 33
  have hj0 : (0 : Int) ≤ (j : Int) := by omega
  have hj1 : (j : Int) < 32 := by omega
  have hE : Enters' 37 := enters_of Tryd.func37 (by kernel_rfl) rfl
  have HE := hid hE
  clear hb hl hx hE
  go_enter Tryd.func38, Tryd.ntmps38
  go_wp2_with fail
  go_region_with ((with_reducible (refine (HD.out _).mono ?_)); rintro e w1 ⟨rfl, b1⟩; have K1 := hid (Blk.keep (w := w.drew) K.out b1); have d33 := K1.out.cell 33 (dc_bytes HL.out); have dj := K1.out.cell j HX.out; have gj := K1.out.frozen j; have g33 := K1.out.frozen 33)
  all_goals
    go_wp2_with fail
  all_goals
    have gx : w.grownBy w1 (some g) := ⟨b1.os, b1.tape, b1.output, b1.size, fun i hi _ => b1.block i hi⟩
    have gy := (gx.trans (grown_setCell w1 g j (.int .u8 (bits .or .u8 (x.toNat : Int) 255)))).trans (grown_setCell (w1.setCell ⟨g, j, none⟩ (.int .u8 (bits .or .u8 (x.toNat : Int) 255))) g 33 (.int .i64 ((j : Int) + 1)))
    generalize (w1.setCell ⟨g, j, none⟩ (.int .u8 (bits .or .u8 (x.toNat : Int) 255))).setCell ⟨g, 33, none⟩ (.int .i64 ((j : Int) + 1)) = w2 at gy ⊢
    have GY := hid gy
    clear gy gx b1 K1 d33 dj gj g33 K c33 cj fj f33
    refine (pass_calls c 37 _ _ w2 HE.out (HQ.out w2)).mono ?_
    rintro e w3 ⟨rfl, b3⟩
    rw [show ∀ v, pick (decide (0 ≤ (-1 : Int))) v = .nilFunc from fun _ => rfl]
    have GZ := hid (GY.out.trans (grown_of_below b3 _))
    clear b3 GY
    go_wp2_with fail
    go_ret
    exact ⟨rfl, GZ.out⟩
end Go.Proofs.YtgbjnndebdmijaaDoor
