/- Contracts: the states of the machine that reads a digest. -/
import Derived.Test.YtgbjnndebdmijaaDoorNmExam
import Derived.Deep.RegionWith
namespace Go.Proofs.YtgbjnndebdmijaaDoor
open Go.RowKit

/-- the cells of the machine -/
def dcells (id : List UInt8) (a b : Nat) : Array Value := (id.map bv ++ [Value.int .i64 (a : Int), Value.int .i64 (b : Int)]).toArray
section
variable {id : List UInt8} {a b : Nat} (h : id.length = 32)
include h
theorem dc_size : (dcells id a b).size = 34 := by simp [dcells, h]
theorem dc_at {j : Nat} (hj : j < 32) : ∃ x : UInt8, id[j]? = some x ∧ (dcells id a b)[j]? = some (.int .u8 (x.toNat : Int)) := by
  refine ⟨id[j], List.getElem?_eq_getElem (by omega), ?_⟩
  simp only [dcells, List.getElem?_toArray]
  rw [List.getElem?_append_left (by simp; omega)]
  simp [bv, h, hj]
theorem dc_begun : (dcells id a b)[32]? = some (.int .i64 (a : Int)) := by
  simp only [dcells, List.getElem?_toArray]
  rw [List.getElem?_append_right (by simp; omega)]
  simp [h]
theorem dc_bytes : (dcells id a b)[33]? = some (.int .i64 (b : Int)) := by
  simp only [dcells, List.getElem?_toArray]
  rw [List.getElem?_append_right (by simp; omega)]
  simp [h]
theorem dc_set_id {j : Nat} (hj : j < 32) (x : UInt8) : (dcells id a b).setIfInBounds j (.int .u8 (x.toNat : Int)) = dcells (id.set j x) a b := by
  simp only [dcells, List.setIfInBounds_toArray]
  rw [List.set_append_left _ _ (by simp; omega), List.map_set]
  rfl
theorem dc_set_begun (c : Nat) : (dcells id a b).setIfInBounds 32 (.int .i64 (c : Int)) = dcells id c b := by
  simp only [dcells, List.setIfInBounds_toArray]
  rw [List.set_append_right _ _ (by simp; omega)]
  simp [h]
theorem dc_set_bytes (c : Nat) : (dcells id a b).setIfInBounds 33 (.int .i64 (c : Int)) = dcells id a c := by
  simp only [dcells, List.setIfInBounds_toArray]
  rw [List.set_append_right _ _ (by simp; omega)]
  simp [h]
end
def schemeL : List UInt8 := [115, 104, 97, 50, 53, 54, 58]
theorem run_mk (fn : Fn) (first cap : Array Value) (w : World) : (Instr.makeFunc fn first cap).run Tryd.prog w = .ok (.func fn first cap) w := rfl
attribute [local go_sem] run_mk

theorem sch0 (h) : ((⟨#[115, 104, 97, 50, 53, 54, 58]⟩ : ByteArray)[0]'h).toNat = 115 := rfl
theorem sch1 (h) : ((⟨#[115, 104, 97, 50, 53, 54, 58]⟩ : ByteArray)[1]'h).toNat = 104 := rfl
theorem sch2 (h) : ((⟨#[115, 104, 97, 50, 53, 54, 58]⟩ : ByteArray)[2]'h).toNat = 97 := rfl
theorem sch3 (h) : ((⟨#[115, 104, 97, 50, 53, 54, 58]⟩ : ByteArray)[3]'h).toNat = 50 := rfl
theorem sch4 (h) : ((⟨#[115, 104, 97, 50, 53, 54, 58]⟩ : ByteArray)[4]'h).toNat = 53 := rfl
theorem sch5 (h) : ((⟨#[115, 104, 97, 50, 53, 54, 58]⟩ : ByteArray)[5]'h).toNat = 54 := rfl
theorem sch6 (h) : ((⟨#[115, 104, 97, 50, 53, 54, 58]⟩ : ByteArray)[6]'h).toNat = 58 := rfl
attribute [local go_sem] sch0 sch1 sch2 sch3 sch4 sch5 sch6
/-- a state that is a method of the machine in block g -/
def fm (k : FuncId) (g : Nat) : Value := .func (.func k) #[.pointer (some ⟨g, 0, none⟩)] #[]

set_option maxHeartbeats 2000000 in
theorem scheme_yes (g : Nat) (id : List UInt8) (k : Nat) (hk : k < 7) (x : UInt8) (hx : schemeL[k]? = some x) (w : World) (hl : id.length = 32) (hb : Blk w g 37 (dcells id k 0)) :
    Calls Tryd.prog 15 #[.pointer (some ⟨g, 0, none⟩), .int .i32 (x.toNat : Int)] w
      fun e w' => e = .returned (fm (if k < 6 then 15 else 26) g) ∧ w.grownBy w' (some g) ∧ Blk w' g 37 (dcells id (k + 1) 0) := by
  have c32 := hb.cell 32 (dc_begun hl)
  have f32 := hb.frozen 32
  have h2 := hb.set_ 32 (.int .i64 ((k + 1 : Nat) : Int))
  rw [dc_set_begun hl] at h2
  have gx := grown_setCell w g 32 (.int .i64 ((k + 1 : Nat) : Int))
  clear hb hl
  obtain rfl | rfl | rfl | rfl | rfl | rfl | rfl : k = 0 ∨ k = 1 ∨ k = 2 ∨ k = 3 ∨ k = 4 ∨ k = 5 ∨ k = 6 := by omega
  all_goals
    obtain rfl := Option.some.inj hx
    have H2 := hid h2; have GX := hid gx
    clear h2 gx hx hk
    go_enter Tryd.func15, Tryd.ntmps15
    go_wp2_with fail
    go_ret
    exact ⟨rfl, GX.out, H2.out⟩
set_option maxHeartbeats 2000000 in
theorem scheme_no (g : Nat) (id : List UInt8) (k : Nat) (hk : k < 7) (c : Int) (x : Int) (hx : ([115, 104, 97, 50, 53, 54, 58] : List Int)[k]? = some x) (hc : c ≠ x) (w : World) (hl : id.length = 32) (hb : Blk w g 37 (dcells id k 0)) :
    Calls Tryd.prog 15 #[.pointer (some ⟨g, 0, none⟩), .int .i32 c] w fun e w' => e = .returned .nilFunc ∧ w = w' := by
  have c32 := hb.cell 32 (dc_begun hl)
  clear hb hl
  obtain rfl | rfl | rfl | rfl | rfl | rfl | rfl : k = 0 ∨ k = 1 ∨ k = 2 ∨ k = 3 ∨ k = 4 ∨ k = 5 ∨ k = 6 := by omega
  all_goals
    obtain rfl := Option.some.inj hx
    clear hx hk
    have q1 := beq_eq_false_iff_ne.2 hc
    have q2 := bne_iff_ne.2 hc
    clear hc
    go_enter Tryd.func15, Tryd.ntmps15
    go_wp2_with fail
    go_ret
    exact ⟨rfl, rfl⟩

set_option maxHeartbeats 4000000 in
theorem high_yes (g : Nat) (id : List UInt8) (j : Nat) (hj : j < 32) (c : Int) (hc : IsChar c) (hd : 0 ≤ hexv c) (hd2 : hexv c ≤ 15) (w : World) (hl : id.length = 32) (hb : Blk w g 37 (dcells id 7 j)) :
    Calls Tryd.prog 26 #[.pointer (some ⟨g, 0, none⟩), .int .i32 c] w
      fun e w' => e = .returned (fm 38 g) ∧ w.grownBy w' (some g) ∧ Blk w' g 37 (dcells (id.set j (UInt8.ofNat ((hexv c).toNat * 16))) 7 j) := by
  have HD := hid (digit_calls c hc)
  have HQ := hid (isDigit_calls c hc)
  generalize hexv c = d at hd hd2 HD HQ ⊢
  obtain ⟨n, rfl⟩ : ∃ n : Nat, d = (n : Int) := ⟨d.toNat, by omega⟩
  have K := hid hb; have HL := hid hl
  have c33 := hb.cell 33 (dc_bytes hl)
  obtain ⟨x, -, hx⟩ := dc_at (a := 7) (b := j) hl hj
  have HX := hid hx
  have cj := hb.cell j hx
  have fj := hb.frozen j
  have hj0 : (0 : Int) ≤ (j : Int) := by omega
  have hj1 : (j : Int) < 32 := by omega
  have hE : Enters' 37 := enters_of Tryd.func37 (by kernel_rfl) rfl
  have HE := hid hE
  clear hb hl hx hE
  go_enter Tryd.func26, Tryd.ntmps26
  go_wp2_with fail
  go_region_with ((with_reducible (refine (HD.out _).mono ?_)); rintro e w1 ⟨rfl, b1⟩; have K1 := hid (Blk.keep (w := w.drew) K.out b1); have d33 := K1.out.cell 33 (dc_bytes HL.out); have dj := K1.out.cell j HX.out; have gj := K1.out.frozen j)
  all_goals
    go_wp2_with fail
    have gx : w.grownBy w1 (some g) := ⟨b1.os, b1.tape, b1.output, b1.size, fun i hi _ => b1.block i hi⟩
    have hv : (n : Int) * 16 = ((UInt8.ofNat (n * 16)).toNat : Int) := by rw [UInt8.toNat_ofNat']; omega
    rw [hv]
    have k2 := K1.out.set_ j (.int .u8 ((UInt8.ofNat (n * 16)).toNat : Int))
    rw [dc_set_id HL.out hj] at k2
    have gy := gx.trans (grown_setCell w1 g j (.int .u8 ((UInt8.ofNat (n * 16)).toNat : Int)))
    generalize w1.setCell ⟨g, j, none⟩ (.int .u8 ((UInt8.ofNat (n * 16)).toNat : Int)) = w2 at k2 gy ⊢
    have K2 := hid k2; have GY := hid gy
    clear hv k2 gy gx b1 K1 d33 dj gj K c33 cj fj
    refine (pass_calls c 37 (fm 38 g) _ w2 HE.out (HQ.out w2)).mono ?_
    rintro e w3 ⟨rfl, b3⟩
    rw [decide_eq_true hd, show pick true (fm 38 g) = fm 38 g from rfl]
    have K3 := hid (K2.out.keep b3); have GZ := hid (GY.out.trans (grown_of_below b3 _))
    clear b3 K2 GY
    go_wp2_with fail
    go_ret
    exact ⟨rfl, GZ.out, K3.out⟩
set_option maxHeartbeats 4000000 in
theorem high_no (g : Nat) (id : List UInt8) (j : Nat) (hj : j < 32) (c : Int) (hc : IsChar c) (hd : hexv c = -1) (w : World) (hl : id.length = 32) (hb : Blk w g 37 (dcells id 7 j)) :
    Calls Tryd.prog 26 #[.pointer (some ⟨g, 0, none⟩), .int .i32 c] w
      fun e w' => e = .returned .nilFunc ∧ w.grownBy w' (some g) := by
  have HD := hid (digit_calls c hc)
  have HQ := hid (isDigit_calls c hc)
  rw [hd] at HD HQ
  have K := hid hb; have HL := hid hl
  have c33 := hb.cell 33 (dc_bytes hl)
  obtain ⟨x, -, hx⟩ := dc_at (a := 7) (b := j) hl hj
  have HX := hid hx
  have cj := hb.cell j hx
  have fj := hb.frozen j
  have hj0 : (0 : Int) ≤ (j : Int) := by omega
  have hj1 : (j : Int) < 32 := by omega
  have hE : Enters' 37 := enters_of Tryd.func37 (by kernel_rfl) rfl
  have HE := hid hE
  clear hb hl hx hE
  clear hd
  go_enter Tryd.func26, Tryd.ntmps26
  go_wp2_with fail
  go_region_with ((with_reducible (refine (HD.out _).mono ?_)); rintro e w1 ⟨rfl, b1⟩; have K1 := hid (Blk.keep (w := w.drew) K.out b1); have d33 := K1.out.cell 33 (dc_bytes HL.out); have dj := K1.out.cell j HX.out; have gj := K1.out.frozen j)
  all_goals
    go_wp2_with fail
    have gx : w.grownBy w1 (some g) := ⟨b1.os, b1.tape, b1.output, b1.size, fun i hi _ => b1.block i hi⟩
    have gy := gx.trans (grown_setCell w1 g j (.int .u8 240))
    generalize w1.setCell ⟨g, j, none⟩ (.int .u8 240) = w2 at gy ⊢
    have GY := hid gy
    clear gy gx b1 K1 d33 dj gj K c33 cj fj
    refine (pass_calls c 37 (fm 38 g) _ w2 HE.out (HQ.out w2)).mono ?_
    rintro e w3 ⟨rfl, b3⟩
    rw [show pick (decide (0 ≤ (-1 : Int))) (fm 38 g) = .nilFunc from rfl]
    have GZ := hid (GY.out.trans (grown_of_below b3 _))
    clear b3 GY
    go_wp2_with fail
    go_ret
    exact ⟨rfl, GZ.out⟩
end Go.Proofs.YtgbjnndebdmijaaDoor
