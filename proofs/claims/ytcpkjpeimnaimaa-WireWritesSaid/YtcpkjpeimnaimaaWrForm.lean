/- Contracts: the laws' own helpers: form, fails. -/
import Derived.Test.YtcpkjpeimnaimaaWrOwnR2
namespace Go.Proofs.Ytcpkjpeimnaimaa
open Go.RowKit

theorem sameBytes_calls (B n c B' n' c' : Nat) (A A' : Option Addr) (xs bs : List UInt8) (w : World) (ha : SB w B A n xs) (hb : SB w B' A' n' bs) :
    Calls Try.prog 31 #[.slice A n c, .slice A' n' c'] w fun e w' => e = .returned (.bool (xs == bs)) ∧ w = w' := by
  have h1 := run_str (P := Try.prog) ha c 31 9 5 Try.underlying31 Try.underlying5 Try.underlying9
  have h2 := run_str (P := Try.prog) hb c' 31 9 5 Try.underlying31 Try.underlying5 Try.underlying9
  go_enter Try.func31, Try.ntmps31
  go_wp2_with fail
  go_ret
  exact ⟨ret_bool (strB_eq xs bs), rfl⟩
theorem putW_num (lim n : Nat) (h : encSize n ≤ lim) : putW lim ⟨[], 0⟩ [numI (n : Int)] = ⟨enc n, 0⟩ := by
  have h1 : numI (n : Int) = some (enc n) := by unfold numI; rw [if_neg (by omega), Int.toNat_natCast]
  have h2 : flat [some (enc n)] = enc n := by simp [flat]
  rw [h1, putW, if_neg (by simp), if_neg (by simp [anyNeg]), h2, if_neg (by rw [enc_length]; simp; omega)]
  rfl
theorem numS_whole (n : Nat) (hn : n < 9223372036854775808) : numS (enc n) maxI 0 (.ok 0) = (n, .ok (enc n).length) := by
  have hd := dec_enc n hn []
  rw [List.append_nil] at hd
  have h0 : numS0 (enc n) 0 = (n, .ok (enc n).length) := by
    unfold numS0
    rw [List.drop_zero, hd, if_pos rfl, Nat.zero_add, enc_length]
  show limS 0 maxI 0 (numS0 (enc n) 0) = _
  rw [h0]
  exact if_neg (by simp [maxI]; omega)
set_option maxHeartbeats 2000000 in
set_option maxRecDepth 20000 in
theorem form_calls (n B m c : Nat) (hn : n < 9223372036854775808) (A : Option Addr) (w : World) (hs : SB w B A m (enc n)) :
    Calls Try.prog 55 #[.int .i64 (n : Int), .slice A m c] w fun e w' => e = .returned (.bool true) ∧ Below w.heap.size w w' := by
  have hes := encSize_le (n := n) (by omega)
  have hm : m ≤ 9 := by rw [← hs.1, enc_length]; exact hes.2
  have HPW := hid (putW_num 20 n (by omega))
  have HNS := hid (numS_whole n hn)
  have HS := hid hs
  clear hs hes
  go_enter Try.func55, Try.ntmps55
  go_wp2_with fail
  refine (newWriter_calls 20 w (by omega)).mono ?_
  rintro _ w1 ⟨g, f, rfl, hw, hg, hf, b1⟩
  have HW := hid (hw w.heap.size (Nat.le_refl _)); have B1 := hid b1
  have hgf : ∀ b ∈ fpw g f none, b < w1.heap.size ∧ w.heap.size ≤ b := fun b hb => ⟨(HW.out.fp_lt b hb).2, (HW.out.fp_lt b hb).1⟩
  have HGF := hid hgf
  clear hgf
  clear hw b1
  go_wp2_with fail
  refine (newReader_calls B m c A (enc n) w1 (HS.out.keep B1.out) (by omega)).mono ?_
  rintro _ w2 ⟨g2, f2, r2, rfl, hr, b2⟩
  have B2 := hid (B1.out.trans (b2.mono B1.out.size))
  have HW2 := hid (HW.out.keep b2)
  have HR := hid hr
  clear b2 hr HW
  go_wp2_with fail
  refine (wNum_calls w.heap.size g f none 20 ⟨[], 0⟩ w2 (n : Int) (by omega) HW2.out).mono ?_
  rintro _ w3 ⟨rfl, r3, h3, k3, m3⟩
  rw [HPW.out] at h3 ⊢
  have HR3 := hid (HR.out.chg k3 (fun b hb hm => by have := HR.out.fp_lt b hb; have := HGF.out b hm; omega))
  have B3 := hid (B2.out.trans (k3.below (fun b hb => (HGF.out b hb).2) B2.out.size))
  have H3 := hid h3
  clear h3 k3 m3 HW2 HR
  go_wp2_with fail
  refine (wDone_open w.heap.size g f r3 20 ⟨enc n, 0⟩ w3 H3.out rfl).mono ?_
  rintro _ w4 ⟨v, rfl, h4, b4⟩
  obtain ⟨A4, c4, e4, _, s4, _⟩ := h4.sb
  have B4 := hid (B3.out.trans (b4.mono B3.out.size))
  have HR4 := hid (HR3.out.keep b4)
  have S4 := hid s4
  subst e4
  clear h4 b4 s4 HR3 H3
  go_wp2_with fail
  refine (sameBytes_calls _ _ c4 B m c A4 A (enc n) (enc n) w4 S4.out (HS.out.keep B4.out)).mono ?_
  rintro _ _ ⟨rfl, rfl⟩
  rw [beq_self_eq_true]
  go_wp2_with fail
  refine (rNum_calls w1.heap.size g2 f2 r2 (enc n) (.ok 0) w4 HR4.out).mono ?_
  rintro _ w5 ⟨rfl, h5, k5⟩
  rw [HNS.out] at h5 ⊢
  have H5 := hid h5
  have B5 := hid (B4.out.trans (k5.below (fun b hb => by
    have h1 := (HR4.out.fp_lt g2 (by rw [mem_fpw]; exact .inr (.inl rfl))).1
    have h2 := (HR4.out.fp_lt f2 (by rw [mem_fpw]; exact .inl rfl)).1
    have := B1.out.size
    simp at hb; omega) B4.out.size))
  clear h5 k5 HR4
  go_wp2_with fail
  refine (rEnd_calls w1.heap.size g2 f2 r2 (enc n) _ w5 H5.out).mono ?_
  rintro _ w6 ⟨rfl, b6⟩
  rw [show endS (enc n) (.ok (enc n).length) = (0, 0) from if_neg (Nat.lt_irrefl _)]
  have H6 := hid (H5.out.keep b6)
  have B6 := hid (B5.out.trans (b6.mono B5.out.size))
  clear b6
  go_wp2_with fail
  refine (rest_calls w1.heap.size g2 f2 r2 (enc n) _ w6 H6.out).mono ?_
  rintro _ w7 ⟨rfl, b7, -⟩
  rw [show restS (enc n) (.ok (enc n).length) = 0 from Nat.sub_self _]
  have B7 := hid (B6.out.trans (b7.mono B6.out.size))
  clear b7
  go_wp2_with fail
  go_ret
  exact ⟨rfl, B7.out⟩
set_option maxHeartbeats 1000000 in
set_option maxRecDepth 20000 in
theorem fails0 (B m c : Nat) (A : Option Addr) (bs : List UInt8) (most : Int) (e p : Nat) (w : World) (hs : SB w B A m bs) (hm : m ≤ 549755813888) (hE : endS bs (numS bs maxI 0 (.ok 0)).2 = (e, p)) :
    Calls Try.prog 56 #[.int .i64 0, .int .i64 most, .int .i64 (e : Int), .int .i64 (p : Int), .slice A m c] w fun e' w' => e' = .returned (.bool true) ∧ Below w.heap.size w w' := by
  have HS := hid hs
  have HEE := hid hE
  clear hs hE
  go_enter Try.func56, Try.ntmps56
  go_wp2_with fail
  refine (newReader_calls B m c A bs w HS.out hm).mono ?_
  rintro _ w1 ⟨g, f, r, rfl, hr, b1⟩
  have HR := hid hr; have B1 := hid b1
  clear hr b1
  go_wp2_with fail
  refine (rNum_calls w.heap.size g f r bs (.ok 0) w1  HR.out).mono ?_
  rintro _ w2 ⟨rfl, h2, k2⟩
  have H2 := hid h2
  have B2 := hid (B1.out.trans (k2.below (B := w.heap.size) (fun b hb => by
    have h1 := (HR.out.fp_lt g (by rw [mem_fpw]; exact .inr (.inl rfl))).1
    have h2 := (HR.out.fp_lt f (by rw [mem_fpw]; exact .inl rfl)).1
    simp at hb; omega) B1.out.size))
  clear h2 k2 HR
  go_wp2_with fail
  refine (rEnd_calls w.heap.size g f r bs _ w2 H2.out).mono ?_
  rintro _ w3 ⟨rfl, b3⟩
  rw [HEE.out]
  have B3 := hid (B2.out.trans (b3.mono B2.out.size))
  clear b3
  go_wp2_with fail
  go_ret
  exact ⟨rfl, B3.out⟩
set_option maxHeartbeats 1000000 in
set_option maxRecDepth 20000 in
theorem fails1 (B m c : Nat) (A : Option Addr) (bs : List UInt8) (most : Int) (e p : Nat) (w : World) (hs : SB w B A m bs) (hm : m ≤ 549755813888) (hE : endS bs (sizedS bs most (.ok 0)).2 = (e, p)) :
    Calls Try.prog 56 #[.int .i64 1, .int .i64 most, .int .i64 (e : Int), .int .i64 (p : Int), .slice A m c] w fun e' w' => e' = .returned (.bool true) ∧ Below w.heap.size w w' := by
  have HS := hid hs
  have HEE := hid hE
  clear hs hE
  go_enter Try.func56, Try.ntmps56
  go_wp2_with fail
  refine (newReader_calls B m c A bs w HS.out hm).mono ?_
  rintro _ w1 ⟨g, f, r, rfl, hr, b1⟩
  have HR := hid hr; have B1 := hid b1
  clear hr b1
  go_wp2_with fail
  refine (rText_calls w.heap.size g f r bs (.ok 0) w1 most HR.out).mono ?_
  rintro _ w2 ⟨rfl, h2, k2⟩
  have H2 := hid h2
  have B2 := hid (B1.out.trans (k2.below (B := w.heap.size) (fun b hb => by
    have h1 := (HR.out.fp_lt g (by rw [mem_fpw]; exact .inr (.inl rfl))).1
    have h2 := (HR.out.fp_lt f (by rw [mem_fpw]; exact .inl rfl)).1
    simp at hb; omega) B1.out.size))
  clear h2 k2 HR
  go_wp2_with fail
  refine (rEnd_calls w.heap.size g f r bs _ w2 H2.out).mono ?_
  rintro _ w3 ⟨rfl, b3⟩
  rw [HEE.out]
  have B3 := hid (B2.out.trans (b3.mono B2.out.size))
  clear b3
  go_wp2_with fail
  go_ret
  exact ⟨rfl, B3.out⟩
set_option maxHeartbeats 1000000 in
set_option maxRecDepth 20000 in
theorem fails4 (B m c : Nat) (A : Option Addr) (bs : List UInt8) (most : Int) (e p : Nat) (w : World) (hs : SB w B A m bs) (hm : m ≤ 549755813888) (hE : endS bs (dotS bs (.ok 0)).2 = (e, p)) :
    Calls Try.prog 56 #[.int .i64 4, .int .i64 most, .int .i64 (e : Int), .int .i64 (p : Int), .slice A m c] w fun e' w' => e' = .returned (.bool true) ∧ Below w.heap.size w w' := by
  have HS := hid hs
  have HEE := hid hE
  clear hs hE
  go_enter Try.func56, Try.ntmps56
  go_wp2_with fail
  refine (newReader_calls B m c A bs w HS.out hm).mono ?_
  rintro _ w1 ⟨g, f, r, rfl, hr, b1⟩
  have HR := hid hr; have B1 := hid b1
  clear hr b1
  go_wp2_with fail
  refine (rDot_calls w.heap.size g f r bs (.ok 0) w1  HR.out).mono ?_
  rintro _ w2 ⟨rfl, h2, k2⟩
  have H2 := hid h2
  have B2 := hid (B1.out.trans (k2.below (B := w.heap.size) (fun b hb => by
    have h1 := (HR.out.fp_lt g (by rw [mem_fpw]; exact .inr (.inl rfl))).1
    have h2 := (HR.out.fp_lt f (by rw [mem_fpw]; exact .inl rfl)).1
    simp at hb; omega) B1.out.size))
  clear h2 k2 HR
  go_wp2_with fail
  refine (rEnd_calls w.heap.size g f r bs _ w2 H2.out).mono ?_
  rintro _ w3 ⟨rfl, b3⟩
  rw [HEE.out]
  have B3 := hid (B2.out.trans (b3.mono B2.out.size))
  clear b3
  go_wp2_with fail
  go_ret
  exact ⟨rfl, B3.out⟩
set_option maxHeartbeats 1000000 in
set_option maxRecDepth 20000 in
theorem fails6 (B m c : Nat) (A : Option Addr) (bs : List UInt8) (most : Int) (e p : Nat) (w : World) (hs : SB w B A m bs) (hm : m ≤ 549755813888) (hE : endS bs (numS bs 1 5 (.ok 0)).2 = (e, p)) :
    Calls Try.prog 56 #[.int .i64 6, .int .i64 most, .int .i64 (e : Int), .int .i64 (p : Int), .slice A m c] w fun e' w' => e' = .returned (.bool true) ∧ Below w.heap.size w w' := by
  have HS := hid hs
  have HEE := hid hE
  clear hs hE
  go_enter Try.func56, Try.ntmps56
  go_wp2_with fail
  refine (newReader_calls B m c A bs w HS.out hm).mono ?_
  rintro _ w1 ⟨g, f, r, rfl, hr, b1⟩
  have HR := hid hr; have B1 := hid b1
  clear hr b1
  go_wp2_with fail
  refine (rBool_calls w.heap.size g f r bs (.ok 0) w1  HR.out).mono ?_
  rintro _ w2 ⟨rfl, h2, k2⟩
  have H2 := hid h2
  have B2 := hid (B1.out.trans (k2.below (B := w.heap.size) (fun b hb => by
    have h1 := (HR.out.fp_lt g (by rw [mem_fpw]; exact .inr (.inl rfl))).1
    have h2 := (HR.out.fp_lt f (by rw [mem_fpw]; exact .inl rfl)).1
    simp at hb; omega) B1.out.size))
  clear h2 k2 HR
  go_wp2_with fail
  refine (rEnd_calls w.heap.size g f r bs _ w2 H2.out).mono ?_
  rintro _ w3 ⟨rfl, b3⟩
  rw [HEE.out]
  have B3 := hid (B2.out.trans (b3.mono B2.out.size))
  clear b3
  go_wp2_with fail
  go_ret
  exact ⟨rfl, B3.out⟩
end Go.Proofs.Ytcpkjpeimnaimaa
