/- Contract: the law CrcKnown: true. -/
import Derived.Test.YtpnobkeeebigeaaAwake
import Derived.Test.YtpnobkeeebigeaaMatJoin
namespace Go.Proofs.Ytpnobkeeebigeaa
open Go.RowKit Crc

theorem Own.sb_some {w : World} {base : Nat} {e : TypeId} {v : Value} {n : Nat} {bs : List UInt8} (h : Own w base e v n bs) (hn : 0 < n) :
    ∃ g c, v = .slice (some ⟨g, 0, none⟩) n c ∧ n ≤ c ∧ base ≤ g ∧ SB w (g + 1) (some ⟨g, 0, none⟩) n bs := by
  obtain ⟨g, c, rfl, hb, hlt⟩ := World.ownsRow.form h hn
  obtain ⟨A, c', e', hc, hs, _⟩ := h.sb
  injection e' with e1 _ e2
  subst e1 e2
  refine ⟨g, c, rfl, hc, hb, hs.1, fun hn => ?_⟩
  obtain ⟨b, off, eb, _, hx⟩ := hs.2 hn
  injection eb with eb
  injection eb with e1 e2
  subst e1 e2
  exact ⟨g, 0, rfl, Nat.lt_succ_self _, hx⟩

theorem join_known : ((xr (shs (8 * 5) (sum d14)) (sum d59)).toNat : Int) = 3421780262 := by unfold d14 d59; decide +kernel
theorem sealed_19 : (sealed d19).drop 9 = [0x26, 0x39, 0xf4, 0xcb] := by unfold d19; decide +kernel
theorem sealed_0 : sealed [] = [0, 0, 0, 0] := by decide +kernel

theorem join_five (a b : R) (w : World) :
    Calls Try.prog 16 #[.int .u32 (a.toNat : Int), .int .u32 (b.toNat : Int), .int .i64 5] w
      fun e w' => e = .returned (.tuple #[.int .u32 ((xr (shs (8 * 5) a) b).toNat : Int), .int .i64 0]) ∧ Below w.heap.size w w' := join_calls a b 5 w (by omega)
theorem join_minus (w : World) :
    Calls Try.prog 16 #[.int .u32 0, .int .u32 0, .int .i64 (-1)] w
      fun e w' => e = .returned (.tuple #[.int .u32 0, .int .i64 3]) ∧ w = w' := join_low 0#32 0#32 (-1) w (by omega)
theorem sum_nil (w : World) : Calls Try.prog 17 #[.slice none 0 0] w fun e w' => e = .returned (.int .u32 0) ∧ Below w.heap.size w w' := by
  have h := sum_calls 0 0 0 none [] w (SB.nil _ _ _) (by omega)
  rwa [show ((sum []).toNat : Int) = 0 by decide +kernel] at h
theorem same_true (B n c B' n' c' : Nat) (A A' : Option Addr) (xs bs : List UInt8) (w : World) (h : xs = bs) (ha : SB w B A n xs) (hb : SB w B' A' n' bs) :
    Calls Try.prog 12 #[.slice A n c, .slice A' n' c'] w fun e w' => e = .returned (.bool true) ∧ w = w' := by
  have := sameBytes_calls B n c B' n' c' A A' xs bs w ha hb
  rwa [beq_iff_eq.2 h] at this

set_option maxRecDepth 20000 in
theorem known_calls (w : World) : Calls Try.prog 4 #[] w fun e w' => e = .returned (.bool true) ∧ Below w.heap.size w w' := by
  have e1 : (((xr (shs (8 * 5) (sum d14)) (sum d59)).toNat : Int) == 3421780262) = true := by rw [join_known]; rfl
  have E1 := hid e1; clear e1
  go_enter Try.func4, Try.ntmps4
  go_wp2_with fail
  refine upon_text w 22 5 Try.underlying22 Try.underlying5 _ d14 rfl 4 rfl ?_
  intro w1 s1 b1
  go_wp2_with fail
  refine (sum_calls _ 4 4 _ d14 _ s1 (by omega)).mono ?_
  rintro e w2 ⟨rfl, b2⟩
  have B2 := hid (b1.trans (b2.mono b1.size)); clear b1 b2 s1
  go_wp2_with fail
  refine upon_text w2 22 5 Try.underlying22 Try.underlying5 _ d59 rfl 5 rfl ?_
  intro w3 s3 b3
  go_wp2_with fail
  refine (sum_calls _ 5 5 _ d59 _ s3 (by omega)).mono ?_
  rintro e w4 ⟨rfl, b4⟩
  have B4 := hid (B2.out.trans ((b3.trans (b4.mono b3.size)).mono B2.out.size)); clear b3 b4 s3 B2
  go_wp2_with fail
  refine (join_five _ _ _).mono ?_
  rintro e w5 ⟨rfl, b5⟩
  have B5 := hid (B4.out.trans (b5.mono B4.out.size)); clear b5 B4
  have e1 := E1.out
  generalize ((xr (shs (8 * 5) (sum d14)) (sum d59)).toNat : Int) = x1 at e1 ⊢
  go_wp2_with fail
  refine (join_minus _).mono ?_
  rintro e w' ⟨rfl, rfl⟩
  go_wp2_with fail
  refine upon_text w5 22 5 Try.underlying22 Try.underlying5 _ d19 rfl 9 rfl ?_
  intro w6 s6 b6
  go_wp2_with fail
  refine (seal_calls _ 9 9 _ d19 _ s6 (by omega)).mono ?_
  rintro e w7 ⟨v7, rfl, o7, b7⟩
  have B7 := hid (B5.out.trans ((b6.trans (b7.mono b6.size)).mono B5.out.size)); clear b6 b7 s6 B5
  obtain ⟨g7, c7, rfl, hc7, _, s7⟩ := o7.sb_some (by omega)
  clear o7
  simp only [Nat.reduceAdd] at hc7 s7 ⊢
  go_wp2_with fail
  refine (awake_calls _).mono ?_
  rintro e w8 ⟨rfl, b8⟩
  have s8 := s7.keep b8
  have B8 := hid (B7.out.trans (b8.mono B7.out.size)); clear b8 B7 s7
  go_wp2_with fail
  refine (sum_nil _).mono ?_
  rintro e w9 ⟨rfl, b9⟩
  have s9 := s8.keep b9
  have B9 := hid (B8.out.trans (b9.mono B8.out.size)); clear b9 B8 s8
  have hn : ¬ c7 = 9 := by omega
  have h9 : 9 ≤ c7 := by omega
  go_wp2_with fail
  have s10 : SB w9 (g7 + 1) (some ⟨g7, 9, none⟩) 4 [0x26, 0x39, 0xf4, 0xcb] := by
    have h := s9.drop (k := 9) (c := c7) (by omega) hc7
    rw [if_neg hn, sealed_19] at h
    simpa [Addr.add_lit] using h
  refine (same_true _ 4 _ _ 4 4 _ _ _ _ _ rfl (s10.keep (below_new w9 _)) (lit_sb w9 5 [0x26, 0x39, 0xf4, 0xcb] #[.int .u8 38, .int .u8 57, .int .u8 244, .int .u8 203] 4 rfl rfl)).mono ?_
  rintro e w' ⟨rfl, rfl⟩
  clear s9 s10 hn h9
  have B10 := hid (B9.out.trans ((below_new w9 (.cells #[.int .u8 38, .int .u8 57, .int .u8 244, .int .u8 203] 5)).mono B9.out.size)); clear B9
  generalize w9.alloc (.cells #[.int .u8 38, .int .u8 57, .int .u8 244, .int .u8 203] 5) = w10 at B10 ⊢
  go_wp2_with fail
  refine (seal_calls 0 0 0 none [] _ (SB.nil _ _ _) (by omega)).mono ?_
  rintro e w11 ⟨v11, rfl, o11, b11⟩
  have B11 := hid (B10.out.trans (b11.mono B10.out.size)); clear b11 B10
  obtain ⟨g11, c11, rfl, _, _, s11⟩ := o11.sb_some (by omega)
  clear o11
  simp only [Nat.reduceAdd] at s11 ⊢
  go_wp2_with fail
  refine (same_true _ 4 _ _ 4 4 _ _ _ _ _ sealed_0 (s11.keep (below_new w11 _)) (lit_sb w11 5 [0, 0, 0, 0] #[.int .u8 0, .int .u8 0, .int .u8 0, .int .u8 0] 4 rfl rfl)).mono ?_
  rintro e w' ⟨rfl, rfl⟩
  clear s11
  have B12 := hid (B11.out.trans ((below_new w11 (.cells #[.int .u8 0, .int .u8 0, .int .u8 0, .int .u8 0] 5)).mono B11.out.size)); clear B11
  generalize w11.alloc (.cells #[.int .u8 0, .int .u8 0, .int .u8 0, .int .u8 0] 5) = w12 at B12 ⊢
  go_wp2_with fail
  refine (opens_true _ 4 4 _ 0 0 _ none [0, 0, 0, 1] [] 5 _ (by decide +kernel) (lit_sb w12 5 [0, 0, 0, 1] _ 4 rfl rfl) (SB.nil _ 0 _) (by omega) (by omega)).mono ?_
  rintro e w13 ⟨rfl, b13⟩
  have B13 := hid (B12.out.trans (((below_new w12 _).trans (b13.mono (by rw [size_new]; omega))).mono B12.out.size)); clear b13 B12
  go_wp2_with fail
  go_ret
  exact ⟨rfl, B13.out⟩
end Go.Proofs.Ytpnobkeeebigeaa
