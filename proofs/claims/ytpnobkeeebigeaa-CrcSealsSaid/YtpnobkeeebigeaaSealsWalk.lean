/- The law CrcSeals, walked: true for any bytes. -/
import Derived.Test.YtpnobkeeebigeaaRefOpen
import Derived.Test.YtpnobkeeebigeaaKept
import Derived.Test.YtpnobkeeebigeaaKnown
namespace Go.Proofs.Ytpnobkeeebigeaa
open Go.RowKit Crc

theorem awake_long (n c : Nat) (A : Option Addr) (w : World) (hn : 500 < n) :
    Calls Try.prog 3 #[.slice A n c] w fun e w' => e = .returned (.bool true) ∧ Below w.heap.size w w' := by
  go_enter Try.func3, Try.ntmps3
  go_wp2_with fail
  refine (awake_calls _).mono ?_
  rintro e w8 ⟨rfl, b8⟩
  go_wp2_with fail
  go_ret
  exact ⟨rfl, b8⟩

set_option maxRecDepth 20000 in
theorem seals_walk (B n c : Nat) (A : Option Addr) (bs : List UInt8) (w : World) (hs : SB w B A n bs) (hn : n ≤ 500) (hc : n ≤ c) :
    Calls Try.prog 3 #[.slice A n c] w fun e w' => e = .returned (.bool true) ∧ Below w.heap.size w w' := by
  go_enter Try.func3, Try.ntmps3
  go_wp2_with fail
  refine (lentBytes_calls B n c A bs _ hs (by omega)).mono ?_
  rintro e w1 ⟨A1, c1, rfl, hc1, s1, b1⟩
  have l1 : SB w1 w1.heap.size A1 n bs := by
    have h := s1.take n (by omega)
    have hl := hs.1
    rwa [List.take_append_of_le_length (by omega), List.take_of_length_le (by omega)] at h
  go_wp2_with fail
  refine (seal_calls _ n c1 A1 bs _ l1 (by omega)).mono ?_
  rintro e w2 ⟨v2, rfl, o2, b2⟩
  obtain ⟨A2, c2, rfl, _, s2, _⟩ := o2.sb
  have L2 := hid o2.block
  have O2 := hid o2; clear o2
  have B2 := hid (b1.trans (b2.mono b1.size))
  have l2 := l1.keep b2
  have B12 := hid b2; have Z1 := hid b1.size; have Z2 := hid b2.size; clear b1 b2
  go_wp2_with fail
  refine (open_calls _ n c1 A1 bs _ l2 (by omega) (by omega)).mono ?_
  rintro e w3 ⟨b3, v3, rfl, o3⟩
  obtain ⟨A3, c3, rfl, _, s3, _⟩ := o3.sb
  have L3 := hid o3.block
  have O3 := hid o3; clear o3
  have B3 := hid (B2.out.trans (b3.mono B2.out.size))
  have B13 := hid (B12.out.trans (b3.mono B12.out.size))
  have O2' := hid (O2.out.keep b3); clear O2
  clear b3 s2
  go_wp2_with fail
  refine (refOpen_calls B n c A bs _ (hs.keep B3.out) (by omega) hc).mono ?_
  rintro e w4 ⟨b4, v4, rfl, o4⟩
  obtain ⟨A4, c4, rfl, _, s4, _⟩ := o4.sb
  have B4 := hid (B3.out.trans (b4.mono B3.out.size))
  have B14 := hid (B13.out.trans (b4.mono B13.out.size))
  have O2'' := hid (O2'.out.keep b4); clear O2'
  have O3' := hid (O3.out.keep b4); clear O3
  clear b4 o4
  go_wp2_with fail
  refine (refSeal_calls B n c A bs _ (hs.keep B4.out) (by omega)).mono ?_
  rintro e w5 ⟨v5, rfl, o5, b5⟩
  obtain ⟨A5, c5, rfl, _, s5, _⟩ := o5.sb
  have B5 := hid (B4.out.trans (b5.mono B4.out.size))
  have B15 := hid (B14.out.trans (b5.mono B14.out.size))
  have O2 := hid (O2''.out.keep b5); clear O2''
  have O3 := hid (O3'.out.keep b5); clear O3'
  have s45 := s4.keep b5
  clear b5 o5 s4 s3
  obtain ⟨_, _, e2, _, s2, _⟩ := O2.out.sb
  injection e2 with e2 _ e2'
  subst e2 e2'
  obtain ⟨_, _, e3, _, s3, _⟩ := O3.out.sb
  injection e3 with e3 _ e3'
  subst e3 e3'
  have hm3 : (openB bs).length ≤ n := by have h := openB_le bs; have := hs.1; omega
  generalize (openB bs).length = m3 at *
  go_wp2_with fail
  refine (same_true _ _ _ _ _ _ _ _ _ _ _ rfl s2 s5).mono ?_
  rintro e w' ⟨rfl, rfl⟩
  go_wp2_with fail
  refine (same_true _ _ _ _ _ _ _ _ _ _ _ rfl s3 s45).mono ?_
  rintro e w' ⟨rfl, rfl⟩
  clear s2 s5 s3 s45
  go_wp2_with fail
  refine (overBytes_calls _ (n + 4) c2 A2 _ _ O2.out (by omega)).mono ?_
  rintro e w6 ⟨rfl, g6⟩
  have G6 := hid g6; clear g6
  have Z5 := hid (B15.out.size)
  have B6 := hid (B5.out.trans (below_of_grown G6.out B5.out.size (fun g e => Nat.le_trans Z1.out (L2.out g e).1)))
  have B16 := hid (B15.out.trans (below_of_grown G6.out B15.out.size (fun g e => (L2.out g e).1)))
  have O3' := hid (O3.out.kept G6.out (by
    rcases hv : (Value.slice A3 m3 c3).ownBlock with _ | g3
    · exact .inl rfl
    · refine .inr (fun e => ?_)
      have h3 := (L3.out g3 hv).1
      have h2 := (L2.out g3 e.symm).2
      omega))
  clear O3 O2
  go_wp2_with fail
  refine (overBytes_calls _ m3 c3 A3 _ _ O3'.out (by omega)).mono ?_
  rintro e w7 ⟨rfl, g7⟩
  have B7 := hid (B6.out.trans (below_of_grown g7 B6.out.size (fun g e => Nat.le_trans (Nat.le_trans Z1.out Z2.out) (L3.out g e).1)))
  have B17 := hid (B16.out.trans (below_of_grown g7 B16.out.size (fun g e => Nat.le_trans Z2.out (L3.out g e).1)))
  clear g7 O3'
  go_wp2_with fail
  refine (keptBytes_calls _ n c1 _ c A1 A bs _ (s1.keepB B17.out) (hs.keep B7.out) (by omega) hc1).mono ?_
  rintro e w8 ⟨rfl, b8⟩
  have B8 := hid (B7.out.trans (b8.mono B7.out.size)); clear b8
  go_wp2_with fail
  refine (awake_calls _).mono ?_
  rintro e w9 ⟨rfl, b9⟩
  have B9 := hid (B8.out.trans (b9.mono B8.out.size)); clear b9
  go_wp2_with fail
  go_ret
  exact ⟨rfl, B9.out⟩

theorem seals_all (B n c : Nat) (A : Option Addr) (bs : List UInt8) (w : World) (hs : SB w B A n bs) (hc : n ≤ c) :
    Calls Try.prog 3 #[.slice A n c] w fun e w' => e = .returned (.bool true) ∧ Below w.heap.size w w' := by
  rcases Nat.lt_or_ge 500 n with h | h
  · exact awake_long n c A w h
  · exact seals_walk B n c A bs w hs h hc
end Go.Proofs.Ytpnobkeeebigeaa
