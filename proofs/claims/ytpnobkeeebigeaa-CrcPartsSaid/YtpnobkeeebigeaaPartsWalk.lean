/- The law CrcParts, walked: true for any bytes, wherever they are cut. -/
import Derived.Test.YtpnobkeeebigeaaKnown
import Derived.Deep.RegionWith
import Derived.Test.YtpnobkeeebigeaaGuard
namespace Go.Proofs.Ytpnobkeeebigeaa
open Go.RowKit Crc

theorem sum_parts (bs : List UInt8) (k m : Nat) (h : bs.length - k = m) : xr (shs (8 * m) (sum (bs.take k))) (sum (bs.drop k)) = sum bs := by
  conv => rhs; rw [← List.take_append_drop k bs]
  rw [sum_join, List.length_drop, h]
theorem more_parts (bs : List UInt8) (k : Nat) : more (sum (bs.take k)) (bs.drop k) = sum bs := by
  conv => rhs; rw [← List.take_append_drop k bs]
  unfold sum; rw [more_append]
theorem sum_noughts (bs : List UInt8) (z : Nat) : xr (shs (8 * z) (sum bs)) (sum (List.replicate z 0)) = sum (bs ++ List.replicate z 0) := by
  rw [sum_join, List.length_replicate]
theorem more_noughts (bs : List UInt8) (z : Nat) : more (sum bs) (List.replicate z 0) = sum (bs ++ List.replicate z 0) := by
  unfold sum; rw [more_append]

theorem parts_long (n c : Nat) (A : Option Addr) (x y : Int) (w : World) (hn : 300 < n) :
    Calls Try.prog 5 #[.slice A n c, .int .i64 x, .int .i64 y] w fun e w' => e = .returned (.bool true) ∧ Below w.heap.size w w' := by
  go_enter Try.func5, Try.ntmps5
  go_wp2_with fail
  refine (known_calls _).mono ?_
  rintro e w8 ⟨rfl, b8⟩
  go_wp2_with fail
  go_ret
  exact ⟨rfl, b8⟩

set_option maxRecDepth 100000 in
theorem parts_walk (B n c : Nat) (A : Option Addr) (bs : List UInt8) (x y : Int) (w : World) (hs : SB w B A n bs) (hn : n ≤ 300) (hc : n ≤ c) :
    Calls Try.prog 5 #[.slice A n c, .int .i64 x, .int .i64 y] w fun e w' => e = .returned (.bool true) ∧ Below w.heap.size w w' := by
  go_enter Try.func5, Try.ntmps5
  go_wp2_with fail
  refine (known_calls _).mono ?_
  rintro e w1 ⟨rfl, b1⟩
  have B1 := hid b1; clear b1
  go_wp2_with fail
  refine (pick_calls x ((n : Int) + 1) _ (by omega) (by omega)).mono ?_
  rintro e w' ⟨rfl, rfl⟩
  obtain ⟨k, hk, hkn⟩ : ∃ k : Nat, x % ((n : Int) + 1) = (k : Int) ∧ k ≤ n := by
    have h1 := Int.emod_nonneg x (show (n : Int) + 1 ≠ 0 by omega)
    have h2 := Int.emod_lt_of_pos x (show (0 : Int) < (n : Int) + 1 by omega)
    exact ⟨(x % ((n : Int) + 1)).toNat, by omega, by omega⟩
  rw [hk]
  clear hk
  go_wp2_with fail
  refine (pick_calls y 1001 _ (by omega) (by omega)).mono ?_
  rintro e w' ⟨rfl, rfl⟩
  obtain ⟨z, hz, hzn⟩ : ∃ z : Nat, y % 1001 = (z : Int) ∧ z ≤ 1000 := by
    have h1 := Int.emod_nonneg y (show (1001 : Int) ≠ 0 by omega)
    have h2 := Int.emod_lt_of_pos y (show (0 : Int) < (1001 : Int) by omega)
    exact ⟨(y % 1001).toNat, by omega, by omega⟩
  rw [hz]
  clear hz
  go_wp2_with fail
  have st := (hs.keep B1.out).take k hkn
  have sd := (hs.keep B1.out).drop hkn hc
  generalize hA2 : (if c = k then A else A.map (·.add k)) = A2 at sd
  have hkc : k ≤ c := by omega
  have hkn' : (k : Int) ≤ (n : Int) := by omega
  have hk0 : (0 : Int) ≤ (k : Int) := by omega
  go_region_with (first
    | (go_at_call_of 17 (Value.slice A k c)
       refine (sum_calls B k c A (bs.take k) _ ?_ (by omega)).mono ?_
       (first | exact st.drew | exact stb)
       rintro e wa ⟨rfl, ba⟩
       (try have sda := sd.drew.keep ba))
    | (go_at_call_of 17 (Value.slice A2 (n - k) (c - k))
       refine (sum_calls B (n - k) (c - k) A2 (bs.drop k) _ ?_ (by omega)).mono ?_
       (first | exact sd.drew | exact sda)
       rintro e wb ⟨rfl, bb⟩
       (try have stb := st.drew.keep bb)))
  have B3 := hid ((B1.out.drew.trans (ba.mono B1.out.size)).trans (bb.mono (Nat.le_trans B1.out.size ba.size)))
  have sd3 := sda.keep bb
  clear ba bb sda sd st B1
  go_wp2_with fail
  rw [show (n : Int) - (k : Int) = ((n - k : Nat) : Int) by omega]
  refine (join_calls (sum (bs.take k)) (sum (bs.drop k)) (n - k) _ (by omega)).mono ?_
  rw [sum_parts bs k (n - k) (by rw [hs.1])]
  rintro e w4 ⟨rfl, b4⟩
  have B4 := hid (B3.out.trans (b4.mono B3.out.size))
  have sd4 := sd3.keep b4
  clear b4 sd3 B3
  go_wp2_with (at_make; refine Held.go ?_)
  refine wpList_zeros_bytes _ rfl _ _ _ rfl 5 Try.underlying22 info5 _ z rfl rfl rfl (by omega) ?_
  intro w5 o5 b5
  have B5 := hid (B4.out.trans (b5.mono B4.out.size))
  have sd5 := sd4.keep b5
  obtain ⟨A5, c5, e5, _, s5, _⟩ := o5.sb
  rw [e5]
  clear o5 e5 b5 sd4 B4
  go_wp2_with fail
  refine (sum_calls B n c A bs _ (hs.keep B5.out) (by omega)).mono ?_
  rintro e w6 ⟨rfl, b6⟩
  have B6 := hid (B5.out.trans (b6.mono B5.out.size))
  have sd6 := sd5.keep b6
  have s6 := s5.keep b6
  clear b6 sd5 s5 B5
  go_wp2_with fail
  refine (sum_calls _ z c5 A5 (List.replicate z 0) _ s6 (by omega)).mono ?_
  rintro e w7 ⟨rfl, b7⟩
  have B7 := hid (B6.out.trans (b7.mono B6.out.size))
  have sd7 := sd6.keep b7
  have s7 := s6.keep b7
  clear b7 sd6 s6 B6
  go_wp2_with fail
  refine (join_calls (sum bs) (sum (List.replicate z 0)) z _ (by omega)).mono ?_
  rw [sum_noughts]
  rintro e w8 ⟨rfl, b8⟩
  have B8 := hid (B7.out.trans (b8.mono B7.out.size))
  have sd8 := sd7.keep b8
  have s8 := s7.keep b8
  clear b8 sd7 s7 B7
  go_wp2_with fail
  refine (sum_calls B n c A bs _ (hs.keep B8.out) (by omega)).mono ?_
  rintro e w9 ⟨rfl, b9⟩
  have B9 := hid (B8.out.trans (b9.mono B8.out.size))
  have sd9 := sd8.keep b9
  have s9 := s8.keep b9
  clear b9 sd8 s8 B8
  go_wp2_with fail
  refine (more_calls (sum (bs.take k)) B (n - k) (c - k) A2 (bs.drop k) _ sd9 (by omega)).mono ?_
  rw [more_parts]
  rintro e w10 ⟨rfl, b10⟩
  have B10 := hid (B9.out.trans (b10.mono B9.out.size))
  have s10 := (s9.keep b10).fit
  clear b10 sd9 s9 B9
  go_wp2_with fail
  refine (copyBytes_calls B n c A bs _ (hs.keep B10.out) (by omega)).mono ?_
  rintro e w11 ⟨v11, rfl, o11, b11⟩
  have B11 := hid (B10.out.trans (b11.mono B10.out.size))
  have s11 := s10.keep b11
  have Z11 := hid b11.size; have Z10 := hid B10.out.size
  clear b11 s10
  go_wp2_with (at_builtin; refine Held.go ?_)
  refine wpList_append_bytes_g _ rfl _ _ _ rfl 5 Try.underlying22 info5 w10.heap.size _ n bs rfl o11 w11.heap.size A5 z c5 (List.replicate z 0) rfl s11.fit (by omega) Z11.out ?_
  intro v12 w12 o12 g12 _
  have B12 := hid (B11.out.trans (below_of_grown g12 B11.out.size (fun g e => Nat.le_trans Z10.out (o11.block g e).1)))
  have s12 := s11.grown g12 (fun g e => (o11.block g e).1)
  obtain ⟨A12, c12, rfl, _, so12, _⟩ := o12.sb
  clear o12 g12 o11 s11 B11 B10
  go_wp2_with fail
  refine (sum_calls _ (n + z) c12 A12 (bs ++ List.replicate z 0) _ so12 (by omega)).mono ?_
  rintro e w13 ⟨rfl, b13⟩
  have B13 := hid (B12.out.trans (b13.mono B12.out.size))
  have s13 := s12.keep b13
  clear b13 s12 so12 B12
  go_wp2_with fail
  refine (more_calls (sum bs) _ z c5 A5 (List.replicate z 0) _ s13 (by omega)).mono ?_
  rw [more_noughts]
  rintro e w14 ⟨rfl, b14⟩
  have B14 := hid (B13.out.trans (b14.mono B13.out.size))
  clear b14 s13 B13
  go_wp2_with fail
  go_ret
  exact ⟨rfl, B14.out⟩

theorem parts_all (B n c : Nat) (A : Option Addr) (bs : List UInt8) (x y : Int) (w : World) (hs : SB w B A n bs) (hc : n ≤ c) :
    Calls Try.prog 5 #[.slice A n c, .int .i64 x, .int .i64 y] w fun e w' => e = .returned (.bool true) ∧ Below w.heap.size w w' := by
  rcases Nat.lt_or_ge 300 n with h | h
  · exact parts_long n c A x y w h
  · exact parts_walk B n c A bs x y w hs h hc
end Go.Proofs.Ytpnobkeeebigeaa
