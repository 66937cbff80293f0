/- The walk of the chapter's examples. -/
import Derived.Test.YtajojeajibonpaaDoorOwnHas
import Derived.Test.YtajojeajibonpaaDoorAwake2
import Derived.Test.YtajojeajibonpaaDoorNewSet
namespace Go.Proofs.YtajojeajibonpaaDoor
open Go.RowKit Crc

theorem strB_append (l m : List UInt8) : strB l ++ strB m = strB (l ++ m) := by
  apply ByteArray.ext
  simp [strB]
theorem strB_A (l : List UInt8) : strB l ++ ({ data := #[65] } : ByteArray) = strB (l ++ [65]) := strB_append l [65]
theorem strB_0 (l : List UInt8) : strB l ++ ({ data := #[48] } : ByteArray) = strB (l ++ [48]) := strB_append l [48]
def manyA (k : Nat) : List UInt8 := List.replicate k 65
def many0 (k : Nat) : List UInt8 := List.replicate k 48
theorem manyA_next (k : Nat) : manyA k ++ [65] = manyA (k + 1) := by rw [manyA, manyA, List.replicate_succ']
theorem many0_next (k : Nat) : many0 k ++ [48] = many0 (k + 1) := by rw [many0, many0, List.replicate_succ']
theorem strB_ba (l : List UInt8) : ({ data := #[98, 97, 55, 56] } : ByteArray) ++ strB l = strB ([98, 97, 55, 56] ++ l) := strB_append [98, 97, 55, 56] l
theorem read_short : readB [98, 97, 55, 56] = zeroB 32 ∧ readE [98, 97, 55, 56] = 5 := by decide +kernel
theorem read_A : readB (manyA 64) = zeroB 32 ∧ readE (manyA 64) = 5 := by decide +kernel
theorem cut_two : cutE 2 = 0 ∧ textB (cutB (sha abc3) 2) = [98, 97, 55, 56] ++ many0 60 := by rw [abc3, sha_abc]; decide +kernel
theorem has_31 : hasB (sha abc3) 31 = false := by rw [abc3, sha_abc]; decide +kernel
theorem has_32 : hasB (sha abc3) 32 = true := by rw [abc3, sha_abc]; decide +kernel
theorem cut_0 (w : World) : Calls Tryd.prog 17 #[.agg (bcells (sha abc3)), .int .i64 0] w fun e w' => e = .returned (.tuple #[.agg (bcells (zeroB 32)), .int .i64 3]) ∧ Below w.heap.size w w' := own_cut_out (sha abc3) 0 w (by omega)
theorem cut_33 (w : World) : Calls Tryd.prog 17 #[.agg (bcells (sha abc3)), .int .i64 33] w fun e w' => e = .returned (.tuple #[.agg (bcells (zeroB 32)), .int .i64 3]) ∧ Below w.heap.size w w' := own_cut_out (sha abc3) 33 w (by omega)
theorem of_2 (B : Nat) (A : Option Addr) (w : World) (hG : Glob w) (hs : SB w B A 3 abc3) : Calls Tryd.prog 13 #[.slice A 3 3, .int .i64 2] w fun e w' => e = .returned (.tuple #[.agg (bcells (cutB (sha abc3) 2)), .int .i64 0]) ∧ Below w.heap.size w w' := by
  have h := own_of_calls B 3 3 A abc3 2 w hs (Nat.le_refl _) hG (by omega)
  rwa [cut_two.1] at h
theorem read_4 (w : World) : Calls Tryd.prog 19 #[.string { data := #[98, 97, 55, 56] }] w fun e w' => e = .returned (.tuple #[.agg (bcells (zeroB 32)), .int .i64 5]) ∧ Below w.heap.size w w' := by
  have h := own_read_calls [98, 97, 55, 56] w
  rw [read_short.1, read_short.2] at h
  exact h
theorem read_64A (w : World) : Calls Tryd.prog 19 #[.string (strB (manyA 64))] w fun e w' => e = .returned (.tuple #[.agg (bcells (zeroB 32)), .int .i64 5]) ∧ Below w.heap.size w w' := by
  have h := own_read_calls (manyA 64) w
  rwa [read_A.1, read_A.2] at h
theorem cut2_length : (cutB (sha abc3) 2).length = 32 := cutB_length _ _ rfl
theorem text_2 (w : World) : Calls Tryd.prog 23 #[.agg (bcells (cutB (sha abc3) 2))] w fun e w' => e = .returned (.string (strB ([98, 97, 55, 56] ++ many0 60))) ∧ Below w.heap.size w w' := by
  have h := text_calls (cutB (sha abc3) 2) cut2_length w
  rwa [cut_two.2] at h
theorem has_31_calls (w : World) : Calls Tryd.prog 21 #[.agg (bcells (sha abc3)), .int .i64 31] w fun e w' => e = .returned (.bool false) ∧ Below w.heap.size w w' := by
  have h := own_has_calls (sha abc3) 31 w rfl
  rwa [has_31] at h
theorem has_32_calls (w : World) : Calls Tryd.prog 21 #[.agg (bcells (sha abc3)), .int .i64 32] w fun e w' => e = .returned (.bool true) ∧ Below w.heap.size w w' := by
  have h := own_has_calls (sha abc3) 32 w rfl
  rwa [has_32] at h
theorem manyA_size (k : Nat) : (strB (manyA k)).size = k := by show (manyA k).toArray.size = k; simp [manyA]
theorem many0_size (k : Nat) : (strB (many0 k)).size = k := by show (many0 k).toArray.size = k; simp [many0]
attribute [local go_sem] strB_A strB_0 strB_ba

set_option maxHeartbeats 8000000 in
set_option maxRecDepth 100000 in
theorem known_calls (w : World) (hG : Glob w) : Calls Tryd.prog 6 #[] w fun e w' => e = .returned (.bool true) ∧ Below w.heap.size w w' := by
  have hz := (zero_of_info info26).1
  have EC : Hid ((Tryd.prog.info? 26).map (·.size) = some (bcells (sha abc3)).size) := by rw [Hid, bcells_size, sha3_length]; exact (zero_of_info info26).2
  have Hsz : Hid ((bcells (zeroB 32)).size = (bcells (sha abc3)).size) := by rw [Hid, bcells_size, bcells_size, sha3_length]; rfl
  have E2 : Hid ((Tryd.prog.info? 26).map (·.size) = some (bcells (cutB (sha abc3) 2)).size) := by rw [Hid, bcells_size, cut2_length]; exact (zero_of_info info26).2
  have Hs2 : Hid ((bcells (zeroB 32)).size = (bcells (cutB (sha abc3) 2)).size) := by rw [Hid, bcells_size, bcells_size, cut2_length]; rfl
  have E0 : Hid ((Tryd.prog.info? 26).map (·.size) = some (bcells (zeroB 32)).size) := (zero_of_info info26).2
  have HG := hid hG; clear hG
  go_enter Tryd.func6, Tryd.ntmps6
  go_wp2_with fail
  refine upon_text _ 22 5 Tryd.underlying22 Tryd.underlying5 _ abc3 rfl 3 rfl ?_
  intro w1 s1 b1
  have B := hid b1; have G := hid (HG.out.keep b1); have S1 := hid s1
  clear b1 s1 HG
  go_wp2_with fail
  refine (sum_abc _ _ _ G.out S1.out).mono ?_
  rintro _ w2 ⟨rfl, bx⟩
  have B := hid (B.out.trans (bx.mono B.out.size)); have G := hid (G.out.keep bx)
  clear bx S1
  have K := hid (Blk.new w2 26 (bcells (zeroB 32)))
  go_wp2_with ((refine wpList_store_blk rfl 26 _ _ rfl w2.heap.size _ rfl rfl 26 _ K.out EC.out Hsz.out (bcells_oneCell _) ?_); refine Held.go ?_)
  obtain ⟨bx, k1⟩ := new_set w2 26 (bcells (zeroB 32)) (bcells (sha abc3))
  generalize (w2.alloc (.cells (bcells (zeroB 32)) 26)).setRow w2.heap.size (bcells (sha abc3)) = w3 at bx k1 ⊢
  have B := hid (B.out.trans (bx.mono B.out.size)); have G := hid (G.out.keep bx)
  generalize w2.heap.size = g1 at k1 ⊢
  have K1 := hid k1
  clear bx k1 K
  unfold Held
  go_wp2_with fail
  refine upon_text _ 22 5 Tryd.underlying22 Tryd.underlying5 _ abc3 rfl 3 rfl ?_
  intro w4 s4 bx
  have B := hid (B.out.trans (bx.mono B.out.size)); have G := hid (G.out.keep bx); have K1 := hid (K1.out.keep bx); have S4 := hid s4
  clear bx s4
  go_wp2_with fail
  refine (of_2 _ _ _ G.out S4.out).mono ?_
  rintro _ w5 ⟨rfl, bx⟩
  have B := hid (B.out.trans (bx.mono B.out.size)); have G := hid (G.out.keep bx); have K1 := hid (K1.out.keep bx)
  clear bx S4
  have K := hid (Blk.new w5 26 (bcells (zeroB 32)))
  go_wp2_with ((refine wpList_store_blk rfl 26 _ _ rfl w5.heap.size _ rfl rfl 26 _ K.out E2.out Hs2.out (bcells_oneCell _) ?_); refine Held.go ?_)
  obtain ⟨bx, k2⟩ := new_set w5 26 (bcells (zeroB 32)) (bcells (cutB (sha abc3) 2))
  generalize (w5.alloc (.cells (bcells (zeroB 32)) 26)).setRow w5.heap.size (bcells (cutB (sha abc3) 2)) = w6 at bx k2 ⊢
  have B := hid (B.out.trans (bx.mono B.out.size)); have G := hid (G.out.keep bx); have K1 := hid (K1.out.keep bx)
  generalize w5.heap.size = g2 at k2 ⊢
  have K2 := hid k2
  clear bx k2 K
  unfold Held
  go_wp2_with (refine wpList_load_blk rfl 26 _ rfl g1 rfl 26 _ K1.out _ _ Tryd.underlying26 EC.out ?_)
  refine (cut_0 _).mono ?_
  rintro _ w7 ⟨rfl, bx⟩
  have B := hid (B.out.trans (bx.mono B.out.size)); have G := hid (G.out.keep bx); have K1 := hid (K1.out.keep bx); have K2 := hid (K2.out.keep bx)
  clear bx
  have K := hid (Blk.new w7 26 (bcells (zeroB 32)))
  go_wp2_with ((refine wpList_store_blk rfl 26 _ _ rfl w7.heap.size _ rfl rfl 26 _ K.out E0.out rfl (bcells_oneCell _) ?_); refine Held.go ?_)
  obtain ⟨bx, _⟩ := new_set w7 26 (bcells (zeroB 32)) (bcells (zeroB 32))
  generalize (w7.alloc (.cells (bcells (zeroB 32)) 26)).setRow w7.heap.size (bcells (zeroB 32)) = w8 at bx ⊢
  have B := hid (B.out.trans (bx.mono B.out.size)); have G := hid (G.out.keep bx); have K1 := hid (K1.out.keep bx); have K2 := hid (K2.out.keep bx)
  clear bx K
  generalize w7.heap.size = g7
  unfold Held
  go_wp2_with (refine wpList_load_blk rfl 26 _ rfl g1 rfl 26 _ K1.out _ _ Tryd.underlying26 EC.out ?_)
  refine (cut_33 _).mono ?_
  rintro _ w9 ⟨rfl, bx⟩
  have B := hid (B.out.trans (bx.mono B.out.size)); have G := hid (G.out.keep bx); have K1 := hid (K1.out.keep bx); have K2 := hid (K2.out.keep bx)
  clear bx
  have K := hid (Blk.new w9 26 (bcells (zeroB 32)))
  go_wp2_with ((refine wpList_store_blk rfl 26 _ _ rfl w9.heap.size _ rfl rfl 26 _ K.out E0.out rfl (bcells_oneCell _) ?_); refine Held.go ?_)
  obtain ⟨bx, _⟩ := new_set w9 26 (bcells (zeroB 32)) (bcells (zeroB 32))
  generalize (w9.alloc (.cells (bcells (zeroB 32)) 26)).setRow w9.heap.size (bcells (zeroB 32)) = w10 at bx ⊢
  have B := hid (B.out.trans (bx.mono B.out.size)); have G := hid (G.out.keep bx); have K1 := hid (K1.out.keep bx); have K2 := hid (K2.out.keep bx)
  clear bx K
  generalize w9.heap.size = g9
  unfold Held
  go_wp2_with (refine wpList_load_blk rfl 26 _ rfl g1 rfl 26 _ K1.out _ _ Tryd.underlying26 EC.out ?_)
  refine (read_4 _).mono ?_
  rintro _ w11 ⟨rfl, bx⟩
  have B := hid (B.out.trans (bx.mono B.out.size)); have G := hid (G.out.keep bx); have K1 := hid (K1.out.keep bx); have K2 := hid (K2.out.keep bx)
  clear bx
  have K := hid (Blk.new w11 26 (bcells (zeroB 32)))
  go_wp2_with ((refine wpList_store_blk rfl 26 _ _ rfl w11.heap.size _ rfl rfl 26 _ K.out E0.out rfl (bcells_oneCell _) ?_); refine Held.go ?_)
  obtain ⟨bx, _⟩ := new_set w11 26 (bcells (zeroB 32)) (bcells (zeroB 32))
  generalize (w11.alloc (.cells (bcells (zeroB 32)) 26)).setRow w11.heap.size (bcells (zeroB 32)) = w12 at bx ⊢
  have B := hid (B.out.trans (bx.mono B.out.size)); have G := hid (G.out.keep bx); have K1 := hid (K1.out.keep bx); have K2 := hid (K2.out.keep bx)
  clear bx K
  generalize w11.heap.size = g11
  unfold Held
  go_wp2_with fail
  clear hz
  go_loop [10, 11] (fun v i => ∃ k : Nat, k ≤ 64 ∧ i = .int .i64 (k : Int) ∧ v = .string (strB (manyA k))) (fun _ i => 64 - (intOf i).toNat)
  case atStart => exact ⟨0, by omega, rfl, rfl⟩
  case round =>
    obtain ⟨k, hk, rfl, rfl⟩ := hrel
    by_cases hlt : k < 64
    · have q0 : (k : Int) < 64 := by omega
      have hsz : (strB (manyA k)).size ≤ 64 := by rw [manyA_size]; exact hk
      have hnx := hid (manyA_next k)
      go_wp2_with fail
      rw [hnx.out]
      go_round
      case rel => exact ⟨k + 1, by omega, by go_num, rfl⟩
      case measure => simp [intOf]; omega
    · obtain rfl : k = 64 := by omega
      have q0 : ¬ ((64 : Nat) : Int) < 64 := by omega
      have hz := (zero_of_info info26).1
      go_wp2_with fail
      refine (read_64A _).mono ?_
      rintro _ w13 ⟨rfl, bx⟩
      have B := hid (B.out.trans (bx.mono B.out.size)); have G := hid (G.out.keep bx); have K1 := hid (K1.out.keep bx); have K2 := hid (K2.out.keep bx)
      clear bx
      have K := hid (Blk.new w13 26 (bcells (zeroB 32)))
      go_wp2_with ((refine wpList_store_blk rfl 26 _ _ rfl w13.heap.size _ rfl rfl 26 _ K.out E0.out rfl (bcells_oneCell _) ?_); refine Held.go ?_)
      obtain ⟨bx, _⟩ := new_set w13 26 (bcells (zeroB 32)) (bcells (zeroB 32))
      generalize (w13.alloc (.cells (bcells (zeroB 32)) 26)).setRow w13.heap.size (bcells (zeroB 32)) = w14 at bx ⊢
      have B := hid (B.out.trans (bx.mono B.out.size)); have G := hid (G.out.keep bx); have K1 := hid (K1.out.keep bx); have K2 := hid (K2.out.keep bx)
      clear bx K
      generalize w13.heap.size = g13
      unfold Held
      go_wp2_with fail
      clear hz
      go_loop [14, 15] (fun v i => ∃ k : Nat, k ≤ 60 ∧ i = .int .i64 (k : Int) ∧ v = .string (strB (many0 k))) (fun _ i => 60 - (intOf i).toNat)
      case atStart => exact ⟨0, by omega, rfl, rfl⟩
      case round =>
        obtain ⟨k, hk, rfl, rfl⟩ := hrel
        by_cases hlt : k < 60
        · have q0 : (k : Int) < 60 := by omega
          have hsz : (strB (many0 k)).size ≤ 60 := by rw [many0_size]; exact hk
          have hnx := hid (many0_next k)
          go_wp2_with fail
          rw [hnx.out]
          go_round
          case rel => exact ⟨k + 1, by omega, by go_num, rfl⟩
          case measure => simp [intOf]; omega
        · obtain rfl : k = 60 := by omega
          have q0 : ¬ ((60 : Nat) : Int) < 60 := by omega
          have hsz : (strB (many0 60)).size ≤ 60 := by rw [many0_size]; exact Nat.le_refl _
          go_wp2_with fail
          refine (awake_calls _ G.out).mono ?_
          rintro _ w20 ⟨rfl, bx⟩
          have B := hid (B.out.trans (bx.mono B.out.size)); have G := hid (G.out.keep bx); have K1 := hid (K1.out.keep bx); have K2 := hid (K2.out.keep bx)
          clear bx
          try dsimp only
          repeat (first | ((with_reducible refine wpList_load_blk_g ?_ 26 (.tmp 2) ?_ g2 ?_ 26 _ K2.out _ _ Tryd.underlying26 E2.out ?_); exact rfl; exact rfl; exact rfl) | go_values | go_guarded | go_step | go_upon | go_back)
          refine (text_2 _).mono ?_
          rintro _ w21 ⟨rfl, bx⟩
          have B := hid (B.out.trans (bx.mono B.out.size)); have K1 := hid (K1.out.keep bx)
          clear bx
          try dsimp only
          repeat (first | ((with_reducible refine wpList_load_blk_g ?_ 26 (.tmp 1) ?_ g1 ?_ 26 _ K1.out _ _ Tryd.underlying26 EC.out ?_); exact rfl; exact rfl; exact rfl) | go_values | go_guarded | go_step | go_upon | go_back)
          refine (has_31_calls _).mono ?_
          rintro _ w22 ⟨rfl, bx⟩
          have B := hid (B.out.trans (bx.mono B.out.size)); have K1 := hid (K1.out.keep bx)
          clear bx
          try dsimp only
          repeat (first | ((with_reducible refine wpList_load_blk_g ?_ 26 (.tmp 1) ?_ g1 ?_ 26 _ K1.out _ _ Tryd.underlying26 EC.out ?_); exact rfl; exact rfl; exact rfl) | go_values | go_guarded | go_step | go_upon | go_back)
          refine (has_32_calls _).mono ?_
          rintro _ w23 ⟨rfl, bx⟩
          have B := hid (B.out.trans (bx.mono B.out.size))
          clear bx
          go_wp2_with fail
          go_ret
          exact ⟨rfl, B.out⟩
end Go.Proofs.YtajojeajibonpaaDoor
