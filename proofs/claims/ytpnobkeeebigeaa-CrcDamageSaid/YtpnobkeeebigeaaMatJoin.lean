/- Contracts: zeroBit, passZeros and Join. -/
import Derived.Test.YtpnobkeeebigeaaMatWalk
namespace Go.Proofs.Ytpnobkeeebigeaa
open Go.RowKit Crc
attribute [local go_sem] n_xor n_poly n_not n_not' n_bx n_low n_shr1 n_shr8 n_shr16 n_shr24 n_bxor n_shrk

theorem e1_num (k : Nat) : (2 : Int) ^ k % 4294967296 = ((e1 k).toNat : Int) := by
  unfold e1
  rw [BitVec.toNat_shiftLeft, Nat.shiftLeft_eq]
  simp

set_option maxRecDepth 20000 in
theorem zeroBit_calls (w : World) :
    Calls Try.prog 28 #[] w fun e w' => e = .returned (.agg (mcells (cols 1))) ∧ Below w.heap.size w w' := by
  have Hi : ∀ m : Nat → R, (Try.prog.info? 45).map (·.size) = some (mcells m).size := fun m => by rw [mcells_size]; exact (zero_of_info info45).2
  have HI := hid Hi; clear Hi
  have hz := (zero_of_info info45).1
  have k0 := (Blk.new w 45 (mcells (pcols (cols 0) 0))).alloc (.cells (mcells (pcols (cols 0) 0)) 45)
  have k1 := (Blk.new (w.alloc (.cells (mcells (pcols (cols 0) 0)) 45)) 45 (mcells (pcols (cols 0) 0)))
  rw [size_new] at k1
  have hb : Below w.heap.size w ((w.alloc (.cells (mcells (pcols (cols 0) 0)) 45)).alloc (.cells (mcells (pcols (cols 0) 0)) 45)) :=
    (below_new w _).alloc (by rw [size_new]; omega) _
  have K0 := hid k0; have K1 := hid k1; have HB := hid hb
  clear k0 k1 hb
  go_enter Try.func28, Try.ntmps28
  go_wp2_with fail
  clear hz
  generalize ((w.alloc (.cells (mcells (pcols (cols 0) 0)) 45)).alloc (.cells (mcells (pcols (cols 0) 0)) 45)) = w3 at K0 K1 HB ⊢
  generalize hg : w.heap.size = g at K0 K1 HB ⊢
  have HG := hid hg; clear hg
  go_loopw [3] (fun i wr => ∃ k : Nat, k ≤ 32 ∧ i = .int .i64 (k : Int) ∧ Below g w wr ∧ Blk wr g 45 (mcells (pcols (cols 0) 0)) ∧ Blk wr (g + 1) 45 (mcells (pcols (cols 1) k))) (fun i _ => 32 - (intOf i).toNat)
  case atStart => exact ⟨0, by omega, rfl, HB.out, K0.out, by rw [part_zero, ← part_zero (cols 0)]; exact K1.out⟩
  case round =>
    clear K0 K1 HB
    obtain ⟨k, hk, rfl, hb, k0, k1⟩ := hrel
    by_cases hlt : k < 32
    · have hc := k1.cell k (mcells_at _ k hlt)
      have hf := k1.frozen k
      have HB := hid hb; have K0 := hid k0; have K1 := hid k1; clear hb k0 k1
      go_wp2_with fail
      rw [e1_num k]
      refine (shift_calls _ _).mono ?_
      rintro e w' ⟨rfl, rfl⟩
      have HS := hid (K1.out.set_ k (.int .u32 ((cols 1 k).toNat : Int)))
      go_wp2_with fail
      go_roundw
      case rel =>
        refine ⟨k + 1, by omega, by go_num, below_set HB.out (by omega) _, K0.out.far (by show ¬ g = g + 1; omega) _, ?_⟩
        have := HS.out
        rw [part_next _ k hlt] at this
        exact this
      case measure => simp [intOf]; omega
    · obtain rfl : k = 32 := by omega
      rw [part_full] at k1
      have HB := hid hb; clear hb
      go_wp2_with (first
        | (refine wpList_load_blk rfl 45 _ rfl (g + 1) rfl 45 _ k1 _ _ Try.underlying45 (HI.out _) ?_)
        | (refine wpList_store_blk rfl 45 _ _ rfl g _ rfl rfl 45 _ k0 (HI.out _) ((mcells_size _).trans (mcells_size _).symm) (mcells_oneCell _) ?_))
      refine bodyPost_ret (v := .agg (mcells (cols 1))) (results_cell_row rfl _ _ g 45 _ (0, 0) _ rfl (k0.setRow _) Try.underlying45 rfl (HI.out _)) rfl ⟨rfl, ?_⟩
      rw [HG.out]
      have hsz := k0.lt
      exact HB.out.trans (below_of_grown (grown_setRow wr g _) (by omega) (fun g' e => by cases e; omega))

theorem passZeros_calls (r : R) (n : Nat) (w : World) (hn : n ≤ 1073741824) :
    Calls Try.prog 25 #[.int .u32 (r.toNat : Int), .int .i64 (n : Int)] w fun e w' => e = .returned (.int .u32 ((shs (8 * n) r).toNat : Int)) ∧ Below w.heap.size w w' := by
  have Hi : ∀ m : Nat → R, (Try.prog.info? 45).map (·.size) = some (mcells m).size := fun m => by rw [mcells_size]; exact (zero_of_info info45).2
  have HI := hid Hi; clear Hi
  go_enter Try.func25, Try.ntmps25
  go_wp2_with fail
  refine (zeroBit_calls _).mono ?_
  rintro e w1 ⟨rfl, hb1⟩
  go_wp2_with fail
  refine (squared_calls _ _).mono ?_
  rintro e w2 ⟨rfl, hb2⟩
  go_wp2_with fail
  refine (squared_calls _ _).mono ?_
  rintro e w3 ⟨rfl, hb3⟩
  go_wp2_with fail
  refine (squared_calls _ _).mono ?_
  rintro e w4 ⟨rfl, hb4⟩
  have hb := ((hb1.trans (hb2.mono hb1.size)).trans (hb3.mono (Nat.le_trans hb1.size hb2.size))).trans (hb4.mono (Nat.le_trans (Nat.le_trans hb1.size hb2.size) hb3.size))
  clear hb1 hb2 hb3 hb4
  have hz := (zero_of_info info45).1
  have k0 := Blk.new w4 45 (mcells (pcols (cols 0) 0))
  have hb5 := hid (hb.trans ((below_new w4 (.cells (mcells (pcols (cols 0) 0)) 45)).mono hb.size))
  have Hb := hid hb; clear hb
  go_wp2_with (refine wpList_store_blk rfl 45 _ _ rfl w4.heap.size _ rfl rfl 45 _ k0 (HI.out _) ((mcells_size _).trans (mcells_size _).symm) (mcells_oneCell _) ?_)
  clear hz
  have k1 := k0.setRow (mcells (cols (1 + 1 + (1 + 1) + (1 + 1 + (1 + 1)))))
  have Hb6 := hid (hb5.out.trans (below_of_grown (grown_setRow (w4.alloc (.cells (mcells (pcols (cols 0) 0)) 45)) w4.heap.size (mcells (cols (1 + 1 + (1 + 1) + (1 + 1 + (1 + 1)))))) (by rw [size_new]; have := Hb.out.size; omega) (fun g e => by cases e; exact Hb.out.size)))
  have hle : w.heap.size ≤ w4.heap.size := Hb.out.size
  clear k0 hb5 Hb
  generalize (w4.alloc (.cells (mcells (pcols (cols 0) 0)) 45)).setRow w4.heap.size (mcells (cols (1 + 1 + (1 + 1) + (1 + 1 + (1 + 1))))) = w5 at k1 Hb6 ⊢
  generalize w4.heap.size = g at k1 hle ⊢
  simp only [Act.put]
  go_loopw [0, 1] (fun v i wr => ∃ (c j : Nat) (s : R), j ≤ 1073741824 ∧ v = .int .u32 (s.toNat : Int) ∧ i = .int .i64 (j : Int) ∧ Hid (shs (c * j) s = shs (8 * n) r) ∧ Below w.heap.size w wr ∧ Blk wr g 45 (mcells (cols c))) (fun _ i _ => (intOf i).toNat)
  case atStart => exact ⟨8, n, r, hn, rfl, rfl, hid rfl, Hb6.out, k1⟩
  case round =>
    clear k1 Hb6
    obtain ⟨c, j, s, hj, rfl, rfl, HE, hb, k1⟩ := hrel
    have HB := hid hb; clear hb
    by_cases hlt : 0 < j
    · rcases Nat.mod_two_eq_zero_or_one j with hp | hp
      · have HE' := hid (HE.out.symm.trans (even_step (r := s) (c := c) hp).symm).symm
        have hq : ((j : Int) % 2 == 1) = false := by rw [beq_eq_false_iff_ne]; omega
        clear hp
        go_wp2_with (refine wpList_load_blk rfl 45 _ rfl g rfl 45 _ k1 _ _ Try.underlying45 (HI.out _) ?_)
        refine (squared_calls c _).mono ?_
        rintro e w6 ⟨rfl, hb6⟩
        have k2 := k1.keep hb6
        have HB2 := hid (HB.out.trans (hb6.mono HB.out.size))
        clear hb6
        go_wp2_with (refine wpList_store_blk rfl 45 _ _ rfl g _ rfl rfl 45 _ k2 (HI.out _) ((mcells_size _).trans (mcells_size _).symm) (mcells_oneCell _) ?_)
        go_roundw
        case rel => exact ⟨c + c, j / 2, s, by omega, rfl, by go_num, HE', HB2.out.trans (below_of_grown (grown_setRow w6 g _) HB2.out.size (fun g' e => by cases e; exact hle)), k2.setRow _⟩
        case measure => simp [intOf]; omega
      · have HE' := hid (HE.out.symm.trans (odd_step (r := s) (c := c) hp).symm).symm
        have hq : ((j : Int) % 2 == 1) = true := by rw [beq_iff_eq]; omega
        clear hp
        go_wp2_with (refine wpList_load_blk rfl 45 _ rfl g rfl 45 _ k1 _ _ Try.underlying45 (HI.out _) ?_)
        refine (times_calls (cols c) s _).mono ?_
        rintro e w6 ⟨rfl, hb6⟩
        have k2 := k1.keep hb6
        have HB2 := hid (HB.out.trans (hb6.mono HB.out.size))
        clear hb6
        go_wp2_with (refine wpList_load_blk rfl 45 _ rfl g rfl 45 _ k2 _ _ Try.underlying45 (HI.out _) ?_)
        refine (squared_calls c _).mono ?_
        rintro e w7 ⟨rfl, hb7⟩
        have k3 := k2.keep hb7
        have HB3 := hid (HB2.out.trans (hb7.mono HB2.out.size))
        clear hb7
        go_wp2_with (refine wpList_store_blk rfl 45 _ _ rfl g _ rfl rfl 45 _ k3 (HI.out _) ((mcells_size _).trans (mcells_size _).symm) (mcells_oneCell _) ?_)
        go_roundw
        case rel => exact ⟨c + c, j / 2, shs c s, by omega, val_int (by rw [times_cols]), by go_num, HE', HB3.out.trans (below_of_grown (grown_setRow w7 g _) HB3.out.size (fun g' e => by cases e; exact hle)), k3.setRow _⟩
        case measure => simp [intOf]; omega
    · obtain rfl : j = 0 := by omega
      go_wp2_with fail
      go_ret
      exact ⟨ret_int (by rw [← HE.out]; rfl), HB.out⟩

theorem join_calls (a b : R) (n : Nat) (w : World) (hn : n ≤ 1073741824) :
    Calls Try.prog 16 #[.int .u32 (a.toNat : Int), .int .u32 (b.toNat : Int), .int .i64 (n : Int)] w
      fun e w' => e = .returned (.tuple #[.int .u32 ((xr (shs (8 * n) a) b).toNat : Int), .int .i64 0]) ∧ Below w.heap.size w w' := by
  have h0 : ¬ ((n : Int) < 0) := by omega
  have h1 : ¬ ((1073741824 : Int) < (n : Int)) := by omega
  go_enter Try.func16, Try.ntmps16
  go_wp2_with fail
  refine (passZeros_calls a n _ hn).mono ?_
  rintro e w1 ⟨rfl, hb⟩
  go_wp2_with fail
  go_ret2
  exact ⟨rfl, hb⟩

theorem join_low (a b : R) (n : Int) (w : World) (hn : n < 0) :
    Calls Try.prog 16 #[.int .u32 (a.toNat : Int), .int .u32 (b.toNat : Int), .int .i64 n] w
      fun e w' => e = .returned (.tuple #[.int .u32 0, .int .i64 3]) ∧ w = w' := by
  go_enter Try.func16, Try.ntmps16
  go_wp2_with fail
  go_ret2
  exact ⟨rfl, rfl⟩
end Go.Proofs.Ytpnobkeeebigeaa
