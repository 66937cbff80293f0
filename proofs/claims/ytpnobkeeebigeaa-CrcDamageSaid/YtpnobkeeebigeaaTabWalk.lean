/- Contract: the func literal that makes the table: the array of 256 numbers, in new memory. -/
import Derived.Test.YtpnobkeeebigeaaProg
import Derived.Test.YtpnobkeeebigeaaShift
import Derived.Test.YtpnobkeeebigeaaTabMath
import Derived.Test.YtpnobkeeebigeaaBlk
namespace Go.Proofs.Ytpnobkeeebigeaa
open Go.RowKit Crc
attribute [local go_sem] n_xor n_poly n_not n_not' n_bx n_low n_shr1 n_shr8 n_shr16 n_shr24 n_bxor

theorem info48 : (Try.prog.info? 48).map (fun i => (i.zero, i.size)) = some (some (.agg (tcells 128 0)), 256) := by rw [tcells_start]; kernel_rfl
theorem oneCell_t (s j : Nat) : (tcells s j).toList.all (·.oneCell') = true := by
  rw [List.all_eq_true]
  intro x hx
  simp [tcells] at hx
  obtain ⟨i, _, rfl⟩ := hx
  rfl

set_option maxRecDepth 20000 in
theorem table_calls (w : World) :
    Calls Try.prog 31 #[] w fun e w' => e = .returned (.agg (tcells 1 256)) ∧ Below w.heap.size w w' := by
  have hz := (zero_of_info info48).1
  have hB := hid (below_new w (.cells (tcells 128 0) 48))
  have hK := hid (Blk.new w 48 (tcells 128 0))
  go_enter Try.func31, Try.ntmps31
  go_wp2_with fail
  clear hz
  generalize w.alloc (.cells (tcells 128 0) 48) = w1 at hB hK ⊢
  generalize hg : w.heap.size = g at hB hK ⊢
  have Hg := hid hg; clear hg
  go_loopw [1, 2, 3] (fun r b _ wr => ∃ d : Nat, d ≤ 8 ∧ r = .int .u32 ((shs d 1#32).toNat : Int) ∧ b = .int .i64 ((128 / 2 ^ d : Nat) : Int) ∧ Below g w wr ∧ Blk wr g 48 (if d = 8 then tcells 1 256 else tcells (128 / 2 ^ d) 0)) (fun _ b _ _ => (intOf b).toNat)
  case atStart => exact ⟨0, by omega, rfl, rfl, hB.out, hK.out⟩
  case round =>
    clear hB hK
    obtain ⟨d, hd, rfl, rfl, hB, hK⟩ := hrel
    rcases Nat.lt_or_ge d 8 with h8 | h8
    · have hs : 128 / 2 ^ d ∈ halves := by
        have : ∀ d < 8, 128 / 2 ^ d ∈ halves := by unfold halves; decide
        exact this d h8
      have hcut : shs (d + 1) 1#32 = cut (128 / 2 ^ d) := by
        have : ∀ d < 8, shs (d + 1) 1#32 = cut (128 / 2 ^ d) := by unfold cut num; decide +kernel
        exact this d h8
      have hend : tcells (128 / 2 ^ d) 256 = (if d + 1 = 8 then tcells 1 256 else tcells (128 / 2 ^ (d + 1)) 0) := by
        by_cases e : d = 7
        · subst e; rfl
        · rw [if_neg (by omega), tcells_end hs]
          · rw [Nat.pow_succ, ← Nat.div_div_eq_div_mul]
          · have : ∀ d < 7, 128 / 2 ^ d ≠ 1 := by decide
            exact this d (by omega)
      have hhalf : 128 / 2 ^ (d + 1) = 128 / 2 ^ d / 2 := by rw [Nat.pow_succ, ← Nat.div_div_eq_div_mul]
      rw [if_neg (by omega)] at hK
      have Hcut := hid hcut; have Hend := hid hend; have Hhalf := hid hhalf
      clear hcut hend hhalf
      generalize 128 / 2 ^ d = s at *
      have hpos : 0 < s := by simp [halves] at hs; omega
      have hle : s ≤ 128 := by simp [halves] at hs; omega
      have hdvd : 256 % (2 * s) = 0 := by simp [halves] at hs; rcases hs with rfl | rfl | rfl | rfl | rfl | rfl | rfl | rfl <;> rfl
      have Hdvd := hid hdvd; clear hdvd
      have Hs := hid hs; clear hs
      go_wp2_with fail
      refine (shift_calls _ _).mono ?_
      rintro e w' ⟨rfl, rfl⟩
      go_wp2_with fail
      go_loopw [3] (fun i wr => ∃ j : Nat, j ≤ 256 ∧ j % (2 * s) = 0 ∧ i = .int .i64 (j : Int) ∧ Below g w wr ∧ Blk wr g 48 (tcells s j)) (fun i _ => 256 - (intOf i).toNat)
      case atStart => exact ⟨0, by omega, Nat.zero_mod _, rfl, hB, hK⟩
      case round =>
        clear hB hK
        obtain ⟨j, hj, hm, rfl, hB, hK⟩ := hrel
        have Hm := hid hm; clear hm
        rcases Nat.lt_or_ge j 256 with hlt | hge
        · have hlt' : j + s < 256 := by
            have := Hm.out; have := Hdvd.out; have hs := Hs.out
            simp [halves] at hs
            rcases hs with rfl | rfl | rfl | rfl | rfl | rfl | rfl | rfl <;> omega
          have hc1 := hK.cell j (tcells_at s j j hlt)
          have hc2 := hK.cell (j + s) (tcells_at s j (j + s) hlt')
          have hf := hK.frozen (j + s)
          go_wp2_with fail
          have hB' := hid (hB.setCell (p := ⟨g, j + s, none⟩) (Nat.le_refl _) (.int .u32 ((xr (tv s j j) (sh (shs d 1#32))).toNat : Int)))
          have hK' := hid (hK.set_ (j + s) (.int .u32 ((xr (tv s j j) (sh (shs d 1#32))).toNat : Int)))
          go_roundw
          case rel =>
            refine ⟨j + 2 * s, ?_, by rw [Nat.add_mod, Hm.out, Nat.mod_self]; rfl, by go_num, hB'.out, ?_⟩
            · have := Hm.out; have := Hdvd.out; have hs := Hs.out
              simp [halves] at hs
              rcases hs with rfl | rfl | rfl | rfl | rfl | rfl | rfl | rfl <;> omega
            · have e : sh (shs d 1#32) = cut s := Hcut.out
              rw [← tcells_next Hs.out hlt Hm.out, ← e, ← tv_at Hm.out]
              exact hK'.out
          case measure => simp [intOf]; omega
        · obtain rfl : j = 256 := by omega
          go_wp2_with fail
          go_roundw
          case rel => exact ⟨d + 1, by omega, rfl, by rw [Hhalf.out]; go_num, hB, by rw [← Hend.out]; exact hK⟩
          case measure => simp [intOf]; omega
    · obtain rfl : d = 8 := by omega
      rw [if_pos rfl] at hK
      have hi : (Try.prog.info? 48).map (·.size) = some (tcells 1 256).size := by rw [tcells_size]; exact (zero_of_info info48).2
      have Hi := hid hi; clear hi
      go_wp2_with (first
        | (refine wpList_load_blk rfl 48 _ rfl g rfl 48 _ hK _ _ Try.underlying48 Hi.out ?_)
        | (refine wpList_store_blk rfl 48 _ _ rfl g _ rfl rfl 48 _ hK Hi.out rfl (oneCell_t _ _) ?_))
      refine bodyPost_ret (v := .agg (tcells 1 256)) (results_cell_row rfl _ _ g 48 _ (0, 0) _ rfl (hK.setRow _) Try.underlying48 rfl Hi.out) rfl ⟨rfl, ?_⟩
      rw [Hg.out]
      exact hB.trans (below_of_grown (grown_setRow wr g _) (Nat.le_of_lt hK.lt) (fun g' e => by cases e; exact Nat.le_refl _))
end Go.Proofs.Ytpnobkeeebigeaa
