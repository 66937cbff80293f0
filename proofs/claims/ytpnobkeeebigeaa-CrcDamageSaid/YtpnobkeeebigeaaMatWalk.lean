/- Contracts: the matrix's own: times, squared, zeroBit; passZeros and Join. -/
import Derived.Test.YtpnobkeeebigeaaProg
import Derived.Test.YtpnobkeeebigeaaShift
import Derived.Test.YtpnobkeeebigeaaMatMath
import Derived.Test.YtpnobkeeebigeaaBlk
namespace Go.Proofs.Ytpnobkeeebigeaa
open Go.RowKit Crc
attribute [local go_sem] n_xor n_poly n_not n_not' n_bx n_low n_shr1 n_shr8 n_shr16 n_shr24 n_bxor n_shrk

theorem info45 : (Try.prog.info? 45).map (fun i => (i.zero, i.size)) = some (some (.agg (mcells (pcols (cols 0) 0))), 32) := by rw [part_zero]; kernel_rfl

theorem times_calls (m : Nat → R) (r : R) (w : World) :
    Calls Try.prog 30 #[.agg (mcells m), .int .u32 (r.toNat : Int)] w fun e w' => e = .returned (.int .u32 ((times m r).toNat : Int)) ∧ Below w.heap.size w w' := by
  have Hi : Hid ((Try.prog.info? 45).map (·.size) = some (mcells m).size) := by rw [mcells_size]; exact (zero_of_info info45).2
  have hk := Blk.new w 45 (mcells m)
  have hb := hid (below_new w (.cells (mcells m) 45))
  go_enter Try.func30, Try.ntmps30
  go_wp2_with (refine wpList_load_blk rfl 45 _ rfl w.heap.size rfl 45 _ hk _ _ Try.underlying45 Hi.out ?_)
  clear hk
  generalize w.alloc (.cells (mcells m) 45) = w1 at hb ⊢
  go_loop [5, 9] (fun p i => ∃ k : Nat, k ≤ 32 ∧ i = .int .i64 (k : Int) ∧ p = .int .u32 ((tm m r k).toNat : Int)) (fun _ i => 32 - (intOf i).toNat)
  case atStart => exact ⟨0, by omega, rfl, rfl⟩
  case round =>
    obtain ⟨k, hk, rfl, rfl⟩ := hrel
    by_cases hlt : k < 32
    · have hx := run_index_arr (P := Try.prog) 45 31 32 k .u32 _ _ Try.underlying45 Try.underlying31 (by kernel_rfl) hlt (mcells_at m k hlt) w1
      cases h : r.getLsbD k
      · have hz := n_even (sr k r) (by rw [sr_bit, h])
        have Hn : Hid (tm m r (k + 1) = tm m r k) := by show (if r.getLsbD k then _ else _) = _; rw [if_neg (by rw [h]; decide)]
        clear h
        go_wp2_with fail
        go_round
        case rel => exact ⟨k + 1, by omega, by go_num, val_int (by rw [Hn.out])⟩
        case measure => simp [intOf]; omega
      · have hz := n_odd (sr k r) (by rw [sr_bit, h])
        have Hn : Hid (tm m r (k + 1) = xr (tm m r k) (m k)) := by show (if r.getLsbD k then _ else _) = _; rw [if_pos h]
        clear h
        go_wp2_with fail
        go_round
        case rel => exact ⟨k + 1, by omega, by go_num, val_int (by rw [Hn.out])⟩
        case measure => simp [intOf]; omega
    · obtain rfl : k = 32 := by omega
      go_wp2_with fail
      go_ret
      exact ⟨rfl, hb.out⟩

theorem below_set {B : Nat} {a w : World} (h : Below B a w) {g i : Nat} (hg : B ≤ g) (u : Value) : Below B a (w.setCell ⟨g, i, none⟩ u) := h.setCell (p := ⟨g, i, none⟩) hg u

set_option maxRecDepth 20000 in
theorem squared_calls (c : Nat) (w : World) :
    Calls Try.prog 29 #[.agg (mcells (cols c))] w fun e w' => e = .returned (.agg (mcells (cols (c + c)))) ∧ Below w.heap.size w w' := by
  have Hi : ∀ m : Nat → R, (Try.prog.info? 45).map (·.size) = some (mcells m).size := fun m => by rw [mcells_size]; exact (zero_of_info info45).2
  have HI := hid Hi; clear Hi
  have hz := (zero_of_info info45).1
  have k0 := ((Blk.new w 45 (mcells (cols c))).alloc (.cells (mcells (pcols (cols 0) 0)) 45)).alloc (.cells (mcells (pcols (cols 0) 0)) 45)
  have k1 := (Blk.new (w.alloc (.cells (mcells (cols c)) 45)) 45 (mcells (pcols (cols 0) 0))).alloc (.cells (mcells (pcols (cols 0) 0)) 45)
  have k2 := (Blk.new ((w.alloc (.cells (mcells (cols c)) 45)).alloc (.cells (mcells (pcols (cols 0) 0)) 45)) 45 (mcells (pcols (cols 0) 0)))
  rw [size_new] at k1 k2
  rw [size_new] at k2
  rw [show mcells (pcols (cols 0) 0) = mcells (pcols (cols (c + c)) 0) by rw [part_zero, part_zero]] at k2
  rw [show mcells (pcols (cols (c + c)) 0) = mcells (pcols (cols 0) 0) by rw [part_zero, part_zero]] at k2
  have hb : Below w.heap.size w (((w.alloc (.cells (mcells (cols c)) 45)).alloc (.cells (mcells (pcols (cols 0) 0)) 45)).alloc (.cells (mcells (pcols (cols 0) 0)) 45)) :=
    ((below_new w _).alloc (by rw [size_new]; omega) _).alloc (by rw [size_new, size_new]; omega) _
  have K1 := hid k1; have K2 := hid k2; have HB := hid hb
  clear k1 k2 hb
  go_enter Try.func29, Try.ntmps29
  go_wp2_with (refine wpList_load_blk rfl 45 _ rfl w.heap.size rfl 45 _ k0 _ _ Try.underlying45 (HI.out _) ?_)
  clear hz
  generalize ((w.alloc (.cells (mcells (cols c)) 45)).alloc (.cells (mcells (pcols (cols 0) 0)) 45)).alloc (.cells (mcells (pcols (cols 0) 0)) 45) = w3 at k0 K1 K2 HB ⊢
  generalize hg : w.heap.size = g at k0 K1 K2 HB ⊢
  have HG := hid hg; clear hg
  go_loopw [7] (fun i wr => ∃ k : Nat, k ≤ 32 ∧ i = .int .i64 (k : Int) ∧ Below g w wr ∧ Blk wr g 45 (mcells (cols c)) ∧ Blk wr (g + 1) 45 (mcells (pcols (cols 0) 0)) ∧ Blk wr (g + 1 + 1) 45 (mcells (pcols (cols (c + c)) k))) (fun i _ => 32 - (intOf i).toNat)
  case atStart => exact ⟨0, by omega, rfl, HB.out, k0, K1.out, by rw [part_zero, ← part_zero (cols 0)]; exact K2.out⟩
  case round =>
    clear k0 K1 K2 HB
    obtain ⟨k, hk, rfl, hb, k0, k1, k2⟩ := hrel
    have HB := hid hb; have K1 := hid k1; have K2 := hid k2; clear hb k1 k2
    by_cases hlt : k < 32
    · have hx := run_index_arr (P := Try.prog) 45 31 32 k .u32 _ _ Try.underlying45 Try.underlying31 (by kernel_rfl) hlt (mcells_at (cols c) k hlt) wr
      go_wp2_with (refine wpList_load_blk rfl 45 _ rfl g rfl 45 _ k0 _ _ Try.underlying45 (HI.out _) ?_)
      clear hx
      refine (times_calls (cols c) (cols c k) _).mono ?_
      rintro e w' ⟨rfl, hb'⟩
      have HB' := hid (HB.out.trans (hb'.mono (Nat.le_of_lt k0.lt)))
      have K0' := hid (k0.keep hb')
      have K1' := hid (K1.out.keep hb')
      have k2' := K2.out.keep hb'
      have hc := k2'.cell k (mcells_at _ k hlt)
      have hf := k2'.frozen k
      have HS := hid (k2'.set_ k (.int .u32 ((times (cols c) (cols c k)).toNat : Int)))
      clear hb' k0 k2'
      go_wp2_with fail
      go_roundw
      case rel =>
        refine ⟨k + 1, by omega, by go_num, below_set HB'.out (by omega) _, K0'.out.far (by show ¬ g = g + 1 + 1; omega) _, K1'.out.far (by simp) _, ?_⟩
        have := HS.out
        rw [squared_cols, part_next _ k hlt] at this
        rw [squared_cols]
        exact this
      case measure => simp [intOf]; omega
    · obtain rfl : k = 32 := by omega
      have k2 := K2.out
      rw [part_full] at k2
      have k1 := K1.out
      go_wp2_with (first
        | (refine wpList_load_blk rfl 45 _ rfl (g + 1 + 1) rfl 45 _ k2 _ _ Try.underlying45 (HI.out _) ?_)
        | (refine wpList_store_blk rfl 45 _ _ rfl (g + 1) _ rfl rfl 45 _ k1 (HI.out _) ((mcells_size _).trans (mcells_size _).symm) (mcells_oneCell _) ?_))
      refine bodyPost_ret (v := .agg (mcells (cols (c + c)))) (results_cell_row rfl _ _ (g + 1) 45 _ (0, 0) _ rfl (k1.setRow _) Try.underlying45 rfl (HI.out _)) rfl ⟨rfl, ?_⟩
      rw [HG.out]
      have hsz := k1.lt
      exact HB.out.trans (below_of_grown (grown_setRow wr (g + 1) _) (by omega) (fun g' e => by cases e; omega))
end Go.Proofs.Ytpnobkeeebigeaa
