/- Contract: the project's id: the bytes of eight words. -/
import Derived.Test.YtgacdimjbpkgoaaDoorOwnPass
import Derived.Test.YtgacdimjbpkgoaaDoorShaBytes
namespace Go.Proofs.YtgacdimjbpkgoaaDoor
open Go.RowKit Crc
attribute [local go_sem] n_low

set_option maxHeartbeats 4000000 in
set_option maxRecDepth 100000 in
theorem id_calls (s : St) (g0 : Nat) (t : TypeId) (w : World) (hb : Blk w g0 t (rcells (stL s))) :
    Calls Tryd.prog 65 #[.pointer (some ⟨g0, 0, none⟩)] w
      fun e w' => e = .returned (.agg (bcells (stBytes s))) ∧ Below w.heap.size w w' := by
  have hz := (zero_of_info info26).1
  have k2 := (Blk.new w 24 (bcells (zeroB 32))).alloc (.cells (bcells (zeroB 32)) 24)
  have k3 := Blk.new (w.alloc (.cells (bcells (zeroB 32)) 24)) 24 (bcells (zeroB 32))
  rw [size_new] at k3
  have b1 : Below w.heap.size w ((w.alloc (.cells (bcells (zeroB 32)) 24)).alloc (.cells (bcells (zeroB 32)) 24)) :=
    (below_new w _).alloc (by rw [size_new]; omega) _
  have l0 := hb.lt
  have hs0 := hb.keep b1
  have K2 := hid k2; have K3 := hid k3; have HB := hid b1; have HS := hid hs0
  clear k2 k3 b1 hb hs0
  go_enter Tryd.func65, Tryd.ntmps65
  go_wp2_with fail
  clear hz
  generalize (w.alloc (.cells (bcells (zeroB 32)) 24)).alloc (.cells (bcells (zeroB 32)) 24) = w3 at K2 K3 HB HS ⊢
  generalize hg : w.heap.size = g at K2 K3 HB l0 ⊢
  have HG := hid hg; clear hg
  go_loopw [8] (fun i wr => ∃ m : Nat, m ≤ 8 ∧ i = .int .i64 (m : Int) ∧ Hid (Below g w wr) ∧ Hid (Blk wr g0 t (rcells (stL s))) ∧ Hid (Blk wr g 24 (bcells (zeroB 32))) ∧ Hid (Blk wr (g + 1) 24 (bcells (outOf (stBytes s) (4 * m))))) (fun i _ => 8 - (intOf i).toNat)
  case atStart => exact ⟨0, by omega, rfl, HB, HS, K2, K3⟩
  case round =>
    clear K2 K3 HB HS
    obtain ⟨m, hm, rfl, HB, HS, K2, K3⟩ := hrel
    by_cases hlt : m < 8
    · have d1 := HS.out.cell m (rcells_at (by32_get (by exact hlt)))
      have HX := hid (Eq.refl (by32 (stL s) m))
      generalize hx : by32 (stL s) m = x at d1
      have HXE := hid hx; clear hx HX
      have q0 : (m : Int) < 8 := by omega
      have p0 : (0 : Int) ≤ (m : Int) := by omega
      go_wp2_with fail
      go_quiet (fail)
      clear d1
      go_wp2_with fail
      obtain ⟨wb, eb, HBb, HSb, K2b, K3b⟩ : ∃ wb, wr.drewN nq = wb ∧ Hid (Below g w wb) ∧ Hid (Blk wb g0 t (rcells (stL s))) ∧ Hid (Blk wb g 24 (bcells (zeroB 32))) ∧ Hid (Blk wb (g + 1) 24 (bcells (outOf (stBytes s) (4 * m)))) :=
        ⟨_, rfl, ⟨HB.out.os, HB.out.tape, HB.out.output, HB.out.size, HB.out.block⟩, HS.out.drewN nq, K2.out.drewN nq, K3.out.drewN nq⟩
      rw [eb]
      clear HB HS K2 K3 eb
      go_loopw [14] (fun i wr => ∃ k : Nat, k ≤ 4 ∧ i = .int .i64 (k : Int) ∧ Hid (Below g w wr) ∧ Hid (Blk wr g0 t (rcells (stL s))) ∧ Hid (Blk wr g 24 (bcells (zeroB 32))) ∧ Hid (Blk wr (g + 1) 24 (bcells (outOf (stBytes s) (4 * m + k))))) (fun i _ => 4 - (intOf i).toNat)
      case atStart => exact ⟨0, by omega, rfl, HBb, HSb, K2b, K3b⟩
      case round =>
        clear HBb HSb K2b K3b
        obtain ⟨k, hk, rfl, HB, HS, K2, K3⟩ := hrel
        by_cases hlt4 : k < 4
        · have hl : (stBytes s).length = 32 := stBytes_length s
          have hat := stBytes_at s (4 * m + k) (by omega)
          rw [show (4 * m + k) % 4 = k by omega, show (4 * m + k) / 4 = m by omega, HXE.out] at hat
          have c3 := K3.out.cell (4 * m + k) (outOf_at _ _ hl (by omega))
          have f3 := K3.out.frozen (4 * m + k)
          have h3 := K3.out.set_ (4 * m + k) (bv (low8 (sr (24 - 8 * k) x)))
          rw [outOf_set _ _ _ hl (by omega) hat] at h3
          have H3 := hid h3
          clear h3 hat hl
          have r0 : (k : Int) < 4 := by omega
          have r1 : (0 : Int) ≤ (k : Int) := by omega
          have m1 : IntKind.i64.wrap (4 * (m : Int) + (k : Int)) = 4 * (m : Int) + (k : Int) := IntWalk.i64_in _ (by omega)
          have m2 : IntKind.i64.wrap (3 - (k : Int)) = 3 - (k : Int) := IntWalk.i64_in _ (by omega)
          have m3 : IntKind.i64.wrap (8 * (3 - (k : Int))) = 8 * (3 - (k : Int)) := IntWalk.i64_in _ (by omega)
          have m4 : (0 : Int) ≤ 8 * (3 - (k : Int)) := by omega
          have m5 : (8 * (3 - (k : Int))).toNat = 24 - 8 * k := by omega
          have m6 : (0 : Int) ≤ 4 * (m : Int) + (k : Int) := by omega
          have m7 : 4 * (m : Int) + (k : Int) < 32 := by omega
          have m8 : (4 * (m : Int) + (k : Int)).toNat = 4 * m + k := by omega
          go_wp2_with fail
          rw [n_shrk, n_low]
          go_roundw
          case rel => exact ⟨k + 1, by omega, by go_num, HB.out.setCell (p := ⟨g + 1, 4 * m + k, none⟩) (by show g ≤ g + 1; omega) _, HS.out.far (by show ¬ g0 = g + 1; omega) _, K2.out.far (by show ¬ g = g + 1; omega) _, H3⟩
          case measure => simp [intOf]; omega
        · obtain rfl : k = 4 := by omega
          have q1 : ¬ ((4 : Nat) : Int) < 4 := by omega
          go_wp2_with fail
          go_roundw
          case rel => exact ⟨m + 1, by omega, by go_num, HB, HS, K2, K3⟩
          case measure => simp [intOf]; omega
    · obtain rfl : m = 8 := by omega
      have q1 : ¬ ((8 : Nat) : Int) < 8 := by omega
      have k3 := K3.out
      have hfull : outOf (stBytes s) (4 * 8) = stBytes s := by rw [outOf, List.take_of_length_le (by rw [stBytes_length]; omega)]; exact List.append_nil _
      rw [hfull] at k3
      clear hfull
      have hl := stBytes_length s
      generalize hC : stBytes s = lC at k3 hl
      have HCe := hid hC; clear hC
      have EC : Hid ((Tryd.prog.info? 24).map (·.size) = some (bcells lC).size) := by rw [Hid, bcells_size, hl]; exact (zero_of_info info26).2
      have Hsz : Hid ((bcells (zeroB 32)).size = (bcells lC).size) := by rw [Hid, bcells_size, bcells_size, hl]; rfl
      clear hl
      go_wp2_with (first
        | (refine wpList_load_blk rfl 24 _ rfl (g + 1) rfl 24 _ k3 _ _ Tryd.underlying24 EC.out ?_)
        | (refine wpList_store_blk rfl 24 _ _ rfl g _ rfl rfl 24 _ K2.out EC.out Hsz.out (bcells_oneCell _) ?_))
      refine bodyPost_ret (v := .agg (bcells lC)) (results_cell_row rfl _ _ g 24 _ (0, 0) _ rfl (K2.out.setRow _) Tryd.underlying24 rfl EC.out) rfl ⟨by rw [HCe.out], ?_⟩
      rw [HG.out]
      exact HB.out.trans (below_of_grown (grown_setRow wr g _) (by have := K2.out.lt; omega) (fun g' e => by cases e; omega))
end Go.Proofs.YtgacdimjbpkgoaaDoor
