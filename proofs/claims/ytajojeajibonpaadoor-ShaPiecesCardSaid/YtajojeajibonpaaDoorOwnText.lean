/- Contract: the project's Text. -/
import Derived.Test.YtajojeajibonpaaDoorHex
import Derived.Test.YtajojeajibonpaaDoorBlk
import Derived.Test.YtajojeajibonpaaDoorStr
import Derived.StillTailTactics
import Derived.BigQuiet
import Derived.Deep.QuietTactic
import Derived.Deep.RegionLaw
namespace Go.Proofs.YtajojeajibonpaaDoor
open Go.RowKit Crc
attribute [local go_sem] n_hi4 n_lo4

def hexS : ByteArray := strB hexL
theorem hex_at : ∀ k : Fin 16, (ByteArray.mk #[48, 49, 50, 51, 52, 53, 54, 55, 56, 57, 97, 98, 99, 100, 101, 102])[k.val]? = some (dgs k.val) := by decide +kernel
theorem run_hex (n : Nat) (h : n < 16) (w : World) : (Instr.index 9 (.string { data := #[48, 49, 50, 51, 52, 53, 54, 55, 56, 57, 97, 98, 99, 100, 101, 102] }) (.int .u8 (n : Int))).run Tryd.prog w = .ok (.int .u8 ((dgs n).toNat : Int)) w := by
  have hx := hex_at ⟨n, h⟩
  simp only at hx
  simp [Instr.index, run_underlying Tryd.underlying9, asIntOf, hx]

set_option maxHeartbeats 2000000 in
set_option maxRecDepth 100000 in
theorem text_calls (l : List UInt8) (hl : l.length = 32) (w : World) :
    Calls Tryd.prog 23 #[.agg (bcells l)] w fun e w' => e = .returned (.string (strB (textB l))) ∧ Below w.heap.size w w' := by
  have K1 := hid (Blk.new w 26 (bcells l))
  have B1 := hid (below_new w (.cells (bcells l) 26))
  have EC : Hid ((Tryd.prog.info? 26).map (·.size) = some (bcells l).size) := by rw [Hid, bcells_size, hl]; exact (zero_of_info info26).2
  have HL := hid hl; clear hl
  go_enter Tryd.func23, Tryd.ntmps23
  go_wp2_with (at_make; refine Held.go ?_)
  generalize w.alloc (.cells (bcells l) 26) = w1 at K1 B1 ⊢
  refine wpList_make_bytes _ rfl _ _ _ rfl _ Tryd.underlying22 info5' 64 64 rfl rfl rfl (by omega) ?_
  intro w2 o2 b2
  have K2 := hid (K1.out.keep b2)
  have B2 := hid (B1.out.trans (b2.mono B1.out.size))
  have O2 := hid (o2.lower K1.out.lt)
  clear b2 o2 K1 B1
  go_wp2_with (refine wpList_load_blk rfl 26 _ rfl w.heap.size rfl 26 _ K2.out _ _ Tryd.underlying26 EC.out ?_)
  generalize w1.heap.size = g1 at O2 ⊢
  go_loopw [3, 8] (fun v i wr => ∃ (j : Nat) (A' : Option Addr) (c' : Nat), j ≤ 32 ∧ i = .int .i64 (j : Int) ∧ v = .slice A' (2 * j) c' ∧ Hid (Own wr w.heap.size.succ 5 (.slice A' (2 * j) c') (2 * j) (textB (l.take j))) ∧ Hid (Below w.heap.size w wr) ∧ w.heap.size < wr.heap.size) (fun _ i _ => 32 - (intOf i).toNat)
  case atStart => exact ⟨0, _, _, by omega, rfl, rfl, O2, B2, K2.out.lt⟩
  case round =>
    clear O2 B2 K2
    obtain ⟨j, A', c', hj, rfl, rfl, HO, HB, hbs⟩ := hrel
    by_cases hlt : j < 32
    · have hjl : j < l.length := by rw [HL.out]; exact hlt
      have hx : l[j]? = some l[j] := List.getElem?_eq_getElem hjl
      have htk := textB_take l j _ hx
      have hi := fun W => run_index_arr (P := Tryd.prog) 26 5 32 j .u8 (bcells l) (.int .u8 (l[j].toNat : Int)) Tryd.underlying26 Tryd.underlying5 (by kernel_rfl) hlt (by simp [bcells, hx, bv]) W
      generalize l[j] = x at hi htk hx
      clear hx hjl
      have r1 := run_hex (hi4 x) (hi4_lt x)
      have r2 := run_hex (lo4 x) (lo4_lt x)
      have HT := hid htk; clear htk
      have q0 : (j : Int) < 32 := by omega
      have p0 : (0 : Int) ≤ (j : Int) := by omega
      go_wp2_with fail
      clear hi
      have S3 := hid (lit_sb wr 5 (two x) #[.int .u8 ((dgs (hi4 x)).toNat : Int), .int .u8 ((dgs (lo4 x)).toNat : Int)] 2 rfl rfl)
      have B3 := hid (below_new wr (.cells #[.int .u8 ((dgs (hi4 x)).toNat : Int), .int .u8 ((dgs (lo4 x)).toNat : Int)] 5))
      have hsz3 := B3.out.size
      have O3 := hid (HO.out.keep B3.out).drew
      have HBs := hid (Nat.le_trans hbs hsz3)
      clear hsz3 hbs
      go_region_law ((refine step_append_bytes _ rfl (.tmp 11) (.tmp 18) 22 rfl 5 Tryd.underlying22 info5' w.heap.size.succ (.slice A' (2 * j) c') (2 * j) (textB (l.take j)) (by simp [Act.eval]) O3.out (wr.heap.size + 1) (some ⟨wr.heap.size, 0, none⟩) 2 2 (two x) (by simp [Act.eval]) S3.out.drew (by omega) HBs.out ?_); intro v4 w4 h4 k4 t4)
      all_goals
        (rw [← HT.out] at h4
         have H4 := hid h4
         have HB4 := hid (HB.out.trans ((B3.out.mono HB.out.size).drew.trans (below_of_grown k4 (Nat.le_trans HB.out.size B3.out.size) (fun g' e => by have := (HO.out.block g' e).1; omega))))
         have hs4 : w.heap.size < w4.heap.size := Nat.lt_of_lt_of_le HBs.out k4.size
         obtain ⟨A4, c4, e4, _, _, _⟩ := h4.sb
         subst e4
         clear h4 k4 t4
         go_wp2_with fail
         go_roundw
         case rel => exact ⟨j + 1, A4, c4, by omega, by go_num, rfl, H4, HB4, hs4⟩
         case measure => simp [intOf]; omega)
    · obtain rfl : j = 32 := by omega
      have q0 : ¬ ((32 : Nat) : Int) < 32 := by omega
      obtain ⟨A4, c4, e4, _, sb4, _⟩ := HO.out.sb
      cases e4
      have hst := run_str (P := Tryd.prog) sb4 c' 22 9 5 Tryd.underlying22 Tryd.underlying5 Tryd.underlying9
      rw [List.take_of_length_le (by rw [HL.out]; exact Nat.le_refl _)] at hst
      clear sb4
      go_wp2_with fail
      go_ret
      exact ⟨rfl, HB.out⟩
end Go.Proofs.YtajojeajibonpaaDoor
