/- Contract: the reference's Text. -/
import Derived.Test.YtajojeajibonpaaDoorOwnText
import Derived.Test.YtajojeajibonpaaDoorQuietC
import Derived.Test.YtajojeajibonpaaDoorShaCmp
namespace Go.Proofs.YtajojeajibonpaaDoor
open Go.RowKit Crc
attribute [local go_sem] n_hi4 n_lo4

theorem strB_app (l m : List UInt8) : strB l ++ strB m = strB (l ++ m) := by
  apply ByteArray.ext; simp [strB]
theorem next_text (l : List UInt8) (j : Nat) (x : UInt8) (h : l[j]? = some x) : strB (textB (l.take j)) ++ strB [dgs (hi4 x)] ++ strB [dgs (lo4 x)] = strB (textB (l.take (j + 1))) := by
  rw [textB_take l j x h, two, strB_app, strB_app, List.append_assoc]; rfl
theorem cut_hex : ∀ k : Fin 16, (ByteArray.mk #[48, 49, 50, 51, 52, 53, 54, 55, 56, 57, 97, 98, 99, 100, 101, 102]).extract k.val (k.val + 1) = strB [dgs k.val] := by decide +kernel
theorem run_cut (n : Nat) (h : n < 16) (w : World) : (Instr.slice 9 (.string { data := #[48, 49, 50, 51, 52, 53, 54, 55, 56, 57, 97, 98, 99, 100, 101, 102] }) (some (.int .u8 (n : Int))) (some (.int .u8 ((n : Int) + 1))) none).run Tryd.prog w = .ok (.string (strB [dgs n])) w := by
  have hx := cut_hex ⟨n, h⟩
  have h1 : (0 : Int) ≤ (n : Int) := by omega
  have h2 : (n : Int) + 1 ≤ 16 := by omega
  have h3 : (0 : Int) ≤ (n : Int) + 1 := by omega
  have h4 : ((n : Int) + 1).toNat = n + 1 := by omega
  simp only at hx
  simp [Instr.slice, Instr.sliceBounds, Instr.sliceBound, run_underlying Tryd.underlying9, asIntOf, h1, h2, h3, h4, hx, show (ByteArray.mk #[48, 49, 50, 51, 52, 53, 54, 55, 56, 57, 97, 98, 99, 100, 101, 102]).size = 16 from rfl]

set_option maxHeartbeats 2000000 in
set_option maxRecDepth 100000 in
theorem refText_calls (l : List UInt8) (hl : l.length = 32) (w : World) :
    Calls Tryd.prog 24 #[.agg (bcells l)] w fun e w' => e = .returned (.string (strB (textB l))) ∧ Below w.heap.size w w' := by
  have K1 := hid (Blk.new w 26 (bcells l))
  have B1 := hid (below_new w (.cells (bcells l) 26))
  have HL := hid hl; clear hl
  go_enter Tryd.func24, Tryd.ntmps24
  go_wp2_with fail
  generalize w.alloc (.cells (bcells l) 26) = w1 at K1 B1 ⊢
  generalize hg : w.heap.size = g at K1 B1 ⊢
  have HG := hid hg; clear hg
  go_loopw [4, 5] (fun v i wr => ∃ (j : Nat), j ≤ 32 ∧ i = .int .i64 (j : Int) ∧ v = .string (strB (textB (l.take j))) ∧ Hid (Blk wr g 26 (bcells l)) ∧ Hid (Below g w wr)) (fun _ i _ => 32 - (intOf i).toNat)
  case atStart => exact ⟨0, by omega, rfl, rfl, K1, B1⟩
  case round =>
    clear B1 K1
    obtain ⟨j, hj, rfl, rfl, K1, HB⟩ := hrel
    by_cases hlt : j < 32
    · have hjl : j < l.length := by rw [HL.out]; exact hlt
      have hx : l[j]? = some l[j] := List.getElem?_eq_getElem hjl
      have c0 := K1.out.cell j (bcells_at hx)
      have hnx := next_text l j _ hx
      have e1 : (strB (textB (l.take j))).size = 2 * j := by
        have := textB_length (l.take j)
        rw [List.length_take, Nat.min_eq_left (by omega)] at this
        rw [← this]; rfl
      generalize l[j] = x at hx hnx c0
      clear hx hjl
      have HN := hid hnx; clear hnx
      have q0 : (j : Int) < 32 := by omega
      go_wp2_with fail
      have r1 := run_cut (hi4 x) (hi4_lt x)
      have r2 := run_cut (lo4 x) (lo4_lt x)
      have v1 : (((hi4 x : Nat) : Int) + 1) % 256 = ((hi4 x : Nat) : Int) + 1 := by have := hi4_lt x; omega
      have v2 : (((lo4 x : Nat) : Int) + 1) % 256 = ((lo4 x : Nat) : Int) + 1 := by have := lo4_lt x; omega
      have v3 : IntKind.u8.wrap (((hi4 x : Nat) : Int) + 1) = ((hi4 x : Nat) : Int) + 1 := v1
      have v4 : IntKind.u8.wrap (((lo4 x : Nat) : Int) + 1) = ((lo4 x : Nat) : Int) + 1 := v2
      have e2 : (strB [dgs (hi4 x)]).size = 1 := rfl
      have e3 : (strB [dgs (lo4 x)]).size = 1 := rfl
      have e4 : (strB (textB (l.take j)) ++ strB [dgs (hi4 x)]).size = 2 * j + 1 := by rw [ByteArray.size_append, e1, e2]
      have z1 : ¬ 9223372036854775807 < 2 * j + 1 := by omega
      have z2 : ¬ 9223372036854775807 < 2 * j + 1 + 1 := by omega
      go_region
      go_wp2_with fail
      rw [HN.out]
      go_roundw
      case rel => exact ⟨j + 1, by omega, by go_num, rfl, hid K1.out.drew, hid HB.out.drew⟩
      case measure => simp [intOf]; omega
    · obtain rfl : j = 32 := by omega
      have q0 : ¬ ((32 : Nat) : Int) < 32 := by omega
      rw [List.take_of_length_le (by rw [HL.out]; exact Nat.le_refl _)]
      go_wp2_with fail
      go_ret
      exact ⟨rfl, by rw [HG.out]; exact HB.out⟩
end Go.Proofs.YtajojeajibonpaaDoor
