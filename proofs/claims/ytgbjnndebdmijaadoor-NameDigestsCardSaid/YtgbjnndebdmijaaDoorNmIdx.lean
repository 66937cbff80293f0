/- Contract: strings.IndexRune, of a text of 16 bytes of ASCII. -/
import Derived.Test.YtgbjnndebdmijaaDoorProg
import Derived.Test.YtgbjnndebdmijaaDoorMem
import Derived.Test.YtgbjnndebdmijaaDoorQuietC
import Derived.Laws.Runes
import Derived.Laws.RangeAny
import Derived.Lib.OthersKept
import Derived.WalkSmall
import Derived.WalkMore
import Derived.Shelf.Abstract
import Derived.Deep.QuietTactic
import Derived.BigQuiet
namespace Go.Proofs.YtgbjnndebdmijaaDoor
open Go.RowKit

theorem by8_cast (b : UInt8) : ((b.toNat : Int)).toNat.toUInt8 = b := by simp
theorem byteString (w : World) (s : ByteArray) (c : Int) : (callFunc 53 #[.string s, .int .u8 c]).run Tryd.prog w = .ok (.value (.int .i64 (firstIdx s c.toNat.toUInt8))) w := by
  rw [run_callFunc_extern Tryd.func53 (by kernel_rfl) (by kernel_rfl) (by kernel_rfl) (e := Extern.BytealgIndexByte.indexByte) (by kernel_rfl), run_indexByte_string]
  rfl
theorem lite_byte (s : ByteArray) (c : Int) (w : World) : Calls Tryd.prog 52 #[.string s, .int .u8 c] w fun e w' => e = .returned (.int .i64 (firstIdx s c.toNat.toUInt8)) ∧ w = w' := by
  have h := byteString w s c
  go_enter Tryd.func52, Tryd.ntmps52
  go_wp2_with fail
  go_ret
  exact ⟨rfl, rfl⟩
theorem byte_calls (s : ByteArray) (c : Int) (w : World) : Calls Tryd.prog 46 #[.string s, .int .u8 c] w fun e w' => e = .returned (.int .i64 (firstIdx s c.toNat.toUInt8)) ∧ w = w' := by
  go_enter Tryd.func46, Tryd.ntmps46
  go_wp2_with fail
  refine (lite_byte s c w).mono ?_
  rintro _ _ ⟨rfl, rfl⟩
  go_wp2_with fail
  go_ret
  exact ⟨rfl, rfl⟩

theorem valid_no (r : Int) (h : r < 0) (w : World) : Calls Tryd.prog 47 #[.int .i32 r] w fun e w' => e = .returned (.bool false) ∧ w = w' := by
  have h1 : ¬ 0 ≤ r := by omega
  have h2 : ¬ 57343 < r := by omega
  go_enter Tryd.func47, Tryd.ntmps47
  go_wp2_with fail
  go_ret
  exact ⟨rfl, rfl⟩
theorem valid_yes (r : Int) (h : Utf8.valid r = true) (w : World) : Calls Tryd.prog 47 #[.int .i32 r] w fun e w' => e = .returned (.bool true) ∧ w = w' := by
  rw [validRune_eq] at h
  have h := of_decide_eq_true h
  by_cases h1 : r < 55296
  · have h0 : 0 ≤ r := by omega
    clear h
    go_enter Tryd.func47, Tryd.ntmps47
    go_wp2_with fail
    go_ret
    exact ⟨rfl, rfl⟩
  · have h0 : 0 ≤ r := by omega
    have h2 : 57343 < r := by omega
    have h3 : r ≤ 1114111 := by omega
    clear h
    go_enter Tryd.func47, Tryd.ntmps47
    go_wp2_with fail
    go_ret
    exact ⟨rfl, rfl⟩

set_option maxRecDepth 100000 in
theorem idx_low (s : ByteArray) (r : Int) (h0 : 0 ≤ r) (h1 : r < 128) (w : World) :
    Calls Tryd.prog 44 #[.string s, .int .i32 r] w fun e w' => e = .returned (.int .i64 (firstIdx s r.toNat.toUInt8)) ∧ w = w' := by
  go_enter Tryd.func44, Tryd.ntmps44
  go_wp2_with fail
  refine (byte_calls s r w).mono ?_
  rintro _ _ ⟨rfl, rfl⟩
  go_wp2_with fail
  go_ret
  exact ⟨rfl, rfl⟩
set_option maxRecDepth 100000 in
theorem idx_none (s : ByteArray) (r : Int) (h0 : r < 0) (w : World) :
    Calls Tryd.prog 44 #[.string s, .int .i32 r] w fun e w' => e = .returned (.int .i64 (-1)) ∧ w = w' := by
  have h1 : ¬ 0 ≤ r := by omega
  have h2 : (r == 65533) = false := by rw [beq_eq_false_iff_ne]; omega
  go_enter Tryd.func44, Tryd.ntmps44
  go_wp2_with fail
  refine (valid_no r h0 w).mono ?_
  rintro _ _ ⟨rfl, rfl⟩
  go_wp2_with fail
  go_ret
  exact ⟨rfl, rfl⟩
set_option maxHeartbeats 2000000 in
set_option maxRecDepth 100000 in
theorem idx_error (s : ByteArray) (hs : ∀ b ∈ s.data.toList, b.toNat < 128) (hm : s.size ≤ 1000) (w : World) :
    Calls Tryd.prog 44 #[.string s, .int .i32 65533] w fun e w' => e = .returned (.int .i64 (-1)) ∧ Below w.heap.size w w' := by
  have HA := hid hs
  clear hs
  go_enter Tryd.func44, Tryd.ntmps44
  go_wp2_with fail
  go_loopw [4] (fun _ wr => ∃ pos : Nat, pos ≤ s.size ∧ wr.heap[w.heap.size]? = some (.stringIter s pos) ∧ Hid (Below w.heap.size w wr)) (fun _ wr => s.size - wr.iterPos w.heap.size)
  case atStart => exact ⟨0, by omega, World.iter_heap w s 0, (Below.refl _ _).alloc (Nat.le_refl _) _⟩
  case round =>
    obtain ⟨pos, hp, hit, HB⟩ := hrel
    by_cases hlt : pos < s.size
    · have hb : (s[pos]'hlt).toNat < 128 := HA.out _ (Array.getElem_mem_toList (xs := s.data) hlt)
      have hnx : ∀ ty, (Instr.next (.pointer (some ⟨w.heap.size, 0, none⟩)) true ty).run Tryd.prog wr = _ := fun ty => Lib.run_next_ascii_at wr w.heap.size s pos ty hit hlt hb
      have hne : (((s[pos]'hlt).toNat : Int) == 65533) = false := by rw [beq_eq_false_iff_ne]; omega
      have hit2 := Lib.iterAt_heap wr w.heap.size s pos (pos + 1) hit
      have HB2 := hid (Lib.below_iterAt HB.out (k := w.heap.size) (Nat.le_refl _) s (pos + 1))
      go_wp2_with fail
      go_roundw
      case rel => exact ⟨pos + 1, by omega, hit2, HB2⟩
      case measure => rw [iterPos_of hit, iterPos_of hit2]; omega
    · have hnx : ∀ ty, (Instr.next (.pointer (some ⟨w.heap.size, 0, none⟩)) true ty).run Tryd.prog wr = _ := fun ty => Lib.run_next_end_at wr w.heap.size s pos ty hit hlt
      go_wp2_with fail
      go_ret
      exact ⟨rfl, HB.out⟩
set_option maxHeartbeats 4000000 in
set_option maxRecDepth 100000 in
theorem idx_high (s : ByteArray) (hs : ∀ b ∈ s.data.toList, b.toNat < 128) (hm : s.size ≤ 1000) (hm2 : 4 ≤ s.size) (r : Int) (hv : Utf8.valid r = true) (h0 : 128 ≤ r) (h1 : r ≠ 65533) (w : World) :
    Calls Tryd.prog 44 #[.string s, .int .i32 r] w fun e w' => e = .returned (.int .i64 (-1)) ∧ Below w.heap.size w w' := by
  obtain ⟨e2, e4, eb⟩ := encode_facts r hv h0
  have HV := hid hv
  have q1 : ¬ r < 128 := by omega
  have q0 : 0 ≤ r := by omega
  have q2 : (r == 65533) = false := by rw [beq_eq_false_iff_ne]; omega
  clear hv h1 h0
  generalize hE : Utf8.encode r = e at e2 e4 eb
  obtain ⟨L, hL⟩ : ∃ L, e.size = L + 1 := ⟨e.size - 1, by omega⟩
  have hL3 : L ≤ 3 := by omega
  have hL1 : 1 ≤ L := by omega
  have hLs : L < s.size := by omega
  have hLe : L < e.size := by omega
  have hbe : 128 ≤ (e[L]'hLe).toNat := by
    have h := eb (by omega)
    have hh : e.size - 1 = L := by omega
    simpa only [hh] using h
  have hbs : (s[L]'hLs).toNat < 128 := hs _ (Array.getElem_mem_toList (xs := s.data) hLs)
  have hfi := firstIdx_ascii s (L + 1) s.size (e[L]'hLe) hs hbe
  clear eb e2 e4
  have hsz : (e.size : Int) - 1 = (L : Int) := by omega
  have HS := hid hs; have HL := hid hL
  clear hs hL
  go_enter Tryd.func44, Tryd.ntmps44
  go_wp2_with fail
  refine (valid_yes r HV.out w).mono ?_
  rintro _ _ ⟨rfl, rfl⟩
  go_wp2_with fail
  go_step3
  go_wp2_with fail
  have hi1 : (L : Int) < (s.size : Int) := by omega
  have hi2 : (L : Int) < (e.size : Int) := by omega
  have hi0 : (0 : Int) ≤ (L : Int) := by omega
  have hne : ((s[L]'hLs).toNat : Int) ≠ ((e[L]'hLe).toNat : Int) := by omega
  have hne1 : (((s[L]'hLs).toNat : Int) == ((e[L]'hLe).toNat : Int)) = false := by rw [beq_eq_false_iff_ne]; exact hne
  have hw1 : IntKind.i64.wrap ((L : Int) + 1) = (L : Int) + 1 := IntWalk.i64_in _ (by omega)
  have hi3 : (L : Int) + 1 ≤ (s.size : Int) := by omega
  have hp1 : (0 : Int) ≤ (L : Int) + 1 := by omega
  clear hsz
  have ht : ((L : Int) + 1).toNat = L + 1 := by omega
  go_loopw [9] (fun i wr => i = .int .i64 (L : Int) ∧ wr = w) (fun _ _ => 0)
  case atStart => exact ⟨rfl, rfl⟩
  case round =>
    obtain ⟨rfl, rfl⟩ := hrel
    go_wp2_with fail
    go_step3
    go_wp2_with fail
    go_quiet (fail)
    go_wp2_with fail
    refine wp_region_class (fun w' => Below wr.heap.size wr w') (by kernel_rfl) (by kernel_rfl) ?_ ?_
    · exact ⟨rfl, rfl, rfl, Nat.le_refl _, fun _ _ => rfl⟩
    intro S _ at_ hS hin
    have HhS := hid hS; have Hin := hid hin; clear hS hin
    repeat (refine wpQuiet_step (fun K hK => ?_); go_simp; refine hK _ ?_; clear hK K)
    (refine wpQuiet_step (fun K hK => ?_); (refine quiet_callK rfl 46 #[.string (s.extract (L + 1) s.size), .int .u8 ((e[L]'hLe).toNat : Int)] (fun w => by go_simp) (.int .i64 (-1)) (fun x => (byte_calls _ _ _).mono fun e' w' h => ⟨by rw [h.1, by8_cast, hfi], x, h.2.symm⟩) ?_); go_simp; refine hK _ ?_; clear hK K)
    repeat (refine wpQuiet_step (fun K hK => ?_); go_simp; refine hK _ ?_; clear hK K)
    refine wpQuiet_nil ?_
    intro w' B
    go_wp2_with fail
    dsimp +zetaDelta only [Exit.noGoto, Exit.inBlock, Exit.then]
    go_ret
    exact ⟨rfl, B⟩
end Go.Proofs.YtgbjnndebdmijaaDoor
