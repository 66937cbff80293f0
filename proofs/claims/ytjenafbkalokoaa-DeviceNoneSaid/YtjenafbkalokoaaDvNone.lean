/- A device that is nil, or that nobody made; the law DeviceNone, walked. -/
import Derived.Test.YtjenafbkalokoaaDvKnown
namespace Go.Proofs.Ytjenafbkalokoaa
open Go.RowKit

/-- a device that nobody made: nil, or one that does not know itself -/
def NoObj (w : World) (h : Value) : Prop := h = .pointer none ∨ ∃ g, h = .pointer (some ⟨g, 0, none⟩) ∧ w.cell? ⟨g, 0, none⟩ = some (.pointer none)
theorem NoObj.keep {w w' : World} {h : Value} (hn : NoObj w h) (hb : Below w.heap.size w w') : NoObj w' h := by
  rcases hn with rfl | ⟨g, rfl, hc⟩
  · exact .inl rfl
  · exact .inr ⟨g, rfl, (hb.cell (p := ⟨g, 0, none⟩) (lt_of_cell hc)).trans hc⟩
theorem eql_none_ptr {P : Program} (w : World) (t e : TypeId) (b : Option Addr) (h : P.underlying t = some (.pointer e)) :
    (binOp .eql t (.pointer none) (.pointer b)).run P w = .ok (.bool b.isNone) w := by
  have hq : ∀ d : Nat, (Op.equalIn (d + 1) t (.pointer none) (.pointer b)).run P w = .ok b.isNone w := fun d => by
    simp [Op.equalIn, run_underlying h]
  simp only [binOp]
  simp [Op.equal, Op.maxDepth, hq 9999]
theorem valid_none (h : Value) (w : World) (hn : NoObj w h) : Calls Try.prog 41 #[h] w fun e w' => e = .returned (.bool false) ∧ w = w' := by
  rcases hn with rfl | ⟨g, rfl, hc⟩
  · go_enter Try.func41, Try.ntmps41
    go_wp2_with fail
    go_ret
    exact ⟨rfl, rfl⟩
  · have he := fun W => eql_none_ptr (P := Try.prog) W 25 48 (some ⟨g, 0, none⟩) Try.underlying25
    go_enter Try.func41, Try.ntmps41
    go_wp2_with fail
    go_ret
    exact ⟨rfl, rfl⟩
theorem state_none (h : Value) (w : World) (hn : NoObj w h) : Calls Try.prog 43 #[h] w fun e w' => e = .returned (.int .i64 1) ∧ w = w' := by
  have HV := hid (valid_none h w hn)
  clear hn
  go_enter Try.func43, Try.ntmps43
  go_wp2_with fail
  refine HV.out.mono ?_
  rintro _ _ ⟨rfl, rfl⟩
  go_wp2_with fail
  go_ret
  exact ⟨rfl, rfl⟩
theorem nSize (h : Value) (w : World) (hn : NoObj w h) : Calls Try.prog 13 #[h] w fun e w' => e = .returned (.int .i64 0) ∧ w = w' := by
  have HV := hid (valid_none h w hn)
  clear hn
  go_enter Try.func13, Try.ntmps13
  go_wp2_with fail
  refine HV.out.mono ?_
  rintro _ _ ⟨rfl, rfl⟩
  go_wp2_with fail
  go_ret
  exact ⟨rfl, rfl⟩
theorem nOut (h : Value) (w : World) (hn : NoObj w h) : Calls Try.prog 15 #[h] w fun e w' => e = .returned (.bool false) ∧ w = w' := by
  have HV := hid (valid_none h w hn)
  clear hn
  go_enter Try.func15, Try.ntmps15
  go_wp2_with fail
  refine HV.out.mono ?_
  rintro _ _ ⟨rfl, rfl⟩
  go_wp2_with fail
  go_ret
  exact ⟨rfl, rfl⟩
theorem nLoose (h : Value) (w : World) (hn : NoObj w h) : Calls Try.prog 17 #[h] w fun e w' => e = .returned (.int .i64 0) ∧ w = w' := by
  have HV := hid (valid_none h w hn)
  clear hn
  go_enter Try.func17, Try.ntmps17
  go_wp2_with fail
  refine HV.out.mono ?_
  rintro _ _ ⟨rfl, rfl⟩
  go_wp2_with fail
  go_ret
  exact ⟨rfl, rfl⟩
theorem nRead (h : Value) (i : Int) (w : World) (hn : NoObj w h) : Calls Try.prog 19 #[h, .int .i64 i] w fun e w' => e = .returned (.tuple #[.slice none 0 0, .int .i64 1]) ∧ w = w' := by
  have HV := hid (state_none h w hn)
  clear hn
  go_enter Try.func19, Try.ntmps19
  go_wp2_with fail
  refine HV.out.mono ?_
  rintro _ _ ⟨rfl, rfl⟩
  go_wp2_with fail
  go_ret2
  exact ⟨rfl, rfl⟩
theorem nImage (h : Value) (i : Int) (w : World) (hn : NoObj w h) : Calls Try.prog 21 #[h, .int .i64 i] w fun e w' => e = .returned (.tuple #[.slice none 0 0, .int .i64 1]) ∧ w = w' := by
  have HV := hid (valid_none h w hn)
  clear hn
  go_enter Try.func21, Try.ntmps21
  go_wp2_with fail
  refine HV.out.mono ?_
  rintro _ _ ⟨rfl, rfl⟩
  go_wp2_with fail
  go_ret2
  exact ⟨rfl, rfl⟩
theorem nWrite (h : Value) (i : Int) (A : Option Addr) (n c : Nat) (w : World) (hn : NoObj w h) : Calls Try.prog 25 #[h, .int .i64 i, .slice A n c] w fun e w' => e = .returned (.int .i64 1) ∧ w = w' := by
  have HV := hid (state_none h w hn)
  clear hn
  go_enter Try.func25, Try.ntmps25
  go_wp2_with fail
  refine HV.out.mono ?_
  rintro _ _ ⟨rfl, rfl⟩
  go_wp2_with fail
  go_ret
  exact ⟨rfl, rfl⟩
theorem nFlush (h : Value) (w : World) (hn : NoObj w h) : Calls Try.prog 26 #[h] w fun e w' => e = .returned (.int .i64 1) ∧ w = w' := by
  have HV := hid (state_none h w hn)
  clear hn
  go_enter Try.func26, Try.ntmps26
  go_wp2_with fail
  refine HV.out.mono ?_
  rintro _ _ ⟨rfl, rfl⟩
  go_wp2_with fail
  go_ret
  exact ⟨rfl, rfl⟩
theorem nFuse (h : Value) (i : Int) (w : World) (hn : NoObj w h) : Calls Try.prog 27 #[h, .int .i64 i] w fun e w' => e = .returned (.int .i64 1) ∧ w = w' := by
  have HV := hid (state_none h w hn)
  clear hn
  go_enter Try.func27, Try.ntmps27
  go_wp2_with fail
  refine HV.out.mono ?_
  rintro _ _ ⟨rfl, rfl⟩
  go_wp2_with fail
  go_ret
  exact ⟨rfl, rfl⟩
theorem nCrash (h : Value) (A : Option Addr) (n c : Nat) (i : Int) (w : World) (hn : NoObj w h) : Calls Try.prog 28 #[h, .slice A n c, .int .i64 i] w fun e w' => e = .returned (.int .i64 1) ∧ w = w' := by
  have HV := hid (valid_none h w hn)
  clear hn
  go_enter Try.func28, Try.ntmps28
  go_wp2_with fail
  refine HV.out.mono ?_
  rintro _ _ ⟨rfl, rfl⟩
  go_wp2_with fail
  go_ret
  exact ⟨rfl, rfl⟩
theorem none_long (z : Int) (A : Option Addr) (n c : Nat) (w : World) (h : 70 < n) : Calls Try.prog 4 #[.int .i64 z, .slice A n c] w fun e w' => e = .returned (.bool true) ∧ Below w.heap.size w w' := by
  go_enter Try.func4, Try.ntmps4
  go_wp2_with fail
  refine (awake_calls w).mono ?_
  rintro _ w1 ⟨rfl, h1⟩
  have H := hid h1
  clear h1
  go_wp2_with fail
  go_ret
  exact ⟨rfl, H.out⟩
set_option maxHeartbeats 4000000 in
set_option maxRecDepth 20000 in
theorem none_short (z : Int) (A : Option Addr) (n c : Nat) (w : World) (hn : n ≤ 70) : Calls Try.prog 4 #[.int .i64 z, .slice A n c] w fun e w' => e = .returned (.bool true) ∧ Below w.heap.size w w' := by
  have hn' : ¬ 70 < n := by omega
  have hnd : decide ((70 : Int) < (n : Int)) = false := by simp; omega
  go_enter Try.func4, Try.ntmps4
  go_wp2_with fail
  clear hn hn' hnd
  have b1 := below_new w (.cells #[.pointer none, .slice none 0 0, .slice none 0 0, .slice none 0 0, .nilFunc, .bool false] 48)
  have k1 := Blk.new w 48 #[.pointer none, .slice none 0 0, .slice none 0 0, .slice none 0 0, .nilFunc, .bool false]
  have s1 := size_new w (.cells #[.pointer none, .slice none 0 0, .slice none 0 0, .slice none 0 0, .nilFunc, .bool false] 48)
  generalize w.alloc (.cells #[.pointer none, .slice none 0 0, .slice none 0 0, .slice none 0 0, .nilFunc, .bool false] 48) = w1 at b1 k1 s1 ⊢
  rw [← s1]
  have b2 := below_new w1 (.cells #[.pointer none, .pointer (some ⟨w.heap.size, 0, none⟩)] 25)
  have k2 := Blk.new w1 25 #[.pointer none, .pointer (some ⟨w.heap.size, 0, none⟩)]
  generalize w1.alloc (.cells #[.pointer none, .pointer (some ⟨w.heap.size, 0, none⟩)] 25) = W at b2 k2 ⊢
  have HW := hid (show ∀ k, k < 2 → ∃ h, W.cell? ⟨w1.heap.size, k, none⟩ = some h ∧ NoObj W h from fun k hk => by
    match k, hk with
    | 0, _ => exact ⟨_, k2.cell 0 rfl, .inl rfl⟩
    | 1, _ => exact ⟨_, k2.cell 1 rfl, .inr ⟨_, rfl, (k1.keep b2).cell 0 rfl⟩⟩
    | n + 2, h => omega)
  have B := hid (show Below w.heap.size w W from b1.trans (b2.mono b1.size))
  clear b1 b2 k1 k2 s1
  generalize w1.heap.size = G1 at HW ⊢
  go_loopw [6, 7, 8, 9, 10, 11] (fun i _ _ _ _ _ wr => ∃ k : Nat, k ≤ 2 ∧ i = .int .i64 (k : Int) ∧ wr = W) (fun i _ _ _ _ _ _ => 2 - (intOf i).toNat)
  case atStart => exact ⟨0, by omega, rfl, rfl⟩
  case round =>
    obtain ⟨k, hk, rfl, rfl⟩ := hrel
    by_cases hlt : k < 2
    · obtain ⟨h, hc, hn⟩ := HW.out k hlt
      have HH := hid hn
      clear hn
      have q0 : (k : Int) < 2 := by omega
      have p0 : (0 : Int) ≤ (k : Int) := by omega
      go_wp2_with fail
      refine (nRead h _ _ HH.out).mono ?_
      rintro _ _ ⟨rfl, rfl⟩
      go_wp2_with fail
      refine (nImage h _ _ HH.out).mono ?_
      rintro _ _ ⟨rfl, rfl⟩
      go_wp2_with fail
      refine (nSize h _ HH.out).mono ?_
      rintro _ _ ⟨rfl, rfl⟩
      go_wp2_with fail
      refine (nLoose h _ HH.out).mono ?_
      rintro _ _ ⟨rfl, rfl⟩
      go_wp2_with fail
      refine (nOut h _ HH.out).mono ?_
      rintro _ _ ⟨rfl, rfl⟩
      go_wp2_with fail
      refine (nWrite h _ _ _ _ _ HH.out).mono ?_
      rintro _ _ ⟨rfl, rfl⟩
      go_wp2_with fail
      refine (nFlush h _ HH.out).mono ?_
      rintro _ _ ⟨rfl, rfl⟩
      go_wp2_with fail
      refine (nFuse h _ _ HH.out).mono ?_
      rintro _ _ ⟨rfl, rfl⟩
      go_wp2_with fail
      refine (nCrash h _ _ _ _ _ HH.out).mono ?_
      rintro _ _ ⟨rfl, rfl⟩
      go_wp2_with fail
      go_roundw
      case rel => exact ⟨k + 1, by omega, by go_num, trivial⟩
      case measure => simp [intOf]; omega
    · obtain rfl : k = 2 := by omega
      go_wp2_with fail
      refine (awake_calls _).mono ?_
      rintro _ w2 ⟨rfl, h1⟩
      have H := hid (B.out.trans (h1.mono B.out.size))
      clear h1
      go_wp2_with fail
      go_ret
      exact ⟨rfl, H.out⟩
end Go.Proofs.Ytjenafbkalokoaa
