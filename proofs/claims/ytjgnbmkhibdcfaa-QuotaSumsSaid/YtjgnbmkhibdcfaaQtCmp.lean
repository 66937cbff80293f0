/- Contracts: links compared; the order of links. -/
import Derived.Test.YtjgnbmkhibdcfaaQtRem
import Derived.Test.YtjgnbmkhibdcfaaOwnCmp
import Derived.Test.YtjgnbmkhibdcfaaQuietC
import Derived.Sort.Grow
import Derived.Sort.Statements
import Derived.Lib.BytesEntry
import Derived.Deep.Draws
namespace Go.Proofs.Ytjgnbmkhibdcfaa
open Go.RowKit Crc
open Go.Sort (grow grow_grow alloc_eq_grow SWO)

/-- drawn on, and grown, no more -/
def Grown (w w' : World) : Prop := ∃ q os, w' = grow (w.drewN q) os
theorem Grown.refl (w : World) : Grown w w := ⟨0, #[], by simp [grow, World.drewN]⟩
theorem Grown.drew {w w' : World} (h : Grown w w') : Grown w w'.drew := by
  obtain ⟨q, os, rfl⟩ := h
  exact ⟨q + 1, os, rfl⟩
theorem Grown.alloc {w w' : World} (h : Grown w w') (o : Obj) : Grown w (w'.alloc o) := by
  obtain ⟨q, os, rfl⟩ := h
  exact ⟨q, os ++ #[o], by rw [alloc_eq_grow, grow_grow]⟩
theorem Grown.trans {w w' w'' : World} (h : Grown w w') (k : Grown w' w'') : Grown w w'' := by
  obtain ⟨q, os, rfl⟩ := h
  obtain ⟨q', os', rfl⟩ := k
  exact ⟨q + q', os ++ os', by
    rw [← grow_grow]
    unfold grow World.drewN
    simp [Nat.add_assoc]⟩
theorem Grown.below {w w' : World} (h : Grown w w') : Below w.heap.size w w' := by
  obtain ⟨q, os, rfl⟩ := h
  refine ⟨rfl, rfl, rfl, by simp [grow, World.drewN], fun k hk => ?_⟩
  show (w.heap ++ os)[k]? = w.heap[k]?
  rw [Array.getElem?_append_left hk]
theorem qstr_compare (a b : List UInt8) (w : World) : Calls Try.prog 72 #[.string (strB a), .string (strB b)] w fun e w' => e = .returned (.int .i64 (Lib.compareBytes a b)) ∧ w = w' := by
  have hrun : ∀ W, (callFunc 100 #[.string (strB a), .string (strB b)]).run Try.prog W = .ok (.value (.int .i64 (Lib.compareBytes a b))) W := fun W => by
    rw [run_callFunc_extern Try.func100 (by kernel_rfl) (by kernel_rfl) (by kernel_rfl) (e := Extern.BytealgCompare.compare) (by kernel_rfl), Lib.run_compareString]
    rfl
  have h2 : ∀ W, Calls Try.prog 89 #[.string (strB a), .string (strB b)] W fun e w' => e = .returned (.int .i64 (Lib.compareBytes a b)) ∧ W = w' := fun W => by
    go_enter Try.func89, Try.ntmps89
    go_wp2_with fail
    go_ret
    exact ⟨rfl, rfl⟩
  clear hrun
  go_enter Try.func72, Try.ntmps72
  go_wp2_with fail
  refine (h2 _).mono ?_
  rintro _ _ ⟨rfl, rfl⟩
  go_wp2_with fail
  go_ret
  exact ⟨rfl, rfl⟩
set_option maxRecDepth 20000 in
theorem qsha_compare (l m : List UInt8) (w : World) (hl : l.length = 32) (hm : m.length = 32) :
    Calls Try.prog 37 #[.agg (bcells l), .agg (bcells m)] w fun e w' => e = .returned (.int .i64 (cmpL l m)) ∧ Grown w w' := by
  have k0 := ((Blk.new w 32 (bcells l)).alloc (.cells (bcells m) 32))
  have k1 := (Blk.new (w.alloc (.cells (bcells l) 32)) 32 (bcells m))
  have b1 := (((Grown.refl w).alloc (.cells (bcells l) 32)).alloc (.cells (bcells m) 32))
  rw [size_new] at k1
  have K0 := hid k0; have K1 := hid k1; have B1 := hid b1; clear k0 k1 b1
  go_enter Try.func37, Try.ntmps37
  go_wp2_with fail
  generalize (w.alloc (.cells (bcells l) 32)).alloc (.cells (bcells m) 32) = wA at K0 K1 B1 ⊢
  generalize w.heap.size = g at K0 K1 ⊢
  refine wp_region_class (fun w' => Blk w' g _ _ ∧ Blk w' (g + 1) _ _ ∧ Grown w w') (by kernel_rfl) (by kernel_rfl) ⟨K0.out.drew, K1.out.drew, B1.out.drew⟩ ?_
  intro S _ at_ hS hin
  have HhS := hid hS; have Hin := hid hin; clear hS hin
  repeat (refine wpQuiet_step (fun K hK => ?_); go_simp; refine hK _ ?_; clear hK K)
  refine quiet_call rfl 53 #[.slice (some ⟨g, 0, none⟩) 32 32, .slice (some ⟨g + 1, 0, none⟩) 32 32] (fun w => by go_simp) _ (fun z => (bytes_compare (at_ z) l m g (g + 1) _ _ 32 32 (HhS.out z).1 (HhS.out z).2.1 hl hm).mono fun e w' ⟨he, hw⟩ => ⟨he, z, hw⟩) ?_
  repeat (refine wpQuiet_step (fun K hK => ?_); go_simp; refine hK _ ?_; clear hK K)
  refine wpQuiet_nil ?_
  clear HhS Hin
  rintro w' ⟨_, _, b1⟩
  go_wp2_with fail
  go_ret
  exact ⟨rfl, b1⟩
theorem run_slice2 (x y : Int) (W : World) : (Instr.buildSlice 63 2 #[(0, .int .i64 x), (1, .int .i64 y)]).run Try.prog W = .ok (.slice (some ⟨W.heap.size, 0, none⟩) 2 2) (W.alloc (.cells #[.int .i64 x, .int .i64 y] 3)) := by kernel_rfl
set_option maxHeartbeats 1000000 in
theorem qcmp_or (b : Nat) (x y r : Int) (hr : r = if x = 0 then y else x) (w : World) (h : Blk w b 3 #[.int .i64 x, .int .i64 y]) : Calls Try.prog 71 #[.slice (some ⟨b, 0, none⟩) 2 2] w fun e w' => e = .returned (.int .i64 r) ∧ w = w' := by
  have c0 := h.cell 0 (v := .int .i64 x) rfl
  have c1 := h.cell 1 (v := .int .i64 y) rfl
  have HR := hid hr
  clear h hr
  go_enter Try.func71, Try.ntmps71
  go_wp2_with fail
  go_loopw [8] (fun v8 wr => ∃ k : Nat, v8 = .int .i64 (k : Int) ∧ k ≤ 2 ∧ wr = w ∧ Hid ((0 < k → x = 0) ∧ (1 < k → y = 0))) (fun v8 _ => 2 - (intOf v8).toNat)
  case atStart => exact ⟨0, rfl, by omega, rfl, hid ⟨fun h => absurd h (by omega), fun h => absurd h (by omega)⟩⟩
  case round =>
    obtain ⟨k, rfl, hk, rfl, HK⟩ := hrel
    rcases Nat.lt_or_ge k 2 with h2 | h2
    · rcases Nat.lt_or_ge k 1 with h1 | h1
      · obtain rfl : k = 0 := by omega
        clear h1 h2 hk
        by_cases hx : x = 0
        · have HX := hid hx
          subst hx
          rw [show ((0 : Nat) : Int) = 0 from rfl]
          go_wp2_with fail
          go_roundw
          case rel => exact ⟨1, by simp, by omega, trivial, hid ⟨fun _ => trivial, fun h => absurd h (by omega)⟩⟩
          case measure => simp [intOf]
        · have HE := hid (show x = r from by rw [HR.out, if_neg hx])
          rw [show ((0 : Nat) : Int) = 0 from rfl]
          go_wp2_with fail
          go_ret
          exact ⟨by rw [← HE.out]; rfl, rfl⟩
      · obtain rfl : k = 1 := by omega
        have HX := hid (HK.out.1 (by omega))
        clear h1 h2 hk
        by_cases hy : y = 0
        · subst hy
          rw [show ((1 : Nat) : Int) = 1 from rfl]
          go_wp2_with fail
          go_roundw
          case rel => exact ⟨2, by simp, by omega, trivial, hid ⟨fun _ => HX.out, fun _ => trivial⟩⟩
          case measure => simp [intOf]
        · have HE := hid (show y = r from by rw [HR.out, if_pos HX.out])
          rw [show ((1 : Nat) : Int) = 1 from rfl]
          go_wp2_with fail
          go_ret
          exact ⟨by rw [← HE.out]; rfl, rfl⟩
    · obtain rfl : k = 2 := by omega
      have HE := hid (show 0 = r from by rw [HR.out, if_pos (HK.out.1 (by omega)), HK.out.2 (by omega)])
      rw [show ((2 : Nat) : Int) = 2 from rfl]
      go_wp2_with fail
      go_ret
      exact ⟨by rw [← HE.out]; rfl, rfl⟩
/-- the order of links -/
def cmpK (a b : LKey) : Int := if Lib.compareBytes a.1 b.1 = 0 then cmpL a.2 b.2 else Lib.compareBytes a.1 b.1
theorem cb_swap : ∀ a b : List UInt8, Lib.compareBytes b a = - Lib.compareBytes a b
  | [], [] => rfl
  | [], _ :: _ => rfl
  | _ :: _, [] => rfl
  | x :: a, y :: b => by
    have ih := cb_swap a b
    unfold Lib.compareBytes
    by_cases h1 : x < y
    · have h2 : ¬ y < x := fun h => absurd (UInt8.lt_trans h1 h) (UInt8.lt_irrefl x)
      rw [if_neg h2, if_pos h1, if_pos h1]; rfl
    · by_cases h2 : y < x
      · rw [if_pos h2, if_neg h1, if_pos h2]
      · rw [if_neg h2, if_neg h1, if_neg h1, if_neg h2]; exact ih
theorem cb_refl : ∀ a : List UInt8, Lib.compareBytes a a = 0
  | [] => rfl
  | x :: a => by
    unfold Lib.compareBytes
    rw [if_neg (UInt8.lt_irrefl x), if_neg (UInt8.lt_irrefl x)]
    exact cb_refl a
theorem cb_zero : ∀ a b : List UInt8, Lib.compareBytes a b = 0 → a = b
  | [], [], _ => rfl
  | [], _ :: _, h => by cases h
  | _ :: _, [], h => by cases h
  | x :: a, y :: b, h => by
    unfold Lib.compareBytes at h
    by_cases h1 : x < y
    · rw [if_pos h1] at h; cases h
    · by_cases h2 : y < x
      · rw [if_neg h1, if_pos h2] at h; cases h
      · rw [if_neg h1, if_neg h2] at h
        have e : x = y := UInt8.le_antisymm (UInt8.not_lt.1 h2) (UInt8.not_lt.1 h1)
        rw [e, cb_zero a b h]
theorem cb_trans : ∀ a b c : List UInt8, Lib.compareBytes a b < 0 → Lib.compareBytes b c < 0 → Lib.compareBytes a c < 0
  | [], [], _, h, _ => absurd h (by decide)
  | [], _ :: _, [], _, h => absurd h (by simp [Lib.compareBytes])
  | [], _ :: _, _ :: _, _, _ => by simp [Lib.compareBytes]
  | _ :: _, [], _, h, _ => absurd h (by simp [Lib.compareBytes])
  | _ :: _, _ :: _, [], _, h => absurd h (by simp [Lib.compareBytes])
  | x :: a, y :: b, z :: c, h1, h2 => by
    have ih := cb_trans a b c
    unfold Lib.compareBytes at h1 h2 ⊢
    by_cases e1 : x < y
    · by_cases e2 : y < z
      · rw [if_pos (UInt8.lt_trans e1 e2)]; decide
      · by_cases e3 : z < y
        · rw [if_neg e2, if_pos e3] at h2; exact absurd h2 (by decide)
        · have e : y = z := UInt8.le_antisymm (UInt8.not_lt.1 e3) (UInt8.not_lt.1 e2)
          rw [if_pos (e ▸ e1)]; decide
    · by_cases e3 : y < x
      · rw [if_neg e1, if_pos e3] at h1; exact absurd h1 (by decide)
      · have e : x = y := UInt8.le_antisymm (UInt8.not_lt.1 e3) (UInt8.not_lt.1 e1)
        rw [if_neg e1, if_neg e3] at h1
        subst e
        by_cases e2 : x < z
        · rw [if_pos e2]; decide
        · by_cases e4 : z < x
          · rw [if_neg e2, if_pos e4] at h2; exact absurd h2 (by decide)
          · rw [if_neg e2, if_neg e4] at h2 ⊢
            exact ih h1 h2
theorem cmpK_swap {a b : LKey} (ha : a.2.length = 32) (hb : b.2.length = 32) : cmpK b a = - cmpK a b := by
  unfold cmpK
  rw [cb_swap a.1 b.1, cmp_same a.2 b.2 (by rw [ha, hb]), cmp_same b.2 a.2 (by rw [ha, hb]), cb_swap a.2 b.2]
  by_cases h : Lib.compareBytes a.1 b.1 = 0
  · rw [if_pos h, if_pos (by omega)]
  · rw [if_neg h, if_neg (by omega)]
theorem cmpK_zero {a b : LKey} (ha : a.2.length = 32) (hb : b.2.length = 32) (h : cmpK a b = 0) : a = b := by
  unfold cmpK at h
  rw [cmp_same a.2 b.2 (by rw [ha, hb])] at h
  by_cases e : Lib.compareBytes a.1 b.1 = 0
  · rw [if_pos e] at h
    exact Prod.ext (cb_zero _ _ e) (cb_zero _ _ h)
  · rw [if_neg e] at h
    exact absurd h e
theorem cmpK_refl (a : LKey) : cmpK a a = 0 := by
  unfold cmpK
  rw [cmp_same a.2 a.2 rfl, cb_refl, cb_refl]
  rfl
theorem cmpK_trans {a b c : LKey} (ha : a.2.length = 32) (hb : b.2.length = 32) (hc : c.2.length = 32) (h1 : cmpK a b < 0) (h2 : cmpK b c < 0) : cmpK a c < 0 := by
  unfold cmpK at h1 h2 ⊢
  rw [cmp_same a.2 b.2 (by rw [ha, hb])] at h1
  rw [cmp_same b.2 c.2 (by rw [hb, hc])] at h2
  rw [cmp_same a.2 c.2 (by rw [ha, hc])]
  by_cases e1 : Lib.compareBytes a.1 b.1 = 0
  · rw [if_pos e1] at h1
    have e := cb_zero _ _ e1
    rw [e]
    by_cases e2 : Lib.compareBytes b.1 c.1 = 0
    · rw [if_pos e2] at h2 ⊢
      exact cb_trans _ _ _ h1 h2
    · rw [if_neg e2] at h2 ⊢
      exact h2
  · rw [if_neg e1] at h1
    by_cases e2 : Lib.compareBytes b.1 c.1 = 0
    · have e := cb_zero _ _ e2
      rw [← e, if_neg e1]
      exact h1
    · rw [if_neg e2] at h2
      have := cb_trans _ _ _ h1 h2
      rw [if_neg (by omega)]
      exact this
end Go.Proofs.Ytjgnbmkhibdcfaa
