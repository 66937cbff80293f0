/- Contracts, the leaves: crc.shift and entrepotref01.pass: each returns what the plain function says and leaves the world as it is. -/
import Derived.Test.YtiejndkchcljdaaProg
import Derived.Test.YtiejndkchcljdaaNums
namespace Go.Proofs.Ytiejndkchcljdaa
open Go.RowKit Crc
attribute [local go_sem] n_xor n_poly n_not n_not' n_bx n_low n_shr1 n_shr8 n_shr16 n_shr24 n_bxor

theorem shift_calls (r : R) (w : World) :
    Calls Try.prog 97 #[.int .u32 (r.toNat : Int)] w fun e w' => e = .returned (.int .u32 ((sh r).toNat : Int)) ∧ w = w' := by
  cases h : r.getLsbD 0
  · have hb := n_even r h
    go_enter Try.func97, Try.ntmps97
    go_wp2
    go_ret
    exact ⟨ret_int (by rw [sh, if_neg (by rw [h]; decide)]), rfl⟩
  · have hb := n_odd r h
    go_enter Try.func97, Try.ntmps97
    go_wp2
    go_ret
    exact ⟨ret_int (by rw [sh, if_pos h]), rfl⟩

theorem refPass_calls (r : R) (b : UInt8) (w : World) :
    Calls Try.prog 100 #[.int .u32 (r.toNat : Int), .int .u8 (b.toNat : Int)] w fun e w' => e = .returned (.int .u32 ((pass r b).toNat : Int)) ∧ w = w' := by
  go_enter Try.func100, Try.ntmps100
  go_wp2
  go_loop [0, 5] (fun v i => ∃ k : Nat, k ≤ 8 ∧ i = .int .i64 k ∧ v = .int .u32 ((shs k (xr r (bx b))).toNat : Int)) (fun _ i => 8 - (intOf i).toNat)
  case atStart => exact ⟨0, by omega, rfl, rfl⟩
  case round =>
    obtain ⟨k, hk, rfl, rfl⟩ := hrel
    by_cases hlt : k < 8
    · cases h : (shs k (xr r (bx b))).getLsbD 0
      · have hb := n_even _ h
        have E := hid (sh_even _ h); clear h
        go_wp2
        go_round
        case rel => exact ⟨k + 1, by omega, by go_num, val_int (by rw [shs, E.out])⟩
        case measure => simp [intOf]; omega
      · have hb := n_odd _ h
        have E := hid (sh_odd _ h); clear h
        go_wp2
        go_round
        case rel => exact ⟨k + 1, by omega, by go_num, val_int (by rw [shs, E.out])⟩
        case measure => simp [intOf]; omega
    · obtain rfl : k = 8 := by omega
      go_wp2
      go_ret
      exact ⟨rfl, rfl⟩

theorem take_next (r : R) (bs : List UInt8) (k : Nat) (x : UInt8) (h : bs[k]? = some x) : passes r (bs.take (k + 1)) = pass (passes r (bs.take k)) x := by
  rw [List.take_add_one, h, passes_append]; rfl

theorem refMore_calls (s : R) (B n c : Nat) (A : Option Addr) (bs : List UInt8) (w : World) (hs : SB w B A n bs) (hn : n ≤ 1099511627776) :
    Calls Try.prog 95 #[.int .u32 (s.toNat : Int), .slice A n c] w fun e w' => e = .returned (.int .u32 ((more s bs).toNat : Int)) ∧ w = w' := by
  go_enter Try.func95, Try.ntmps95
  go_wp2_with fail
  go_loop [5, 6] (fun v i => ∃ k : Nat, k ≤ n ∧ i = .int .i64 k ∧ v = .int .u32 ((passes (nt s) (bs.take k)).toNat : Int)) (fun _ i => n - (intOf i).toNat)
  case atStart => exact ⟨0, by omega, rfl, rfl⟩
  case round =>
    obtain ⟨k, hk, rfl, rfl⟩ := hrel
    by_cases hlt : k < n
    · obtain ⟨b, off, x, rfl, _, hx, hc⟩ := hs.at_ hlt
      have HX := hid hx; clear hx
      go_wp2_with fail
      refine (refPass_calls _ _ _).mono ?_
      rintro e w' ⟨rfl, rfl⟩
      go_wp2_with fail
      go_round
      case rel => exact ⟨k + 1, by omega, by go_num, val_int (by rw [take_next _ _ _ _ HX.out])⟩
      case measure => simp [intOf]; omega
    · obtain rfl : k = n := by omega
      have hl := hid hs.1
      go_wp2_with fail
      go_ret
      exact ⟨ret_int (by rw [← hl.out, List.take_length]; rfl), rfl⟩
end Go.Proofs.Ytiejndkchcljdaa
