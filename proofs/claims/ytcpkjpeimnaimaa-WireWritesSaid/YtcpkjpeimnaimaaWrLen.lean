/- Contracts: bits.Len64, bits.Len, wire.numberSize. -/
import Derived.Test.YtcpkjpeimnaimaaProg
import Derived.Test.YtcpkjpeimnaimaaWrMath
import Derived.WalkKit
import Derived.Lib.Walk
import Derived.Lib.Small
import Derived.Lib.Strings
import Derived.Lib.Slices
namespace Go.Proofs.Ytcpkjpeimnaimaa
open Go.RowKit

attribute [local go_sem] Lib.len8tab_size
theorem tab_at (y : Int) (h0 : 0 ≤ y) (h1 : y ≤ 255) (h : y.toNat < Lib.len8tab.size) (m : Nat) (e : y.toNat = m) : wrap64 (((Lib.len8tab[y.toNat]'h).toNat : Nat) : Int) = (Lib.bitLen m : Int) ∧ Lib.bitLen m ≤ 8 := by
  have e1 := Lib.len8_of y h0 h1
  have e2 := Lib.bitLen_le8' y h0 h1
  unfold Lib.len8 at e1
  simp only [ByteArray.getElem?_lt' _ _ h, Option.getD_some] at e1
  rw [e1, ← e]
  exact ⟨IntWalk.wrap64_in _ (by omega), e2⟩
theorem tab_sum (k : Nat) (hk : k ≤ 56) (y : Int) (h0 : 0 ≤ y) (h1 : y ≤ 255) (h : y.toNat < Lib.len8tab.size) (m x : Nat) (e : y.toNat = m) (hx : Lib.bitLen x = k + Lib.bitLen m) :
    wrap64 ((k : Int) + wrap64 (((Lib.len8tab[y.toNat]'h).toNat : Nat) : Int)) = (Lib.bitLen x : Int) := by
  obtain ⟨e1, e2⟩ := tab_at y h0 h1 h m e
  rw [e1, hx, IntWalk.wrap64_in _ (by omega)]
  omega
set_option maxRecDepth 20000 in
theorem len64_calls (x : Int) (w : World) (h0 : 0 ≤ x) (h1 : x ≤ 18446744073709551615) :
    Calls Try.prog 84 #[.int .u64 x] w fun e w' => e = .returned (.int .i64 (Lib.bitLen x.toNat)) ∧ w = w' := by
  go_enter Try.func84, Try.ntmps84
  go_wp2
  all_goals (go_ret; refine ⟨congrArg Ending.returned (congrArg (Value.int IntKind.i64) ?_), rfl⟩)
  · exact tab_sum 56 (by omega) _ (by omega) (by omega) _ (x.toNat / 72057594037927936) _ (by omega) (Lib.bitLen_shift56 x.toNat (by omega) (by omega))
  · exact tab_sum 48 (by omega) _ (by omega) (by omega) _ (x.toNat / 281474976710656) _ (by omega) (Lib.bitLen_shift48 x.toNat (by omega) (by omega))
  · exact tab_sum 40 (by omega) _ (by omega) (by omega) _ (x.toNat / 1099511627776) _ (by omega) (Lib.bitLen_shift40 x.toNat (by omega) (by omega))
  · exact tab_sum 32 (by omega) _ (by omega) (by omega) _ (x.toNat / 4294967296) _ (by omega) (Lib.bitLen_shift32 x.toNat (by omega) (by omega))
  · exact tab_sum 24 (by omega) _ (by omega) (by omega) _ (x.toNat / 16777216) _ (by omega) (Lib.bitLen_shift24 x.toNat (by omega) (by omega))
  · exact tab_sum 16 (by omega) _ (by omega) (by omega) _ (x.toNat / 65536) _ (by omega) (Lib.bitLen_shift16 x.toNat (by omega) (by omega))
  · exact tab_sum 8 (by omega) _ (by omega) (by omega) _ (x.toNat / 256) _ (by omega) (Lib.bitLen_shift8 x.toNat (by omega) (by omega))
  · obtain ⟨e1, e2⟩ := tab_at x (by omega) (by omega) (by rw [Lib.len8tab_size]; omega) _ rfl
    rw [e1]
    exact IntWalk.wrap64_in _ (by omega)
theorem len_calls (x : Int) (w : World) (h0 : 0 ≤ x) (h1 : x ≤ 18446744073709551615) :
    Calls Try.prog 82 #[.int .u64 x] w fun e w' => e = .returned (.int .i64 (Lib.bitLen x.toNat)) ∧ w = w' := by
  go_enter Try.func82, Try.ntmps82
  go_wp2_with fail
  refine (len64_calls x w h0 h1).mono ?_
  rintro _ _ ⟨rfl, rfl⟩
  go_wp2_with fail
  go_ret
  exact ⟨rfl, rfl⟩
theorem size_calls (n : Nat) (w : World) (h : n < 9223372036854775808) :
    Calls Try.prog 79 #[.int .i64 (n : Int)] w fun e w' => e = .returned (.int .i64 (encSize n : Int)) ∧ w = w' := by
  by_cases hn : n < 192
  · go_enter Try.func79, Try.ntmps79
    go_wp2_with fail
    go_ret
    exact ⟨ret_int (by rw [encSize_one hn]; rfl), rfl⟩
  · have hk := kOf_bounds (n := n) (by omega) (by omega)
    have he := encSize_k (n := n) (by omega)
    have hb : Lib.bitLen n ≤ 64 := Lib.bitLen_le n 64 (by omega) (by omega)
    have hdef : kOf n = (Lib.bitLen n + 7) / 8 := rfl
    go_enter Try.func79, Try.ntmps79
    go_wp2_with fail
    refine (len_calls (n : Int) w (by omega) (by omega)).mono ?_
    rintro _ _ ⟨rfl, rfl⟩
    rw [Int.toNat_natCast]
    generalize Lib.bitLen n = q at hb hdef ⊢
    go_wp2_with fail
    go_ret
    exact ⟨ret_int (by omega), rfl⟩
end Go.Proofs.Ytcpkjpeimnaimaa
