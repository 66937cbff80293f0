/- Contracts: the sums of the reference, the table's closure and the fold over bytes: each only reads. -/
import Derived.Test.YtiejndkchcljdaaProg
import Derived.Test.YtiejndkchcljdaaShift
namespace Go.Proofs.Ytiejndkchcljdaa
open Go.RowKit Crc
attribute [local go_sem] n_xor n_poly n_not n_not' n_bx n_low n_shr1 n_shr8 n_shr16 n_shr24 n_bxor

theorem refSum_calls (B n c : Nat) (A : Option Addr) (bs : List UInt8) (w : World) (hs : SB w B A n bs) (hn : n ≤ 1099511627776) :
    Calls Try.prog 91 #[.slice A n c] w fun e w' => e = .returned (.int .u32 ((sum bs).toNat : Int)) ∧ w = w' := by
  go_enter Try.func91, Try.ntmps91
  go_wp2_with fail
  refine (refMore_calls 0#32 B n c A bs _ hs hn).mono ?_
  rintro e w' ⟨rfl, rfl⟩
  go_wp2_with fail
  go_ret
  exact ⟨rfl, rfl⟩

/-- Block b holds the table. -/
def Table (w : World) (b : Nat) : Prop := ∀ i : UInt8, w.cell? ⟨b, i.toNat, none⟩ = some (.int .u32 ((sh8 (bx i)).toNat : Int))

theorem look_calls (r : R) (x : UInt8) (b : Nat) (w : World) (hT : Table w b) :
    Calls Try.prog 99 #[.int .u32 (r.toNat : Int), .int .u8 (x.toNat : Int), .pointer (some ⟨b, 0, none⟩)] w
      fun e w' => e = .returned (.int .u32 ((pass r x).toNat : Int)) ∧ w = w' := by
  have h1 := n_bx_lt (bxor (low8 r) x)
  have h2 := hT (bxor (low8 r) x)
  go_enter Try.func99, Try.ntmps99
  go_wp2_with fail
  go_ret
  exact ⟨ret_int (by rw [pass_table]; rfl), rfl⟩

theorem fold_calls (r : R) (b : Nat) (B n c : Nat) (A : Option Addr) (bs : List UInt8) (w : World) (hs : SB w B A n bs) (hn : n ≤ 1099511627776) (hT : Table w b) :
    Calls Try.prog 98 #[.int .u32 (r.toNat : Int), .slice A n c, .func (.func 99) #[] #[.pointer (some ⟨b, 0, none⟩)]] w
      fun e w' => e = .returned (.int .u32 ((passes r bs).toNat : Int)) ∧ w = w' := by
  go_enter Try.func98, Try.ntmps98
  go_wp2_with fail
  go_loop [0, 11] (fun v i => ∃ k : Nat, k ≤ n ∧ i = .int .i64 k ∧ v = .int .u32 ((passes r (bs.take k)).toNat : Int)) (fun _ i => n - (intOf i).toNat)
  case atStart => exact ⟨0, by omega, rfl, rfl⟩
  case round =>
    obtain ⟨k, hk, rfl, rfl⟩ := hrel
    by_cases hlt : k < n
    · obtain ⟨b', off, x, rfl, _, hx, hc⟩ := hs.at_ hlt
      have HX := hid hx; clear hx
      go_wp2_with fail
      refine (look_calls _ _ _ _ hT).mono ?_
      rintro e w' ⟨rfl, rfl⟩
      go_wp2_with fail
      go_round
      case rel => exact ⟨k + 1, by omega, by go_num, val_int (by rw [take_next _ _ _ _ HX.out])⟩
      case measure => simp [intOf]; omega
    · obtain rfl : k = n := by omega
      have hl := hid hs.1
      go_wp2_with fail
      go_ret
      exact ⟨ret_int (by rw [← hl.out, List.take_length]), rfl⟩
end Go.Proofs.Ytiejndkchcljdaa
