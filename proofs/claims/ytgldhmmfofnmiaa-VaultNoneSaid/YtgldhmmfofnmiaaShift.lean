/- Contracts, the leaves: crc.shift and entrepotref01.pass: each returns what the plain function says and leaves the world as it is. -/
import Derived.Test.YtgldhmmfofnmiaaProg
import Derived.Test.YtgldhmmfofnmiaaNums
namespace Go.Proofs.Ytgldhmmfofnmiaa
open Go.RowKit Crc
attribute [local go_sem] n_xor n_poly n_not n_not' n_bx n_low n_shr1 n_shr8 n_shr16 n_shr24 n_bxor

theorem shift_calls (r : R) (w : World) :
    Calls Try.prog 99 #[.int .u32 (r.toNat : Int)] w fun e w' => e = .returned (.int .u32 ((sh r).toNat : Int)) ∧ w = w' := by
  cases h : r.getLsbD 0
  · have hb := n_even r h
    go_enter Try.func99, Try.ntmps99
    go_wp2
    go_ret
    exact ⟨ret_int (by rw [sh, if_neg (by rw [h]; decide)]), rfl⟩
  · have hb := n_odd r h
    go_enter Try.func99, Try.ntmps99
    go_wp2
    go_ret
    exact ⟨ret_int (by rw [sh, if_pos h]), rfl⟩

theorem take_next (r : R) (bs : List UInt8) (k : Nat) (x : UInt8) (h : bs[k]? = some x) : passes r (bs.take (k + 1)) = pass (passes r (bs.take k)) x := by
  rw [List.take_add_one, h, passes_append]; rfl

end Go.Proofs.Ytgldhmmfofnmiaa
