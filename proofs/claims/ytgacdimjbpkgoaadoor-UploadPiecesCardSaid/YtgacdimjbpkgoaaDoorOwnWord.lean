/- Contract: the project's word. -/
import Derived.Test.YtgacdimjbpkgoaaDoorOwnTurn
import Derived.Test.YtgacdimjbpkgoaaDoorBlk
namespace Go.Proofs.YtgacdimjbpkgoaaDoor
open Go.RowKit Crc
attribute [local go_sem] n_xor n_bx n_shrk n_or n_slk n_sl8 n_sl16 n_sl24

theorem word_calls (b0 b1 b2 b3 : UInt8) (w : World) :
    Calls Tryd.prog 83 #[.agg #[.int .u8 (b0.toNat : Int), .int .u8 (b1.toNat : Int), .int .u8 (b2.toNat : Int), .int .u8 (b3.toNat : Int)]] w
      fun e w' => e = .returned (.int .u32 ((word b0 b1 b2 b3).toNat : Int)) ∧ Below w.heap.size w w' := by
  go_enter Tryd.func83, Tryd.ntmps83
  go_wp2_with fail
  go_ret
  exact ⟨rfl, below_new _ _⟩
theorem run_arrayAt' {P : Program} (t e : TypeId) (n : Nat) (A : Option Addr) (l c : Nat) (h : P.underlying t = some (.array n e)) (hl : n ≤ l) (w : World) :
    (Instr.arrayAt t (.slice A l c)).run P w = .ok (.pointer A) w := by
  simp [Instr.arrayAt, run_underlying h, show ¬ l < n by omega]
theorem quiet_turned {f : FuncId} {args : Array Value} {w : World} {v : Value} (h : Calls Tryd.prog f args w fun e w' => e = .returned v ∧ w = w') :
    Calls Tryd.prog f args w fun e w' => e = .returned v ∧ ∃ m, w' = w.drewN m := h.mono fun _ _ ⟨h1, h2⟩ => ⟨h1, 0, by rw [← h2]; rfl⟩
end Go.Proofs.YtgacdimjbpkgoaaDoor
