/- Contract: the reference's turn. -/
import Derived.Test.YtajojeajibonpaaDoorProg
import Derived.Test.YtajojeajibonpaaDoorShaMath
import Derived.Test.YtajojeajibonpaaDoorWords
import Derived.BigQuiet
import Derived.Deep.QuietTactic
namespace Go.Proofs.YtajojeajibonpaaDoor
open Go.RowKit Crc
attribute [local go_sem] n_xor n_shrk n_or n_slk

theorem turn_calls (x : R) (n : Nat) (w : World) (h0 : 0 < n) (h1 : n < 32) :
    Calls Tryd.prog 44 #[.int .u32 (x.toNat : Int), .int .i64 (n : Int)] w fun e w' => e = .returned (.int .u32 ((turnR n x).toNat : Int)) ∧ ∃ m, w' = w.drewN m := by
  have i1 : IntKind.i64.wrap (32 - (n : Int)) = 32 - (n : Int) := IntWalk.i64_in _ (by omega)
  have i2 : (0 : Int) ≤ 32 - (n : Int) := by omega
  have i3 : (32 - (n : Int)).toNat = 32 - n := by omega
  have i4 : (0 : Int) ≤ (n : Int) := by omega
  go_enter Tryd.func44, Tryd.ntmps44
  go_wp2_with fail
  go_quiet (fail)
  go_wp2_with fail
  go_ret
  exact ⟨rfl, nq, rfl⟩
theorem turn_2 (x : R) (w : World) : Calls Tryd.prog 44 #[.int .u32 (x.toNat : Int), .int .i64 2] w fun e w' => e = .returned (.int .u32 ((turnR 2 x).toNat : Int)) ∧ ∃ m, w' = w.drewN m := turn_calls x 2 w (by omega) (by omega)
theorem turn_6 (x : R) (w : World) : Calls Tryd.prog 44 #[.int .u32 (x.toNat : Int), .int .i64 6] w fun e w' => e = .returned (.int .u32 ((turnR 6 x).toNat : Int)) ∧ ∃ m, w' = w.drewN m := turn_calls x 6 w (by omega) (by omega)
theorem turn_7 (x : R) (w : World) : Calls Tryd.prog 44 #[.int .u32 (x.toNat : Int), .int .i64 7] w fun e w' => e = .returned (.int .u32 ((turnR 7 x).toNat : Int)) ∧ ∃ m, w' = w.drewN m := turn_calls x 7 w (by omega) (by omega)
theorem turn_11 (x : R) (w : World) : Calls Tryd.prog 44 #[.int .u32 (x.toNat : Int), .int .i64 11] w fun e w' => e = .returned (.int .u32 ((turnR 11 x).toNat : Int)) ∧ ∃ m, w' = w.drewN m := turn_calls x 11 w (by omega) (by omega)
theorem turn_13 (x : R) (w : World) : Calls Tryd.prog 44 #[.int .u32 (x.toNat : Int), .int .i64 13] w fun e w' => e = .returned (.int .u32 ((turnR 13 x).toNat : Int)) ∧ ∃ m, w' = w.drewN m := turn_calls x 13 w (by omega) (by omega)
theorem turn_17 (x : R) (w : World) : Calls Tryd.prog 44 #[.int .u32 (x.toNat : Int), .int .i64 17] w fun e w' => e = .returned (.int .u32 ((turnR 17 x).toNat : Int)) ∧ ∃ m, w' = w.drewN m := turn_calls x 17 w (by omega) (by omega)
theorem turn_18 (x : R) (w : World) : Calls Tryd.prog 44 #[.int .u32 (x.toNat : Int), .int .i64 18] w fun e w' => e = .returned (.int .u32 ((turnR 18 x).toNat : Int)) ∧ ∃ m, w' = w.drewN m := turn_calls x 18 w (by omega) (by omega)
theorem turn_19 (x : R) (w : World) : Calls Tryd.prog 44 #[.int .u32 (x.toNat : Int), .int .i64 19] w fun e w' => e = .returned (.int .u32 ((turnR 19 x).toNat : Int)) ∧ ∃ m, w' = w.drewN m := turn_calls x 19 w (by omega) (by omega)
theorem turn_22 (x : R) (w : World) : Calls Tryd.prog 44 #[.int .u32 (x.toNat : Int), .int .i64 22] w fun e w' => e = .returned (.int .u32 ((turnR 22 x).toNat : Int)) ∧ ∃ m, w' = w.drewN m := turn_calls x 22 w (by omega) (by omega)
theorem turn_25 (x : R) (w : World) : Calls Tryd.prog 44 #[.int .u32 (x.toNat : Int), .int .i64 25] w fun e w' => e = .returned (.int .u32 ((turnR 25 x).toNat : Int)) ∧ ∃ m, w' = w.drewN m := turn_calls x 25 w (by omega) (by omega)
end Go.Proofs.YtajojeajibonpaaDoor
