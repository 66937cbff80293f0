/- A device that is nil, or that nobody made. -/
import Derived.Test.YtiejndkchcljdaaDvOne
namespace Go.Proofs.Ytiejndkchcljdaa
open Go.RowKit

/-- a device that nobody made: nil, or one that does not know itself -/
def NoObj (w : World) (h : Value) : Prop := h = .pointer none ∨ ∃ g, h = .pointer (some ⟨g, 0, none⟩) ∧ w.cell? ⟨g, 0, none⟩ = some (.pointer none)
theorem NoObj.keep {w w' : World} {h : Value} (hn : NoObj w h) (hb : Below w.heap.size w w') : NoObj w' h := by
  rcases hn with rfl | ⟨g, rfl, hc⟩
  · exact .inl rfl
  · exact .inr ⟨g, rfl, (hb.cell (p := ⟨g, 0, none⟩) (lt_of_cell hc)).trans hc⟩
theorem eql_none_ptr {P : Program} (w : World) (t e : TypeId) (b : Option Addr) (h : P.underlying t = some (.pointer e)) :
    (binOp .eql t (.pointer none) (.pointer b)).run P w = .ok (.bool b.isNone) w := by
  have hq : ∀ d : Nat, (Op.equalIn (d + 1) t (.pointer none) (.pointer b)).run P w = .ok b.isNone w := fun d => by
    simp [Op.equalIn, run_underlying h]
  simp only [binOp]
  simp [Op.equal, Op.maxDepth, hq 9999]
theorem valid_none (h : Value) (w : World) (hn : NoObj w h) : Calls Try.prog 59 #[h] w fun e w' => e = .returned (.bool false) ∧ w = w' := by
  rcases hn with rfl | ⟨g, rfl, hc⟩
  · go_enter Try.func59, Try.ntmps59
    go_wp2_with fail
    go_ret
    exact ⟨rfl, rfl⟩
  · have he := fun W => eql_none_ptr (P := Try.prog) W 24 65 (some ⟨g, 0, none⟩) Try.underlying24
    go_enter Try.func59, Try.ntmps59
    go_wp2_with fail
    go_ret
    exact ⟨rfl, rfl⟩
theorem state_none (h : Value) (w : World) (hn : NoObj w h) : Calls Try.prog 55 #[h] w fun e w' => e = .returned (.int .i64 1) ∧ w = w' := by
  have HV := hid (valid_none h w hn)
  clear hn
  go_enter Try.func55, Try.ntmps55
  go_wp2_with fail
  refine HV.out.mono ?_
  rintro _ _ ⟨rfl, rfl⟩
  go_wp2_with fail
  go_ret
  exact ⟨rfl, rfl⟩
theorem nSize (h : Value) (w : World) (hn : NoObj w h) : Calls Try.prog 70 #[h] w fun e w' => e = .returned (.int .i64 0) ∧ w = w' := by
  have HV := hid (valid_none h w hn)
  clear hn
  go_enter Try.func70, Try.ntmps70
  go_wp2_with fail
  refine HV.out.mono ?_
  rintro _ _ ⟨rfl, rfl⟩
  go_wp2_with fail
  go_ret
  exact ⟨rfl, rfl⟩
end Go.Proofs.Ytiejndkchcljdaa
