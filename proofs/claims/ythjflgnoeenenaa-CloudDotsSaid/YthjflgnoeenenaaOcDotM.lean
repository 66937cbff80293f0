/- CloudDots: the mathematics. -/
import Derived.Test.YthjflgnoeenenaaClRef
namespace Go.Proofs.Ythjflgnoeenenaa
open Cl

theorem has_join {a b : Cd} (ha : checkC a = 0) (hb : checkC b = 0) (hl : a.2.length + b.2.length ≤ 4096) (d : Dt) : hasB (joinC a b) d = (hasB a d || hasB b d) := by
  have oa := check_ok ha; have ob := check_ok hb
  have l1 := join_len a b
  have cab := check_of (join_ok oa ob) (by omega)
  rw [has_ok cab, has_ok ha, has_ok hb, Bool.eq_iff_iff, Bool.or_eq_true, decide_eq_true_iff, decide_eq_true_iff, decide_eq_true_iff]
  exact join_in oa ob d
/-- the dots backward, each of them twice: Make answers the cloud itself -/
theorem make_back {c : Cd} (hc : checkC c = 0) (hl : c.2.length ≤ 2048) : makeC c.1 (backI c.2 c.2.length) = (c, 0) := by
  have oc := check_ok hc
  have hm := mem_back c.2
  have hr : ranged c.1 (backI c.2 c.2.length) := ⟨oc.rg.1, oc.rg.2.1, fun d hd => oc.rg.2.2 d ((hm d).1 hd)⟩
  have hlen : (backI c.2 c.2.length).length ≤ 4096 := by
    have h : ∀ l : List Dt, (l.flatMap fun d => [d, d]).length = 2 * l.length := fun l => by
      induction l with
      | nil => rfl
      | cons x r ih => rw [List.flatMap_cons, List.length_append, ih, List.length_cons]; simp; omega
    unfold backI
    rw [h, List.length_take, List.length_reverse]
    omega
  rw [make_ok hr hlen, back_form oc hm]
end Go.Proofs.Ythjflgnoeenenaa
