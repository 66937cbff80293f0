/- The table of package unicode that is listed: what the row's condition says of it, cell by cell; and that the program's own start lays it so. -/
import Derived.Test.YtgbjnndebdmijaaDoorRows
import Derived.WalkKit
import Derived.ProofKit
import Derived.LaidMore
import Derived.OpenShut
import Derived.Stop.Joined
import Derived.Test.YtgbjnndebdmijaaDoorNmTitle
namespace Go.Proofs.YtgbjnndebdmijaaDoor
open Go.ChangeShapes Go.WideShapes Go.ChangeAt Go.RowKit

def nameLaid : List (String × DataW Unit) := [("unicode.properties", Rows.laid_unicode_properties)]
theorem gProps : Tryd.prog.globalNamed "unicode.properties" = some 0 := by kernel_rfl
theorem tProps : (Tryd.prog.globals[0]?).map (·.type) = some 65 := by kernel_rfl
theorem door_met (os : Os) (args : Array Value) : laidMetH Tryd.prog nameLaid ((World.doorLaid Tryd.prog 19 os).forCall (fun _ _ => 0) ⟨#[], args, []⟩).memory :=
  laidMetH_of_parts3 (fuel := 8) (laidMet_of_run' 8 (by kernel_rfl) (by kernel_rfl)) (by kernel_rfl) (by kernel_rfl)

theorem bytes_at {H : Type} {enc : TypeId × Value → H} {P : Program} {w : World} {base fuel n : Nat} {sp : Nat → Bool} {held : Bool} {t e : TypeId} {cs : List Value} {x : DataW H} {p : List MemPlace}
    (ht : P.underlying t = some (.array n e)) (he : P.underlying e = some (.int .u8)) (hce : P.cellsOf e = 1) (hd : DataW.trod enc P w base sp held fuel t cs = some (x, p))
    (l : List (DataW H)) (hl : l.length = n) (hx : x = .agg l) : ∀ (i : Nat) (r : Int), l[i]? = some (.lit (.int .u8 r)) → cs[i]? = some (.int .u8 r) := by
  obtain ⟨xs, m, rfl, hx1, hlen, hn, hel⟩ := DataW.trod_array ht hd
  intro i r hr
  have hi : i < n := by rw [← hl]; exact (List.getElem?_eq_some_iff.1 hr).1
  have h := hel i hi
  rw [hce, Nat.mul_one] at h
  have hy : xs[i]? = some (xs[i]'(by omega)) := List.getElem?_eq_getElem (by omega)
  rw [hy] at h
  obtain ⟨k, e1, e2, _⟩ := DataW.trod_int he h
  have hx2 : xs.map (·.1) = l := by
    simp only [Prod.mk.injEq] at hx1
    rw [hx] at hx1
    exact (DataW.agg.inj hx1.1).symm
  have h3 := congrArg (fun z => z[i]?) hx2
  simp only [List.getElem?_map, hy, hr, Option.map_some, Option.some.injEq] at h3
  rw [e2] at h3
  simp only [DataW.lit.injEq, Lit.int.injEq, true_and] at h3
  subst h3
  have h4 : ((cs.drop i).take 1)[0]? = some (.int .u8 k) := by rw [e1]; rfl
  rw [List.getElem?_take] at h4
  simpa using h4
def propData {H : Type} : List (DataW H) := match (Rows.laid_unicode_properties : DataW H) with | .agg l => l | _ => []
theorem prop_data {H : Type} : (Rows.laid_unicode_properties : DataW H) = .agg propData := rfl
theorem prop_length {H : Type} : (propData : List (DataW H)).length = 256 := by kernel_rfl
theorem prop_at {H : Type} (i : Nat) (x : Int) (h : (i, x) ∈ props) : (propData : List (DataW H))[i]? = some (.lit (.int .u8 x)) := by
  simp only [props, List.mem_cons, Prod.mk.injEq, List.not_mem_nil, or_false] at h
  rcases h with ⟨rfl, rfl⟩ | ⟨rfl, rfl⟩ | ⟨rfl, rfl⟩ | ⟨rfl, rfl⟩ | ⟨rfl, rfl⟩ | ⟨rfl, rfl⟩ | ⟨rfl, rfl⟩ <;> rfl
theorem glob_of_laid {W : World} (h : laidMetH Tryd.prog nameLaid W) : NGlob W := by
  rw [MakeChecks.laidMetH_plain _ _ _ (by kernel_rfl)] at h
  obtain ⟨ps, ⟨g0, t0, cs0, f0, p0, q0, hg0, ht0, hv0, hd0, _, _⟩, _, _⟩ := h
  obtain rfl := Option.some.inj (gProps.symm.trans hg0)
  obtain rfl := Option.some.inj (tProps.symm.trans ht0)
  intro i x hx
  have h := bytes_at Tryd.underlying65 Tryd.underlying5 (by kernel_rfl) hd0 propData prop_length prop_data i x (prop_at i x hx)
  rw [World.var?_cell hg0 hv0 i]
  simpa using h
end Go.Proofs.YtgbjnndebdmijaaDoor
