/- The two tables of package sha: what the row's condition says of them, cell by cell; and that the program's own start lays them so. -/
import Derived.Test.YtgacdimjbpkgoaaDoorRows
import Derived.WalkKit
import Derived.ProofKit
import Derived.LaidMore
import Derived.OpenShut
import Derived.Stop.Joined
import Derived.Test.YtgacdimjbpkgoaaDoorOwnMix
namespace Go.Proofs.YtgacdimjbpkgoaaDoor
open Go.ChangeShapes Go.WideShapes Go.ChangeAt Go.RowKit Crc

def shaLaid : List (String × DataW Unit) := [("entrepot/sha.first", Rows.laid_entrepot_sha_first), ("entrepot/sha.added", Rows.laid_entrepot_sha_added)]
theorem gFirst : Tryd.prog.globalNamed "entrepot/sha.first" = some 0 := by kernel_rfl
theorem gAdded : Tryd.prog.globalNamed "entrepot/sha.added" = some 1 := by kernel_rfl
theorem tFirst : (Tryd.prog.globals[0]?).map (·.type) = some 95 := by kernel_rfl
theorem tAdded : (Tryd.prog.globals[1]?).map (·.type) = some 134 := by kernel_rfl

theorem door_met (os : Os) (args : Array Value) : laidMetH Tryd.prog shaLaid ((World.doorLaid Tryd.prog 19 os).forCall (fun _ _ => 0) ⟨#[], args, []⟩).memory :=
  laidMetH_of_parts3 (fuel := 8) (laidMet_of_run' 8 (by kernel_rfl) (by kernel_rfl)) (by kernel_rfl) (by kernel_rfl)

def wordData {H : Type} (l : List R) : DataW H := .agg (l.map fun r => .lit (.int .u32 (r.toNat : Int)))
theorem first_data {H : Type} : (Rows.laid_entrepot_sha_first : DataW H) = wordData (stL st0) := rfl
theorem added_data {H : Type} : (Rows.laid_entrepot_sha_added : DataW H) = wordData keyList := rfl

theorem words_cells {H : Type} {enc : TypeId × Value → H} {P : Program} {w : World} {base fuel n : Nat} {sp : Nat → Bool} {held : Bool} {t e : TypeId} {cs : List Value} {x : DataW H} {p : List MemPlace}
    (ht : P.underlying t = some (.array n e)) (he : P.underlying e = some (.int .u32)) (hce : P.cellsOf e = 1) (hd : DataW.trod enc P w base sp held fuel t cs = some (x, p))
    (l : List R) (hl : l.length = n) (hx : x = wordData l) : ∀ (i : Nat) (r : R), l[i]? = some r → cs[i]? = some (rv r) := by
  obtain ⟨xs, m, rfl, hx1, hlen, hn, hel⟩ := DataW.trod_array ht hd
  intro i r hr
  have hi : i < n := by rw [← hl]; exact (List.getElem?_eq_some_iff.1 hr).1
  have h := hel i hi
  rw [hce, Nat.mul_one] at h
  have hy : xs[i]? = some (xs[i]'(by omega)) := List.getElem?_eq_getElem (by omega)
  rw [hy] at h
  obtain ⟨k, e1, e2, _⟩ := DataW.trod_int he h
  have hx2 : xs.map (·.1) = l.map fun r => (DataW.lit (.int .u32 (r.toNat : Int)) : DataW H) := by
    simp only [Prod.mk.injEq] at hx1
    rw [hx, wordData] at hx1
    exact (DataW.agg.inj hx1.1).symm
  have h3 := congrArg (fun z => z[i]?) hx2
  simp only [List.getElem?_map, hy, hr, Option.map_some, Option.some.injEq] at h3
  rw [e2] at h3
  simp only [DataW.lit.injEq, Lit.int.injEq, true_and] at h3
  subst h3
  have h4 : ((cs.drop i).take 1)[0]? = some (rv r) := by rw [e1]; rfl
  rw [List.getElem?_take] at h4
  simpa using h4

theorem glob_of_laid {W : World} (h : laidMetH Tryd.prog shaLaid W) : Glob W := by
  rw [MakeChecks.laidMetH_plain _ _ _ (by kernel_rfl)] at h
  obtain ⟨ps, ⟨g0, t0, cs0, f0, p0, q0, hg0, ht0, hv0, hd0, ⟨g1, t1, cs1, f1, p1, q1, hg1, ht1, hv1, hd1, _, _⟩, _⟩, _, _⟩ := h
  obtain rfl := Option.some.inj (gFirst.symm.trans hg0)
  obtain rfl := Option.some.inj (gAdded.symm.trans hg1)
  obtain rfl := Option.some.inj (tFirst.symm.trans ht0)
  obtain rfl := Option.some.inj (tAdded.symm.trans ht1)
  refine ⟨fun i x hx => ?_, fun i x hx => ?_⟩
  · have h := words_cells Tryd.underlying134 Tryd.underlying93 (by kernel_rfl) hd1 keyList rfl added_data i x hx
    rw [World.var?_cell hg1 hv1 i]
    simpa using h
  · have h := words_cells Tryd.underlying95 Tryd.underlying93 (by kernel_rfl) hd0 (stL st0) rfl first_data i x hx
    rw [World.var?_cell hg0 hv0 i]
    simpa using h
end Go.Proofs.YtgacdimjbpkgoaaDoor
