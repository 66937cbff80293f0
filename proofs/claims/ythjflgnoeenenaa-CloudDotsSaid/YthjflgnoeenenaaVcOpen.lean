/- A dot that comes as an argument is two numbers; a list of numbers that comes in. -/
import Derived.OpenShut
import Derived.ChangeMaps5
import Derived.Deep.Slices
import Derived.ProofKit
import Derived.Test.YthjflgnoeenenaaVcMem
namespace Go.Proofs.Ythjflgnoeenenaa
open Go.RowKit Go.ChangeAt Go.WideShapes Go.Deep Go.ChangeShapes

set_option maxRecDepth 20000
theorem cut_cells {cs l : List Value} {a m m' : Nat} (c : m = m') (h : (cs.drop a).take m = l) : (cs.drop a).take m' = l := c ▸ h
theorem cut_step {α : Type} (l : List α) (a n : Nat) : l.drop a = (l.drop a).take n ++ l.drop (a + n) := by
  rw [← List.drop_drop]; exact (List.take_append_drop n _).symm
theorem dot_open {H : Type} {enc : TypeId × Value → H} {W : World} {base b0 : Nat} {sp : Nat → Bool} {held : Bool} {v : Value} {d : DataW H} {p : List MemPlace}
    (hv : Value.okWide Try.prog W .any base 27 v) (h : DataW.Trod enc Try.prog W b0 sp held 27 v d p) : ∃ R N : Int, v = .agg #[.int .i64 R, .int .i64 N] := by
  have cA : Try.prog.cellsOf 27 = 2 := by kernel_rfl
  have cI : Try.prog.cellsOf 3 = 1 := by kernel_rfl
  obtain ⟨cs, rfl, hsz, _⟩ : ∃ cs, v = .agg cs ∧ cs.size = Try.prog.cellsOf 27 ∧ Row.okWide Try.prog W .any base 27 cs := by
    simpa [Value.okWide, Try.underlying27] using hv
  rw [cA] at hsz
  obtain ⟨fuel, hf⟩ := h
  have hf' : DataW.trod enc Try.prog W b0 sp held fuel 27 cs.toList = some (d, p) := hf
  obtain ⟨xs, n, _, _, hl, hlen, hx⟩ := DataW.trod_struct Try.underlying27 hf'
  have h3 : xs.length = 2 := hlen
  have g0 := (hx 0 _ rfl).trans (List.getElem?_eq_getElem (show 0 < xs.length by omega))
  have g1 := (hx 1 _ rfl).trans (List.getElem?_eq_getElem (show 1 < xs.length by omega))
  obtain ⟨x, e0, -, -⟩ := DataW.trod_int Try.underlying3 g0
  obtain ⟨y, e1, -, -⟩ := DataW.trod_int Try.underlying3 g1
  have e0 : (cs.toList.drop 0).take 1 = [.int .i64 x] := cut_cells cI e0
  have e1 : (cs.toList.drop 1).take 1 = [.int .i64 y] := cut_cells cI e1
  have q0 := cut_step cs.toList 0 1
  have q1 := cut_step cs.toList 1 1
  have q3 : cs.toList.drop 2 = [] := List.drop_eq_nil_of_le (by simp; omega)
  rw [e0] at q0; rw [e1] at q1
  refine ⟨x, y, ?_⟩
  congr 1
  apply Array.ext'
  have hh : cs.toList = cs.toList.drop 0 := rfl
  rw [hh, q0, q1, q3]
  rfl
theorem ints_open {H : Type} {enc : TypeId × Value → H} {W : World} {b0 n c : Nat} {A : Option Addr} {sp : Nat → Bool} {held : Bool} {d : DataW H} {p : List MemPlace} (h : DataW.Trod enc Try.prog W b0 sp held 22 (.slice A n c) d p) : ∃ zs, NI W A n zs := by
  obtain ⟨fuel, hf⟩ := h
  rcases open_ints Try.underlying22 Try.underlying3 (by kernel_rfl) hf with ⟨hcs, _⟩ | ⟨x, l, c, zs, hcs, _, hl, _, hz, _, hcell, _⟩
  · simp [Value.cells] at hcs
    obtain ⟨rfl, rfl, rfl⟩ := hcs
    exact ⟨[], rfl, fun h => absurd h (by omega)⟩
  · simp [Value.cells] at hcs
    obtain ⟨rfl, rfl, rfl⟩ := hcs
    have hz2 : n ≤ zs.length := by split at hz <;> omega
    refine ⟨zs.take n, by simp; omega, fun hn => ?_⟩
    have h0 := hcell 0 (by omega)
    have hspot : x.spot = none := by simpa [Addr.add] using World.cell?_spot h0
    obtain ⟨b, off, spot⟩ := x
    simp only at hspot
    subst hspot
    simp only [Addr.add_lit] at hcell
    refine ⟨b, off, rfl, fun j z hj => ?_⟩
    rw [List.getElem?_take] at hj
    split at hj
    · have hjl : j < zs.length := by omega
      rw [hcell j hjl, List.getD, hj]; rfl
    · cases hj
end Go.Proofs.Ythjflgnoeenenaa
