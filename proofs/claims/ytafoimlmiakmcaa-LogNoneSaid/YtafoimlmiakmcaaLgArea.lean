/- An area that comes as an argument is three numbers. -/
import Derived.OpenShut
import Derived.ChangeMaps5
import Derived.Deep.Slices
import Derived.Test.YtafoimlmiakmcaaLgLow
namespace Go.Proofs.Ytafoimlmiakmcaa
open Go.RowKit Go.ChangeAt Go.WideShapes Go.Deep

set_option maxRecDepth 20000
theorem cut_cells {cs l : List Value} {a m m' : Nat} (c : m = m') (h : (cs.drop a).take m = l) : (cs.drop a).take m' = l := c ▸ h
theorem cut_step {α : Type} (l : List α) (a n : Nat) : l.drop a = (l.drop a).take n ++ l.drop (a + n) := by
  rw [← List.drop_drop]; exact (List.take_append_drop n _).symm
theorem area_open {H : Type} {enc : TypeId × Value → H} {W : World} {base b0 : Nat} {sp : Nat → Bool} {held : Bool} {v : Value} {d : DataW H} {p : List MemPlace}
    (hv : Value.okWide Try.prog W .any base 33 v) (h : DataW.Trod enc Try.prog W b0 sp held 33 v d p) : ∃ a : AR, v = arv a := by
  have cA : Try.prog.cellsOf 33 = 3 := by kernel_rfl
  have cI : Try.prog.cellsOf 3 = 1 := by kernel_rfl
  obtain ⟨cs, rfl, hsz, _⟩ : ∃ cs, v = .agg cs ∧ cs.size = Try.prog.cellsOf 33 ∧ Row.okWide Try.prog W .any base 33 cs := by
    simpa [Value.okWide, Try.underlying33] using hv
  rw [cA] at hsz
  obtain ⟨fuel, hf⟩ := h
  have hf' : DataW.trod enc Try.prog W b0 sp held fuel 33 cs.toList = some (d, p) := hf
  obtain ⟨xs, n, _, _, hl, hlen, hx⟩ := DataW.trod_struct Try.underlying33 hf'
  have h3 : xs.length = 3 := hlen
  have g0 := (hx 0 _ rfl).trans (List.getElem?_eq_getElem (show 0 < xs.length by omega))
  have g1 := (hx 1 _ rfl).trans (List.getElem?_eq_getElem (show 1 < xs.length by omega))
  have g2 := (hx 2 _ rfl).trans (List.getElem?_eq_getElem (show 2 < xs.length by omega))
  obtain ⟨x, e0, -, -⟩ := DataW.trod_int Try.underlying3 g0
  obtain ⟨y, e1, -, -⟩ := DataW.trod_int Try.underlying3 g1
  obtain ⟨z, e2, -, -⟩ := DataW.trod_int Try.underlying3 g2
  have e0 : (cs.toList.drop 0).take 1 = [.int .i64 x] := cut_cells cI e0
  have e1 : (cs.toList.drop 1).take 1 = [.int .i64 y] := cut_cells cI e1
  have e2 : (cs.toList.drop 2).take 1 = [.int .i64 z] := cut_cells cI e2
  have q0 := cut_step cs.toList 0 1
  have q1 := cut_step cs.toList 1 1
  have q2 := cut_step cs.toList 2 1
  have q3 : cs.toList.drop 3 = [] := List.drop_eq_nil_of_le (by simp; omega)
  rw [e0] at q0; rw [e1] at q1; rw [e2] at q2
  refine ⟨⟨x, y, z⟩, ?_⟩
  unfold arv
  congr 1
  apply Array.ext'
  have hh : cs.toList = cs.toList.drop 0 := rfl
  rw [hh, q0, q1, q2, q3]
  rfl
end Go.Proofs.Ytafoimlmiakmcaa
