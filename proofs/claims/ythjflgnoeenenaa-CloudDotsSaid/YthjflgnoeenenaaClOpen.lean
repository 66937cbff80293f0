/- Clouds that come as arguments. -/
import Derived.OpenShut
import Derived.ChangeMaps5
import Derived.Deep.Slices
import Derived.ProofKit
import Derived.Test.YthjflgnoeenenaaClMem
import Derived.Test.YthjflgnoeenenaaClRfC
namespace Go.Proofs.Ythjflgnoeenenaa
open Go.RowKit Go.ChangeAt Go.WideShapes Go.Deep Go.ChangeShapes Cl

set_option maxRecDepth 20000
theorem ccut {cs l : List Value} {a m m' : Nat} (c : m = m') (h : (cs.drop a).take m = l) : (cs.drop a).take m' = l := c ▸ h
theorem cstep {α : Type} (l : List α) (a n : Nat) : l.drop a = (l.drop a).take n ++ l.drop (a + n) := by
  rw [← List.drop_drop]; exact (List.take_append_drop n _).symm
theorem flatD_split : ∀ (ds : List Dt) (j : Nat) (u : Value), (flatD ds)[j]? = some u → ∃ d, ds[j / 2]? = some d ∧ (dcs d)[j % 2]? = some u
  | [], j, u, h => by simp [flatD] at h
  | d :: r, 0, u, h => ⟨d, rfl, by simpa [flatD, dcs] using h⟩
  | d :: r, 1, u, h => ⟨d, rfl, by simpa [flatD, dcs] using h⟩
  | d :: r, j + 2, u, h => by
    have e : flatD (d :: r) = dcs d ++ flatD r := by unfold flatD; simp
    rw [e, List.getElem?_append_right (by simp [dcs])] at h
    obtain ⟨x, h1, h2⟩ := flatD_split r j u (by simpa [dcs] using h)
    exact ⟨x, by rw [show (j + 2) / 2 = j / 2 + 1 by omega]; simpa using h1, by rw [show (j + 2) % 2 = j % 2 by omega]; exact h2⟩
theorem dot_cells {H : Type} {enc : TypeId × Value → H} {W : World} {b0 fuel : Nat} {sp : Nat → Bool} {held : Bool} {cs : List Value} {y : DataW H × List MemPlace}
    (h : DataW.trod enc Try.prog W b0 sp held fuel 27 cs = some y) : ∃ d : Dt, cs = dcs d := by
  have cA : Try.prog.cellsOf 27 = 2 := by kernel_rfl
  have cI : Try.prog.cellsOf 3 = 1 := by kernel_rfl
  obtain ⟨xs, n, _, _, hl, hlen, hx⟩ := DataW.trod_struct Try.underlying27 h
  rw [cA] at hl
  have h3 : xs.length = 2 := hlen
  have g0 := (hx 0 _ rfl).trans (List.getElem?_eq_getElem (show 0 < xs.length by omega))
  have g1 := (hx 1 _ rfl).trans (List.getElem?_eq_getElem (show 1 < xs.length by omega))
  obtain ⟨x, e0, -, -⟩ := DataW.trod_int Try.underlying3 g0
  obtain ⟨y, e1, -, -⟩ := DataW.trod_int Try.underlying3 g1
  have e0 : (cs.drop 0).take 1 = [.int .i64 x] := ccut cI e0
  have e1 : (cs.drop 1).take 1 = [.int .i64 y] := ccut cI e1
  have q0 := cstep cs 0 1
  have q1 := cstep cs 1 1
  have q3 : cs.drop 2 = [] := List.drop_eq_nil_of_le (by omega)
  rw [e0] at q0; rw [e1] at q1
  refine ⟨(x, y), ?_⟩
  have hh : cs = cs.drop 0 := rfl
  rw [hh, q0, q1, q3]
  rfl
theorem dots_open {H : Type} {enc : TypeId × Value → H} {W : World} {b0 fuel : Nat} {sp : Nat → Bool} {held : Bool} {cs : List Value} {y : DataW H × List MemPlace}
    (h : DataW.trod enc Try.prog W b0 sp held fuel 23 cs = some y) :
    ∃ A n c ds, cs = [.slice A n c] ∧ ND W A n ds ∧ n ≤ c := by
  have cT : Try.prog.cellsOf 27 = 2 := by kernel_rfl
  rcases open_slice Try.underlying23 h with ⟨hcs, _⟩ | ⟨a, n, c, m, nn, D, Pl, hcs, _, hle, hmax, hm, _, hx⟩
  · exact ⟨_, _, _, [], hcs, ND.nil _ _, Nat.le_refl _⟩
  · rw [cT] at hx
    have hmn : n ≤ m := by split at hm <;> omega
    obtain ⟨f, hfs⟩ := choose_lt (α := Dt) (n := n) (p := fun i x => ∀ (j : Nat) v, (dcs x)[j]? = some v → W.cell? (a.add (i * 2 + j)) = some v) (fun i hi => by
      obtain ⟨cs', h1, h2⟩ := hx i (by omega)
      obtain ⟨_, hlen, hcell⟩ := World.cells?_some h1
      obtain ⟨t, rfl⟩ := dot_cells h2
      refine ⟨t, fun j v hj => ?_⟩
      have hj2 : j < 2 := (List.getElem?_eq_some_iff.1 hj).1
      have := hcell j hj2
      rw [add_add] at this
      rw [this]
      exact hj)
    refine ⟨_, _, _, (List.range n).map f, hcs, ⟨by simp, fun hn => ?_⟩, hle⟩
    have h1 := hfs 0 hn 0 _ rfl
    have hspot : a.spot = none := by simpa [Addr.add] using World.cell?_spot h1
    obtain ⟨b, off, spot⟩ := a
    simp only at hspot
    subst hspot
    refine ⟨b, off, rfl, fun j u hj => ?_⟩
    obtain ⟨d, hd, hu⟩ := flatD_split _ j u hj
    rw [List.getElem?_map] at hd
    obtain ⟨i, hi, rfl⟩ := Option.map_eq_some_iff.1 hd
    obtain ⟨hlt, hi2⟩ := List.getElem?_eq_some_iff.1 hi
    simp at hlt hi2
    subst hi2
    have := hfs (j / 2) hlt (j % 2) u hu
    rw [Addr.add_lit, show j / 2 * 2 + j % 2 = j by omega] at this
    exact this
theorem nums_open {H : Type} {enc : TypeId × Value → H} {W : World} {b0 fuel : Nat} {sp : Nat → Bool} {held : Bool} {cs : List Value} {y : DataW H × List MemPlace}
    (h : DataW.trod enc Try.prog W b0 sp held fuel 22 cs = some y) :
    ∃ A n c zs, cs = [.slice A n c] ∧ NI W A n zs ∧ n ≤ c := by
  rcases open_ints Try.underlying22 Try.underlying3 (by kernel_rfl) h with ⟨hcs, _⟩ | ⟨x, l, c, zs, hcs, _, hl, _, hz, _, hcell, _⟩
  · exact ⟨_, _, _, [], hcs, ⟨rfl, fun h => absurd h (by omega)⟩, Nat.le_refl _⟩
  · have hz2 : l ≤ zs.length := by split at hz <;> omega
    refine ⟨_, l, c, zs.take l, hcs, ⟨by simp; omega, fun hn => ?_⟩, hl⟩
    have h0 := hcell 0 (by omega)
    have hspot : x.spot = none := by simpa [Addr.add] using World.cell?_spot h0
    obtain ⟨b, off, spot⟩ := x
    simp only at hspot
    subst hspot
    simp only [Addr.add_lit] at hcell
    refine ⟨b, off, rfl, fun j z hj => ?_⟩
    rw [List.getElem?_take] at hj
    split at hj
    · have hjl : j < zs.length := by omega
      rw [hcell j hjl, List.getD, hj]; rfl
    · cases hj
theorem cloud_open {H : Type} {enc : TypeId × Value → H} {W : World} {base b0 : Nat} {sp : Nat → Bool} {held : Bool} {v : Value} {d : DataW H} {p : List MemPlace}
    (hv : Value.okWide Try.prog W .any base 25 v) (h : DataW.Trod enc Try.prog W b0 sp held 25 v d p) : ∃ A n c B m e zs ds, v = cdv A n c B m e ∧ NI W A n zs ∧ ND W B m ds ∧ n ≤ c ∧ m ≤ e := by
  have cA : Try.prog.cellsOf 25 = 2 := by kernel_rfl
  have cI : Try.prog.cellsOf 22 = 1 := by kernel_rfl
  have cD : Try.prog.cellsOf 23 = 1 := by kernel_rfl
  obtain ⟨cs, rfl, hsz, _⟩ : ∃ cs, v = .agg cs ∧ cs.size = Try.prog.cellsOf 25 ∧ Row.okWide Try.prog W .any base 25 cs := by
    simpa [Value.okWide, Try.underlying25] using hv
  rw [cA] at hsz
  obtain ⟨fuel, hf⟩ := h
  have hf' : DataW.trod enc Try.prog W b0 sp held fuel 25 cs.toList = some (d, p) := hf
  obtain ⟨xs, n, _, _, hl, hlen, hx⟩ := DataW.trod_struct Try.underlying25 hf'
  have h3 : xs.length = 2 := hlen
  have g0 := (hx 0 _ rfl).trans (List.getElem?_eq_getElem (show 0 < xs.length by omega))
  have g1 := (hx 1 _ rfl).trans (List.getElem?_eq_getElem (show 1 < xs.length by omega))
  obtain ⟨A, k, c, zs, e0, hn, hc⟩ := nums_open g0
  obtain ⟨B, m, e, ds, e1, hm, he⟩ := dots_open g1
  have e0 : (cs.toList.drop 0).take 1 = [.slice A k c] := ccut cI e0
  have e1 : (cs.toList.drop 1).take 1 = [.slice B m e] := ccut cD e1
  have q0 := cstep cs.toList 0 1
  have q1 := cstep cs.toList 1 1
  have q3 : cs.toList.drop 2 = [] := List.drop_eq_nil_of_le (by simp; omega)
  rw [e0] at q0; rw [e1] at q1
  refine ⟨A, k, c, B, m, e, zs, ds, ?_, hn, hm, hc, he⟩
  unfold cdv
  congr 1
  apply Array.ext'
  have hh : cs.toList = cs.toList.drop 0 := rfl
  rw [hh, q0, q1, q3]
  rfl
end Go.Proofs.Ythjflgnoeenenaa
