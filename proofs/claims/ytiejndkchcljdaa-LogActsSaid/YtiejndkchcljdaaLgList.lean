/- Lists of bytes in memory: rows of slices that a call made, and any that can be read. -/
import Derived.Test.YtiejndkchcljdaaMem
import Derived.Test.YtiejndkchcljdaaProg
import Derived.Maps.AppendAt
namespace Go.Proofs.Ytiejndkchcljdaa
open Go.RowKit

theorem info_row : (Try.prog.info? 34).map (fun i => (i.zero, i.size, i.bytes)) = some (some (.slice none 0 0), 1, 24) := by kernel_rfl
/-- a row of the call's own, of slices of its own -/
structure Recs (w : World) (base : Nat) (v : Value) (l : List (List UInt8)) (vs : List Value) : Prop where
  row : w.ownsRow base 34 1 v l.length vs
  each : ∀ (k : Nat) x u, l[k]? = some x → vs[k]? = some u → Own w base 5 u x.length x
  far : ∀ u ∈ vs, ∀ b, u.ownBlock = some b → v.ownBlock ≠ some b
  apart : ∀ (i j : Nat) u u', vs[i]? = some u → vs[j]? = some u' → i ≠ j → ∀ b, u.ownBlock = some b → u'.ownBlock ≠ some b
def farOf (v : Value) (vs : List Value) (row : Option Nat) : Prop := ∀ b, row = some b → v.ownBlock ≠ some b ∧ ∀ u ∈ vs, u.ownBlock ≠ some b
section
variable {w w' : World} {base : Nat} {v : Value} {l : List (List UInt8)} {vs : List Value}
theorem Recs.len (h : Recs w base v l vs) : vs.length = l.length := by have := h.row.1; omega
theorem Recs.at_ (h : Recs w base v l vs) {u : Value} (hu : u ∈ vs) : ∃ x, x ∈ l ∧ Own w base 5 u x.length x := by
  obtain ⟨k, hk, rfl⟩ := List.mem_iff_getElem.1 hu
  have hl : k < l.length := by have := h.len; omega
  exact ⟨l[k], List.getElem_mem hl, h.each k _ _ (List.getElem?_eq_getElem hl) (List.getElem?_eq_getElem hk)⟩
theorem Recs.nil (w : World) (base : Nat) : Recs w base (.slice none 0 0) [] [] :=
  ⟨World.ownsRow_nil _ _ _ _, fun k x u h => (by simp at h), fun u hu => (by cases hu), fun i j u u' h => (by simp at h)⟩
theorem Recs.grown {row : Option Nat} (h : Recs w base v l vs) (hg : w.grownBy w' row) (hr : farOf v vs row) : Recs w' base v l vs where
  row := World.ownsRow.kept h.row hg (by
    rcases hv : v.ownBlock with _ | b
    · exact .inl rfl
    · exact .inr (fun e => (hr b e.symm).1 hv))
  each := fun k x u hx hu => World.ownsRow.kept (h.each k x u hx hu) hg (by
    rcases hv : u.ownBlock with _ | b
    · exact .inl rfl
    · exact .inr (fun e => (hr b e.symm).2 u (List.mem_of_getElem? hu) hv))
  far := h.far
  apart := h.apart
theorem Recs.keep (h : Recs w base v l vs) (hb : Below w.heap.size w w') : Recs w' base v l vs := h.grown (grown_of_below hb none) (fun b e => by cases e)
theorem Recs.lt (h : Recs w base v l vs) : ∀ b, v.ownBlock = some b ∨ (∃ u ∈ vs, u.ownBlock = some b) → base ≤ b ∧ b < w.heap.size := by
  rintro b (hb | ⟨u, hu, hb⟩)
  · exact World.ownsRow.lt h.row b hb
  · obtain ⟨x, _, hx⟩ := h.at_ hu
    exact World.ownsRow.lt hx b hb
theorem Recs.lower {base' : Nat} (h : Recs w base v l vs) (hb : base' ≤ base) : Recs w base' v l vs where
  row := by
    rcases h.row with ⟨h1, h2 | ⟨g, cap, cur, hv, hg, r⟩⟩
    · exact ⟨h1, .inl h2⟩
    · exact ⟨h1, .inr ⟨g, cap, cur, hv, by omega, r⟩⟩
  each := fun k x u hx hu => Own.lower (h.each k x u hx hu) hb
  far := h.far
  apart := h.apart
theorem far_new (h : Recs w base v l vs) {b : Nat} (hb : w.heap.size ≤ b) : farOf v vs (some b) := fun b' e => by
  cases e
  exact ⟨fun e => by have := (h.lt b (.inl e)).2; omega, fun u hu e => by have := (h.lt b (.inr ⟨u, hu, e⟩)).2; omega⟩
theorem far_moved (h : Recs w base v l vs) {r r' : Option Nat} (hf : farOf v vs r) (hm : r' = r ∨ r' = some w.heap.size) : farOf v vs r' := by
  rcases hm with rfl | rfl
  · exact hf
  · exact far_new h (Nat.le_refl _)
theorem far_none (v : Value) (vs : List Value) : farOf v vs none := fun b e => by cases e
/-- one more -/
theorem Recs.push {v' : Value} {u : Value} {x : List UInt8} (h : Recs w base v l vs) (hx : Own w base 5 u x.length x) (hf : farOf v vs u.ownBlock)
    (hr : w'.ownsRow base 34 1 v' (l.length + 1) (vs ++ [u])) (hg : w.grownBy w' v.ownBlock) (hm : v'.ownBlock = v.ownBlock ∨ ∃ b, v'.ownBlock = some b ∧ w.heap.size ≤ b) : Recs w' base v' (l ++ [x]) (vs ++ [u]) where
  row := by simpa using hr
  each := fun k y z hy hz => by
    rw [List.getElem?_append] at hy hz
    have hlen := h.len
    by_cases hk : k < l.length
    · rw [if_pos hk] at hy
      rw [if_pos (by omega)] at hz
      exact World.ownsRow.kept (h.each k y z hy hz) hg (by
        rcases hv : z.ownBlock with _ | b
        · exact .inl rfl
        · exact .inr (fun e => h.far z (List.mem_of_getElem? hz) b hv e.symm))
    · rw [if_neg hk] at hy
      rw [if_neg (by omega)] at hz
      have e1 : k - l.length = 0 := by
        have := (List.getElem?_eq_some_iff.1 hy).1
        simp at this; omega
      have e2 : k - vs.length = 0 := by omega
      rw [e1] at hy
      rw [e2] at hz
      cases hy; cases hz
      exact World.ownsRow.kept hx hg (by
        rcases hv : u.ownBlock with _ | b
        · exact .inl rfl
        · exact .inr (fun e => (hf b hv).1 e.symm))
  apart := fun i j y z hy hz hij b hb => by
    rw [List.getElem?_append] at hy hz
    by_cases h1 : i < vs.length
    · rw [if_pos h1] at hy
      by_cases h2 : j < vs.length
      · rw [if_pos h2] at hz
        exact h.apart i j y z hy hz hij b hb
      · rw [if_neg h2] at hz
        obtain rfl : z = u := by
          have := List.mem_of_getElem? hz
          simpa using this
        intro e
        exact (hf b e).2 y (List.mem_of_getElem? hy) hb
    · rw [if_neg h1] at hy
      obtain rfl : y = u := by
        have := List.mem_of_getElem? hy
        simpa using this
      by_cases h2 : j < vs.length
      · rw [if_pos h2] at hz
        exact (hf b hb).2 z (List.mem_of_getElem? hz)
      · rw [if_neg h2] at hz
        have e1 := (List.getElem?_eq_some_iff.1 hy).1
        have e2 := (List.getElem?_eq_some_iff.1 hz).1
        simp at e1 e2
        omega
  far := fun z hz b hb => by
    have hzlt : b < w.heap.size := by
      rcases List.mem_append.1 hz with hz | hz
      · exact (h.lt b (.inr ⟨z, hz, hb⟩)).2
      · obtain rfl : z = u := by simpa using hz
        exact (World.ownsRow.lt hx b hb).2
    rcases hm with hm | ⟨b', hm, hlt⟩
    · rw [hm]
      rcases List.mem_append.1 hz with hz | hz
      · exact h.far z hz b hb
      · obtain rfl : z = u := by simpa using hz
        exact (hf b hb).1
    · rw [hm]
      intro e
      cases e
      omega
end
/-- a list of bytes that can be read -/
def SL (w : World) (A : Option Addr) (l : List (List UInt8)) : Prop :=
  ∃ vs : List Value, vs.length = l.length ∧ (0 < l.length → ∃ b off, A = some ⟨b, off, none⟩ ∧ ∀ j u, vs[j]? = some u → w.cell? ⟨b, off + j, none⟩ = some u) ∧
    ∀ (k : Nat) x u, l[k]? = some x → vs[k]? = some u → ∃ B A' c, u = .slice A' x.length c ∧ SB w B A' x.length x ∧ x.length ≤ c
section
variable {w w' : World} {base : Nat} {v : Value} {l : List (List UInt8)} {vs : List Value} {A : Option Addr}
theorem SL.keep (h : SL w A l) (hb : Below w.heap.size w w') : SL w' A l := by
  obtain ⟨vs, h1, h2, h3⟩ := h
  refine ⟨vs, h1, fun hl => ?_, fun k x u hx hu => ?_⟩
  · obtain ⟨b, off, e, hc⟩ := h2 hl
    exact ⟨b, off, e, fun j u hj => (hb.cell (p := ⟨b, off + j, none⟩) (lt_of_cell (hc j u hj))).trans (hc j u hj)⟩
  · obtain ⟨B, A', c, e, hs, hc⟩ := h3 k x u hx hu
    exact ⟨B, A', c, e, hs.keep hb, hc⟩
theorem SL.nil (w : World) (A : Option Addr) : SL w A [] := ⟨[], rfl, fun h => absurd h (by simp), fun k x u h => by simp at h⟩
theorem Recs.sl (h : Recs w base v l vs) : ∃ A c, v = .slice A l.length c ∧ SL w A l ∧ l.length ≤ c := by
  have key : ∀ (k : Nat) x u, l[k]? = some x → vs[k]? = some u → ∃ B A' c, u = .slice A' x.length c ∧ SB w B A' x.length x ∧ x.length ≤ c := fun k x u hx hu => by
    obtain ⟨A', c, e, hle, hs, _⟩ := (h.each k x u hx hu).sb
    exact ⟨_, A', c, e, hs, hle⟩
  have hrow := h.row
  rcases h.row.2 with ⟨rfl, h0⟩ | ⟨g, cap, cur, rfl, _, _, hle, _⟩
  · have : l = [] := List.eq_nil_of_length_eq_zero h0
    subst this
    exact ⟨none, 0, rfl, SL.nil _ _, Nat.le_refl _⟩
  · exact ⟨some ⟨g, 0, none⟩, cap, rfl, ⟨vs, h.len, fun _ => ⟨g, 0, rfl, fun j u hj => by
      have := World.ownsRow.cells hrow (g := g) rfl j u hj
      rwa [Addr.add_lit] at this⟩, key⟩, hle⟩
end
end Go.Proofs.Ytiejndkchcljdaa
