/- A drawn region over closed values: each operation's value reads as it should. -/
import Derived.Test.YthjflgnoeenenaaOcKit
namespace Go.Proofs.Ythjflgnoeenenaa
open Go Go.RowKit Cl

inductive Kd where
  | v (x : Value)
  | ni (zs : List Int)
  | nd (ds : List Dt)
  | cl (zs : List Int) (ds : List Dt)
def Kd.Is (k : Kd) (x : Value) (W : World) : Prop := match k with
  | .v y => x = y
  | .ni zs => ∃ A c, x = .slice A zs.length c ∧ zs.length ≤ c ∧ NI W A zs.length zs
  | .nd ds => ∃ A c, x = .slice A ds.length c ∧ ds.length ≤ c ∧ ND W A ds.length ds
  | .cl zs ds => ∃ A c B e, x = .agg #[.slice A zs.length c, .slice B ds.length e] ∧ zs.length ≤ c ∧ ds.length ≤ e ∧ NI W A zs.length zs ∧ ND W B ds.length ds
theorem Kd.Is.keep {k : Kd} {x : Value} {W W' : World} (h : k.Is x W) (hb : Below W.heap.size W W') : k.Is x W' := by
  cases k with
  | v y => exact h
  | ni zs => obtain ⟨A, c, h1, h2, h3⟩ := h; exact ⟨A, c, h1, h2, h3.keep hb⟩
  | nd ds => obtain ⟨A, c, h1, h2, h3⟩ := h; exact ⟨A, c, h1, h2, h3.keep hb⟩
  | cl zs ds => obtain ⟨A, c, B, e, h1, h2, h3, h4, h5⟩ := h; exact ⟨A, c, B, e, h1, h2, h3, h4.keep hb, h5.keep hb⟩
structure RpS (w0 : World) (tab : List Kd) (f : Nat → Bool) (gh : Nat → Value) (W : World) : Prop where
  bel : Below w0.heap.size w0 W
  ok : ∀ i k, tab[i]? = some k → f i = true → k.Is (gh i) W
def vRp : Nat → Value → Value := fun _ k => k
theorem RpS.start {w0 : World} {tab : List Kd} (n : Nat) (h : tab.length = n) (gh : Nat → Value) : RpS w0 tab (fun j => decide (n ≤ j)) gh w0.drew where
  bel := (Below.refl _ _).drew
  ok := fun i k hk e => by
    have h1 := (List.getElem?_eq_some_iff.1 hk).1
    have h2 := of_decide_eq_true e
    omega
theorem RpS.step {w0 : World} {tab : List Kd} {f : Nat → Bool} {gh : Nat → Value} {W W' : World} (h : RpS w0 tab f gh W) (i : Nat) (v : Value) (k0 : Kd) (h0 : tab[i]? = some k0) (hb : Below W.heap.size W W') (hv : k0.Is v W') : RpS w0 tab (upd f i) (updN gh i v) W' where
  bel := h.bel.trans (hb.mono h.bel.size)
  ok := fun j k hk e => by
    by_cases hj : j = i
    · subst hj
      rw [h0] at hk
      cases hk
      rw [laN_eq]
      exact hv
    · rw [la_ne hj] at e
      rw [laN_ne hj]
      exact (h.ok j k hk e).keep hb
theorem RpS.same {w0 : World} {tab : List Kd} {f : Nat → Bool} {gh : Nat → Value} {W : World} (h : RpS w0 tab f gh W) (i : Nat) (v : Value) (k0 : Kd) (h0 : tab[i]? = some k0) (hv : k0.Is v W) : RpS w0 tab (upd f i) (updN gh i v) W := h.step i v k0 h0 (Below.refl _ _) hv
end Go.Proofs.Ythjflgnoeenenaa
