/- A drawn region whose operations make and write memory: each operation leaves a fact, which stays until an operation that undoes it. Plain lemmas over any program. -/
import Derived.Test.YthjflgnoeenenaaRegIn
namespace Go.Proofs.Ythjflgnoeenenaa
open Go Go.RowKit

/-- the facts F i of the operations that are done, and not undone by one of kill i -/
structure RgX (bs : Nat) (w0 : World) (F : Nat → Value → World → Prop) (kill : Nat → List Nat) (f : Nat → Bool) (gh : Nat → Value) (W : World) : Prop where
  bel : Below bs w0 W
  far : ∀ j, 1000 ≤ j → f j = true
  ok : ∀ i, f i = true → (∀ k ∈ kill i, f k = false) → F i (gh i) W
theorem rx_ne {f : Nat → Bool} {i j : Nat} (h : j ≠ i) : upd f i j = f j := by unfold upd; simp [h]
theorem rx_eq {f : Nat → Bool} {i : Nat} : upd f i i = true := by unfold upd; simp
theorem rxN_ne {G : Type} {gh : Nat → G} {i j : Nat} {k : G} (h : j ≠ i) : updN gh i k j = gh j := by unfold updN; simp [h]
theorem rxN_eq {G : Type} {gh : Nat → G} {i : Nat} {k : G} : updN gh i k i = k := by unfold updN; simp
/-- facts that growth keeps -/
def Grows (F : Nat → Value → World → Prop) : Prop := ∀ j v W W', F j v W → Below W.heap.size W W' → F j v W'
section
variable {bs : Nat} {w0 : World} {F : Nat → Value → World → Prop} {kill : Nat → List Nat} {f : Nat → Bool} {gh : Nat → Value} {W W' : World}
theorem RgX.start (n : Nat) (gh : Nat → Value) (hn : n ≤ 1000) (h : ∀ j, n ≤ j → F j (gh j) w0.drew) : RgX bs w0 F kill (fun j => decide (n ≤ j)) gh w0.drew where
  bel := (Below.refl _ _).drew
  far := fun j hj => decide_eq_true (by omega)
  ok := fun i e _ => h i (of_decide_eq_true e)
theorem RgX.write (h : RgX bs w0 F kill f gh W) (i : Nat) (v : Value) (hb : Below bs W W') (hv : F i v W') (ho : ∀ j, j ≠ i → f j = true → (∀ k ∈ kill j, f k = false ∧ k ≠ i) → F j (gh j) W → F j (gh j) W') : RgX bs w0 F kill (upd f i) (updN gh i v) W' where
  bel := h.bel.trans hb
  far := fun j hj => by unfold upd; rw [h.far j hj]; simp
  ok := fun j e ek => by
    by_cases hj : j = i
    · subst hj; rw [rxN_eq]; exact hv
    · rw [rx_ne hj] at e
      rw [rxN_ne hj]
      have hk : ∀ k ∈ kill j, f k = false ∧ k ≠ i := fun k hk => by
        have h1 := ek k hk
        by_cases hki : k = i
        · subst hki; rw [rx_eq] at h1; cases h1
        · rw [rx_ne hki] at h1; exact ⟨h1, hki⟩
      exact ho j hj e hk (h.ok j e fun k hk2 => (hk k hk2).1)
theorem RgX.step (h : RgX bs w0 F kill f gh W) (hg : Grows F) (i : Nat) (v : Value) (hb : Below W.heap.size W W') (hs : bs ≤ W.heap.size) (hv : F i v W') : RgX bs w0 F kill (upd f i) (updN gh i v) W' :=
  h.write i v (hb.mono hs) hv fun j _ _ _ hF => hg j _ _ _ hF hb
theorem RgX.same (h : RgX bs w0 F kill f gh W) (i : Nat) (v : Value) (hv : F i v W) : RgX bs w0 F kill (upd f i) (updN gh i v) W :=
  h.write i v (Below.refl _ _) hv fun _ _ _ _ hF => hF
theorem RgX.size (h : RgX bs w0 F kill f gh W) (hs : bs ≤ w0.heap.size) : bs ≤ W.heap.size := Nat.le_trans hs h.bel.size
theorem kill_one {f : Nat → Bool} {k : Nat} (h : f k = false) : ∀ x ∈ [k], f x = false := fun x hx => by rw [List.mem_singleton.1 hx]; exact h
theorem kill_none {f : Nat → Bool} : ∀ x ∈ ([] : List Nat), f x = false := fun x hx => by cases hx
/-- .. and a last fact on two values, from an operation on that needs both -/
structure RgY (bs : Nat) (w0 : World) (F : Nat → Value → World → Prop) (kill : Nat → List Nat) (i0 a b : Nat) (G : Value → Value → World → Prop) (f : Nat → Bool) (gh : Nat → Value) (W : World) : Prop where
  x : RgX bs w0 F kill f gh W
  fin : f i0 = true → G (gh a) (gh b) W
section
variable {i0 a b : Nat} {G : Value → Value → World → Prop}
theorem RgY.step (h : RgY bs w0 F kill i0 a b G f gh W) (hg : Grows F) (hG : ∀ x y W W', G x y W → Below W.heap.size W W' → G x y W') (i : Nat) (v : Value) (hb : Below W.heap.size W W') (hs : bs ≤ W.heap.size) (hv : F i v W') (hi : i ≠ i0) (hab : (a ≠ i ∧ b ≠ i) ∨ f i0 = false) : RgY bs w0 F kill i0 a b G (upd f i) (updN gh i v) W' where
  x := h.x.step hg i v hb hs hv
  fin := fun e => by
    rw [rx_ne hi.symm] at e
    rcases hab with hab | hab
    · rw [rxN_ne hab.1, rxN_ne hab.2]; exact hG _ _ _ _ (h.fin e) hb
    · rw [hab] at e; cases e
theorem RgY.same (h : RgY bs w0 F kill i0 a b G f gh W) (i : Nat) (v : Value) (hv : F i v W) (hi : i ≠ i0) (hab : (a ≠ i ∧ b ≠ i) ∨ f i0 = false) : RgY bs w0 F kill i0 a b G (upd f i) (updN gh i v) W where
  x := h.x.same i v hv
  fin := fun e => by
    rw [rx_ne hi.symm] at e
    rcases hab with hab | hab
    · rw [rxN_ne hab.1, rxN_ne hab.2]; exact h.fin e
    · rw [hab] at e; cases e
theorem RgY.write (h : RgY bs w0 F kill i0 a b G f gh W) (i : Nat) (v : Value) (hb : Below bs W W') (hv : F i v W') (ho : ∀ j, j ≠ i → f j = true → (∀ k ∈ kill j, f k = false ∧ k ≠ i) → F j (gh j) W → F j (gh j) W') (hi : i ≠ i0) (n0 : f i0 = false) : RgY bs w0 F kill i0 a b G (upd f i) (updN gh i v) W' where
  x := h.x.write i v hb hv ho
  fin := fun e => by rw [rx_ne hi.symm, n0] at e; cases e
theorem RgY.last (h : RgY bs w0 F kill i0 a b G f gh W) (v : Value) (hb : Below bs W W') (hv : F i0 v W') (ho : ∀ j, j ≠ i0 → f j = true → (∀ k ∈ kill j, f k = false ∧ k ≠ i0) → F j (gh j) W → F j (gh j) W') (ha : a ≠ i0) (hb2 : b ≠ i0) (hG : G (gh a) (gh b) W') : RgY bs w0 F kill i0 a b G (upd f i0) (updN gh i0 v) W' where
  x := h.x.write i0 v hb hv ho
  fin := fun _ => by rw [rxN_ne ha, rxN_ne hb2]; exact hG
theorem RgY.start (n : Nat) (gh : Nat → Value) (hn : n ≤ 1000) (hi : i0 < n) (h : ∀ j, n ≤ j → F j (gh j) w0.drew) : RgY bs w0 F kill i0 a b G (fun j => decide (n ≤ j)) gh w0.drew where
  x := RgX.start n gh hn h
  fin := fun e => by have := of_decide_eq_true e; omega
end
end
end Go.Proofs.Ythjflgnoeenenaa
