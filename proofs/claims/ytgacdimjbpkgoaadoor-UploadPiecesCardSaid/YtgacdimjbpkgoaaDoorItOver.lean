/- An iterator that ranges over another one: a contract whose caller's invariant abides the turn of whatever is no cells, and the statement 'for x := range seq' over it, where each round goes on. Plain lemmas over any program. -/
import Derived.RangeFuncWrites
import Derived.RangeFuncLeaves
import Derived.RangeFuncRecord
import Derived.Test.YtgacdimjbpkgoaaDoorBlk
namespace Go.Proofs.YtgacdimjbpkgoaaDoor
open Go Go.RowKit

/-- what an iterator's value gives: S says what all is that comes, Nx what comes behind what has come -/
def SeqO {α : Type} (m n : Nat) (P : Program) (gf : Nat) (lb : Array Value) (enc : α → Value) (Kp : World → World → Prop) (S : List α → Prop) (Nx : List α → α → Prop) (w0 : World) : Prop :=
  ∀ (l : Nat) (J : List α → World → Prop) (W : World), Below w0.heap.size w0 W → m ≤ W.heap.size → OwnFrom W.heap.size J →
    (∀ pre x W1, J pre W1 → Nx pre x → YieldAt Fence.wide (n - 1) P l #[enc x] W1 fun e W' => e = .returned (.bool true) ∧ J (pre ++ [x]) W' ∧ Kp W1 W') → J [] W →
    CallsIn Fence.wide n P gf (#[.func (.yield l) #[] #[]] ++ lb) W fun e W' => (∃ v, e = .returned v) ∧ ∃ xs, S xs ∧ J xs W'
/-- how a round's body ends -/
def goesOn {α : Type} (B : Nat) (Kp : World → World → Prop) (I : List α → World → Prop) (xs : List α) (W : World) : Exit → Act → World → Prop
  | .normal, _, W' => KeepsFrom B W W' ∧ Kp W W' ∧ I xs W'
  | _, _, _ => False
/-- a loop's record over its state -/
def recO (fn : FuncId) (tmps : Array Value) (p : Tmp) (assign body : Code) (D : Nat) (st : LoopState) : Loop := { state := st, pending := none, fn := fn, tmps := tmps, params := #[p], assign := assign, body := body, defers := D }
theorem rangeO {α : Type} {P : Program} {n : Nat} {g : Operand} {p : Tmp} {assign body : Code} {Q : Exit → Act → World → Prop} {a : Act} {w : World} {gf : Nat} {lb : Array Value} (hg : a.eval g = .func (.func gf) #[] lb) (eg : ∀ args w, (callFunc gf args).run P w = .ok (.enter gf args) w)
    {enc : α → Value} {Kp : World → World → Prop} {S : List α → Prop} {Nx : List α → α → Prop} {w0 : World} {m : Nat} (hm : m ≤ w.heap.size + 1 + 1) (hseq : SeqO m (n - 1) P gf lb enc Kp S Nx w0) (hKt : ∀ {A B C : World}, Kp A B → Kp B C → Kp A C)
    (hKb : ∀ (W : World) (o o' : Obj), W.heap[w.heap.size + 1]? = some o → Kp W (W.putObj (w.heap.size + 1) o')) (hb0 : Below w0.heap.size w0 w)
    (I : List α → World → Prop) (hI : OwnFrom w.heap.size I) (h0 : I [] w) (a1 : α → Act)
    (hassign : ∀ (l : Nat) (x : α) (W : World) (K : Act → World → Prop), K (a1 x) W → assign.wpIn (Fence.wide.inRound l) (n - 1 - 1) P (Exit.then K (fun _ _ _ => False)) { tmps := a.tmps.setIfInBounds p (enc x), defers := [] } W)
    (hbody : ∀ (l : Nat) (pre : List α) (x : α) (W : World), I pre W → Nx pre x → body.wpIn (Fence.wide.inRound l) (n - 1 - 1) P (goesOn w.heap.size Kp I (pre ++ [x]) W) (a1 x) W)
    (hdone : ∀ (D : Nat) (xs : List α) (W : World), w.heap.size ≤ D → S xs → I xs W → W.heap[D]? = some (.deferred (some [])) → Q .normal { a with defers := { target := .collected D, args := #[] } :: a.defers } W) :
    (Code.rangeFunc g #[p] assign body).wpIn Fence.wide n P Q a w := by
  refine wpIn_rangeFunc fun fn hfn => ?_
  have hd : Fence.wide.depth.isSome = true → 1 ≤ n := fun h => (by simp [Fence.wide] at h)
  -- the two blocks that the statement lays
  obtain ⟨W1, hW1⟩ : ∃ W1, W1 = (w.alloc (.deferred (some []))).alloc (.loop (recO fn a.tmps p assign body w.heap.size .ready)) := ⟨_, rfl⟩
  have hsz : W1.heap.size = w.heap.size + 1 + 1 := by rw [hW1]; simp
  have hl : W1.heap[w.heap.size + 1]? = some (.loop (recO fn a.tmps p assign body w.heap.size .ready)) := by
    have := World.alloc_heap_new (w.alloc (.deferred (some []))) (.loop (recO fn a.tmps p assign body w.heap.size .ready))
    rw [World.size_alloc] at this
    rw [hW1]; exact this
  have hk : W1.heap[w.heap.size]? = some (.deferred (some [])) := by
    rw [hW1]; exact (Below.heap_alloc _ _ _ (by simp)).trans (World.alloc_heap_new w _)
  have hb1 : Below w0.heap.size w0 W1 := hb0.trans (by
    rw [hW1]
    exact (((Below.refl _ w).alloc (Nat.le_refl _) _).alloc (by simp) _).mono hb0.size)
  have hi1 : I [] W1 := by rw [hW1]; exact hI.alloc _ (hI.alloc _ h0)
  refine ⟨w.heap.size + 1, [{ target := .collected w.heap.size, args := #[] }], W1, { target := .fn (.func gf) lb, args := #[.func (.yield (w.heap.size + 1)) #[] #[]] }, W1, gf, #[.func (.yield (w.heap.size + 1)) #[] #[]] ++ lb, W1, ?_, ?_, ?_, ?_, hd, ?_⟩
  · rw [hW1]; exact run_enterLoop_outer _ _ _ _ _
  · simp only [resolve, hg]
    simp [go_sem]
  · intro f' hf'
    simp [Target.leads] at hf'
    subst hf'
    trivial
  · simp [invoke, go_sem, eg]
  have hcall := hseq (w.heap.size + 1) (fun pre W => I pre W ∧ W.heap[w.heap.size + 1]? = some (.loop (recO fn a.tmps p assign body w.heap.size .ready)) ∧ W.heap[w.heap.size]? = some (.deferred (some []))) W1 hb1 (by omega)
    (fun s A B row hs hgr hr => ⟨hI s A B row hs.1 hgr (fun r e => ⟨by have := (hr r e).1; omega, (hr r e).2⟩),
      (hgr.block _ (Array.getElem?_eq_some_iff.1 hs.2.1).1 (fun e => by have := (hr _ e.symm).1; omega)).trans hs.2.1,
      (hgr.block _ (Array.getElem?_eq_some_iff.1 hs.2.2).1 (fun e => by have := (hr _ e.symm).1; omega)).trans hs.2.2⟩) ?_ ⟨hi1, hl, hk⟩
  · refine hcall.mono ?_
    rintro e W2 ⟨⟨v, rfl⟩, xs, hS, hi, hl2, hk2⟩
    refine ⟨none, _, run_endLoop hl2 (by simp [recO]), ?_⟩
    exact hdone _ xs _ (Nat.le_refl _) hS (hI.putObj _ hi (by omega) hl2 rfl) ((World.putObj_heap_other (by omega)).trans hk2)
  · rintro pre x W ⟨hi, hl2, hk2⟩ hlen
    have hlt : w.heap.size + 1 < W.heap.size := (Array.getElem?_eq_some_iff.1 hl2).1
    have hy := run_yield (P := P) (args := #[enc x]) hl2 (by simp [recO])
    refine ⟨fn, a.tmps.setIfInBounds p (enc x), assign, body, by simpa [recO] using hy, roundIn_of_wpIn hfn (hassign _ x W _ ⟨_, run_beginRound hl2 rfl, ?_⟩)⟩
    obtain ⟨W2, hW2⟩ : ∃ W2, W2 = W.putObj (w.heap.size + 1) (.loop (recO fn a.tmps p assign body w.heap.size .busy)) := ⟨_, rfl⟩
    have hl3 : W2.heap[w.heap.size + 1]? = some (.loop (recO fn a.tmps p assign body w.heap.size .busy)) := by rw [hW2]; exact World.putObj_heap_same hlt
    have hk3 : W2.heap[w.heap.size]? = some (.deferred (some [])) := by rw [hW2]; exact (World.putObj_heap_other (by omega)).trans hk2
    have hkp : Kp W W2 := by rw [hW2]; exact hKb _ _ _ hl2
    have hi2 : I pre W2 := by rw [hW2]; exact hI.putObj _ hi (by omega) hl2 rfl
    show body.wpIn _ _ _ _ _ (W.putObj (w.heap.size + 1) (.loop (recO fn a.tmps p assign body w.heap.size .busy)))
    rw [← hW2]
    refine wpIn_mono (hbody _ pre x W2 hi2 hlen) ?_
    rintro e a3 W3 hp
    cases e with
    | normal =>
      obtain ⟨hkf, hkp3, hi3⟩ := hp
      have hl4 := hkf.same _ _ (by omega) hl3 rfl
      have hk4 := hkf.same _ _ (Nat.le_refl _) hk3 rfl
      have hlt3 := (Array.getElem?_eq_some_iff.1 hl4).1
      refine ⟨_, _, run_endRound none hl4, rfl, ⟨hI.putObj _ hi3 (by omega) hl4 rfl, ?_, (World.putObj_heap_other (by omega)).trans hk4⟩, hKt (hKt hkp hkp3) (hKb _ _ _ hl4)⟩
      exact World.putObj_heap_same hlt3
    | ret => exact hp.elim
    | exit id => exact hp.elim
    | goto t => exact hp.elim
    | panic ch => exact hp.elim
    | outgrown => exact hp.elim
theorem round_any {n m l2 : Nat} {P : Program} {l : Nat} {f : FuncId} {tmps : Array Value} {assign body : Code} {w : World} {R : Ending → World → Prop} (h : RoundIn Fence.wide n P l f tmps assign body w R) : RoundIn (Fence.wide.inRound l2) m P l f tmps assign body w R :=
  ⟨trivial, fun c cs _ => h.2 c cs (by simp [Fence.room, Fence.wide])⟩
end Go.Proofs.YtgacdimjbpkgoaaDoor
