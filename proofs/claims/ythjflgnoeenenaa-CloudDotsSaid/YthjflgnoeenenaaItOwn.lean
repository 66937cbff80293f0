/- An iterator that writes in memory of its own, and the statement 'for .. := range seq' over it: the round's blocks are told apart from the iterator's. Plain lemmas over any program. -/
import Derived.RangeFuncWrites
import Derived.RangeFuncLeaves
import Derived.RangeFuncRecord
import Derived.RangeFuncBox
import Derived.RangeFuncCalls
import Derived.Test.YthjflgnoeenenaaBlk
namespace Go.Proofs.Ythjflgnoeenenaa
open Go Go.RowKit

/-- what an iterator does between rounds: the blocks of C, and all below base, stay -/
structure MvC (base : Nat) (C : Nat → Prop) (A B : World) : Prop where
  os : B.os = A.os
  tape : B.tape = A.tape
  output : B.output = A.output
  size : A.heap.size ≤ B.heap.size
  block : ∀ b, b < A.heap.size → (C b ∨ b < base) → B.heap[b]? = A.heap[b]?
theorem MvC.refl (base : Nat) (C : Nat → Prop) (A : World) : MvC base C A A := ⟨rfl, rfl, rfl, Nat.le_refl _, fun _ _ _ => rfl⟩
theorem MvC.trans {base : Nat} {C : Nat → Prop} {A B D : World} (h : MvC base C A B) (k : MvC base C B D) : MvC base C A D := ⟨k.os.trans h.os, k.tape.trans h.tape, k.output.trans h.output, Nat.le_trans h.size k.size, fun b h1 h2 => (k.block b (Nat.lt_of_lt_of_le h1 h.size) h2).trans (h.block b h1 h2)⟩
theorem MvC.of_below {base : Nat} {C : Nat → Prop} {A B : World} (h : Below A.heap.size A B) : MvC base C A B := ⟨h.os, h.tape, h.output, h.size, fun b h1 _ => h.block b h1⟩
theorem MvC.of_grown {base : Nat} {C : Nat → Prop} {A B : World} {row : Option Nat} (h : A.grownBy B row) (hr : ∀ g, row = some g → ¬ C g ∧ base ≤ g) : MvC base C A B := ⟨h.os, h.tape, h.output, h.size, fun b h1 h2 => h.block b h1 (fun e => by
  have := hr b e.symm
  rcases h2 with h2 | h2
  · exact this.1 h2
  · omega)⟩
theorem MvC.less {base : Nat} {C C' : Nat → Prop} {A B : World} (h : MvC base C' A B) (hc : ∀ b, C b → C' b) : MvC base C A B := ⟨h.os, h.tape, h.output, h.size, fun b h1 h2 => h.block b h1 (h2.imp (hc b) id)⟩
theorem MvC.below {base m : Nat} {C : Nat → Prop} {w A B : World} (h : MvC base C A B) (hw : Below m w A) (hm : m ≤ base) (hs : m ≤ A.heap.size) : Below m w B := ⟨h.os.trans hw.os, h.tape.trans hw.tape, h.output.trans hw.output, Nat.le_trans hw.size h.size, fun b hb => (h.block b (by omega) (.inr (by omega))).trans (hw.block b hb)⟩
/-- what a round does: all but its own blocks stay -/
structure KpC (C C' : Nat → Prop) (A B : World) : Prop where
  size : A.heap.size ≤ B.heap.size
  block : ∀ b, b < A.heap.size → ¬ C b → B.heap[b]? = A.heap[b]?
  more : ∀ b, C' b → C b ∨ A.heap.size ≤ b
  low : ∀ b, C' b → b < B.heap.size
def SeqC {α : Type} (n : Nat) (P : Program) (gf : Nat) (lb : Array Value) (encs : α → Array Value) (base : Nat) (items : List α) (G : Nat → Prop) (w0 : World) : Prop :=
  ∀ (l : Nat) (C0 : Nat → Prop) (J Jx : (Nat → Prop) → List α → World → Prop) (W : World), Below w0.heap.size w0 W → (∀ b, C0 b → ¬ G b ∧ b < W.heap.size) →
    (∀ C pre A B, J C pre A → MvC base C A B → J C pre B) → (∀ C pre A B, Jx C pre A → MvC base C A B → Jx C pre B) →
    (∀ C pre x post W1, items = pre ++ x :: post → J C pre W1 → YieldAt Fence.wide (n - 1) P l (encs x) W1 fun e W' =>
      ∃ C', KpC C C' W1 W' ∧ ((e = .returned (.bool true) ∧ J C' (pre ++ [x]) W') ∨ (e = .returned (.bool false) ∧ Jx C' (pre ++ [x]) W'))) →
    J C0 [] W →
    CallsIn Fence.wide n P gf (#[.func (.yield l) #[] #[]] ++ lb) W fun e W' => (∃ v, e = .returned v) ∧ ((∃ C, J C items W') ∨ (∃ C pre x post, items = pre ++ x :: post ∧ Jx C (pre ++ [x]) W'))
/-- how a round's body ends -/
def ownPostC {α : Type} (C : Nat → Prop) (I Ix : (Nat → Prop) → List α → World → Prop) (xs : List α) (W : World) : Exit → Act → World → Prop
  | .normal, _, W' => ∃ C', KpC C C' W W' ∧ I C' xs W'
  | .ret, _, W' => ∃ C', KpC C C' W W' ∧ Ix C' xs W'
  | _, _, _ => False
theorem below_putObj {w W : World} {m l : Nat} (h : Below m w W) (hl : m ≤ l) (hm : m ≤ W.heap.size) (o : Obj) : Below m w (W.putObj l o) :=
  h.grown (grownBy_putObj' W l o) hm (fun k e => by cases e; exact hl)
theorem rangeC {α : Type} {P : Program} {n : Nat} {g : Operand} {ps : Array Tmp} {assign body : Code} {Q : Exit → Act → World → Prop} {a : Act} {w : World} {gf : Nat} {lb : Array Value} (hg : a.eval g = .func (.func gf) #[] lb) (eg : ∀ args w, (callFunc gf args).run P w = .ok (.enter gf args) w)
    {encs : α → Array Value} {base : Nat} {items : List α} {G : Nat → Prop} {w0 : World} (hseq : SeqC (n - 1) P gf lb encs base items G w0) (hb0 : Below w0.heap.size w0 w) (hbase : base ≤ w.heap.size) (hG : ∀ b, G b → b < w.heap.size) (hps : ∀ x, (encs x).size = ps.size)
    (I Ix : (Nat → Prop) → List α → World → Prop) (hI : ∀ C pre A B, I C pre A → MvC base C A B → I C pre B) (hIx : ∀ C pre A B, Ix C pre A → MvC base C A B → Ix C pre B)
    (C0 : Nat → Prop) (hC0 : ∀ b, C0 b → ¬ G b ∧ b < w.heap.size) (h0 : I C0 [] w)
    (Ax : α → Act → World → Prop) (hAx : ∀ x a' W o', w.heap.size + 1 < W.heap.size → (∃ r, W.heap[w.heap.size + 1]? = some (.loop r)) → Ax x a' W → Ax x a' (W.putObj (w.heap.size + 1) o'))
    (hassign : ∀ (l : Nat) (x : α) (W : World) (K : Act → World → Prop), (∀ a' W', Below W.heap.size W W' → Ax x a' W' → K a' W') →
      assign.wpIn (Fence.wide.inRound l) (n - 1 - 1) P (Exit.then K (fun _ _ _ => False)) { tmps := (ps.zip (encs x)).foldl (fun t (p, v) => t.setIfInBounds p v) a.tmps, defers := [] } W)
    (hbody : ∀ (l : Nat) (C : Nat → Prop) (pre : List α) (x : α) (post : List α) (a' : Act) (W : World), items = pre ++ x :: post → I C pre W → Ax x a' W → (∀ b, C b → b < W.heap.size) → (∀ b, G b → ¬ C b) → body.wpIn (Fence.wide.inRound l) (n - 1 - 1) P (ownPostC C I Ix (pre ++ [x]) W) a' W)
    (hdone : ∀ (D : Nat) (C : Nat → Prop) (W : World), I C items W → W.heap[D]? = some (.deferred (some [])) → w.heap.size ≤ D → Q .normal { a with defers := { target := .collected D, args := #[] } :: a.defers } W)
    (hstop : ∀ (D : Nat) (C : Nat → Prop) (pre : List α) (x : α) (post : List α) (W : World), items = pre ++ x :: post → Ix C (pre ++ [x]) W → W.heap[D]? = some (.deferred (some [])) → w.heap.size ≤ D → Code.ret.wpIn Fence.wide n P Q { a with defers := { target := .collected D, args := #[] } :: a.defers } W) :
    (Code.rangeFunc g ps assign body).wpIn Fence.wide n P Q a w := by
  refine wpIn_rangeFunc fun fn hfn => ?_
  have hd : Fence.wide.depth.isSome = true → 1 ≤ n := fun h => (by simp [Fence.wide] at h)
  obtain ⟨rec, hrec⟩ : ∃ rec : LoopState → Option Code → Loop, rec = fun st pe => { state := st, pending := pe, fn, tmps := a.tmps, params := ps, assign, body, defers := w.heap.size } := ⟨_, rfl⟩
  obtain ⟨W1, hW1⟩ : ∃ W1, (w.alloc (.deferred (some []))).alloc (.loop (rec .ready none)) = W1 := ⟨_, rfl⟩
  have hsz : W1.heap.size = w.heap.size + 1 + 1 := by rw [← hW1]; simp
  have hL1 : W1.heap[w.heap.size + 1]? = some (.loop (rec .ready none)) := by
    rw [← hW1]; have := World.alloc_heap_new (w.alloc (.deferred (some []))) (.loop (rec .ready none)); rwa [World.size_alloc] at this
  have hK1 : W1.heap[w.heap.size]? = some (.deferred (some [])) := by
    rw [← hW1]; exact (Below.heap_alloc _ _ _ (by simp)).trans (World.alloc_heap_new w _)
  have hww : Below w.heap.size w W1 := by
    rw [← hW1]; exact ((Below.refl _ w).alloc (Nat.le_refl _) _).alloc (by simp) _
  have hb1 : Below w0.heap.size w0 W1 := hb0.trans (hww.mono hb0.size)
  have hI1 : I C0 [] W1 := hI _ _ _ _ h0 (MvC.of_below hww)
  obtain ⟨D, hD⟩ : ∃ D, w.heap.size = D := ⟨_, rfl⟩
  obtain ⟨L, hL⟩ : ∃ L, w.heap.size + 1 = L := ⟨_, rfl⟩
  have hDL : L = D + 1 := by omega
  refine ⟨w.heap.size + 1, [{ target := .collected w.heap.size, args := #[] }], W1, { target := .fn (.func gf) lb, args := #[.func (.yield (w.heap.size + 1)) #[] #[]] }, W1, gf, #[.func (.yield (w.heap.size + 1)) #[] #[]] ++ lb, W1, ?_, ?_, ?_, ?_, hd, ?_⟩
  · rw [← hW1, hrec]; exact run_enterLoop_outer _ _ _ _ _
  · simp only [resolve, hg]
    simp [go_sem]
  · intro f' hf'
    simp [Target.leads] at hf'
    subst hf'
    trivial
  · simp [invoke, go_sem, eg]
  -- the invariant with what the statement itself keeps
  let JJ : LoopState → Option Code → ((Nat → Prop) → List α → World → Prop) → (Nat → Prop) → List α → World → Prop := fun st pe II C' pre W =>
    (∃ C, C' = (fun b => C b ∨ b = D ∨ b = L) ∧ (∀ b, C b → b ≠ D ∧ b ≠ L ∧ b < W.heap.size ∧ ¬ G b) ∧ II C pre W) ∧ W.heap[L]? = some (.loop (rec st pe)) ∧ W.heap[D]? = some (.deferred (some []))
  have hJJ : ∀ st pe (II : (Nat → Prop) → List α → World → Prop), (∀ C pre A B, II C pre A → MvC base C A B → II C pre B) → ∀ C pre A B, JJ st pe II C pre A → MvC base C A B → JJ st pe II C pre B := by
    rintro st pe II hII C' pre A B ⟨⟨C, rfl, hc, hi⟩, hl, hk⟩ hm
    refine ⟨⟨C, rfl, fun b hb => ?_, hII C pre A B hi (hm.less fun b hb => .inl hb)⟩, (hm.block L (Array.getElem?_eq_some_iff.1 hl).1 (.inl (.inr (.inr rfl)))).trans hl, (hm.block D (Array.getElem?_eq_some_iff.1 hk).1 (.inl (.inr (.inl rfl)))).trans hk⟩
    obtain ⟨c1, c2, c3, c4⟩ := hc b hb
    exact ⟨c1, c2, Nat.lt_of_lt_of_le c3 hm.size, c4⟩
  have hcall := hseq (w.heap.size + 1) (fun b => C0 b ∨ b = D ∨ b = L) (JJ .ready none I) (JJ .done (some .ret) Ix) W1 hb1 (fun b hb => by
    rcases hb with hb | rfl | rfl
    · exact ⟨(hC0 b hb).1, by have := (hC0 b hb).2; omega⟩
    · exact ⟨fun hgb => by have := hG _ hgb; omega, by omega⟩
    · exact ⟨fun hgb => by have := hG _ hgb; omega, by omega⟩) (hJJ _ _ I hI) (hJJ _ _ Ix hIx) ?_ ⟨⟨C0, rfl, fun b hb => by
      have := hC0 b hb
      exact ⟨by omega, by omega, by omega, this.1⟩, hI1⟩, by rw [← hL]; exact hL1, by rw [← hD]; exact hK1⟩
  · refine hcall.mono ?_
    rintro e W2 ⟨⟨v, rfl⟩, (⟨_, ⟨C, rfl, hc, hi⟩, hl, hk⟩ | ⟨_, pre, x, post, hit, ⟨C, rfl, hc, hi⟩, hl, hk⟩)⟩
    · rw [hD, ← hDL]
      refine ⟨none, _, by have := run_endLoop (P := P) hl (by rw [hrec]; simp); rw [hrec] at this; exact this, hdone D C _ (hI C items W2 _ hi (MvC.of_grown (grownBy_putObj' W2 L _) (fun b e => ?_))) ((World.putObj_heap_other (by omega)).trans hk) (by omega)⟩
      cases e
      exact ⟨fun h => (hc _ h).2.1 rfl, by omega⟩
    · rw [hD, ← hDL]
      refine ⟨some .ret, _, by have := run_endLoop (P := P) hl (by rw [hrec]; simp); rw [hrec] at this; exact this, hstop D C pre x post _ hit (hIx C _ W2 _ hi (MvC.of_grown (grownBy_putObj' W2 L _) (fun b e => ?_))) ((World.putObj_heap_other (by omega)).trans hk) (by omega)⟩
      cases e
      exact ⟨fun h => (hc _ h).2.1 rfl, by omega⟩
  · rintro C' pre x post W hit ⟨⟨C, rfl, hc, hi⟩, hl, hk⟩
    have hlt : L < W.heap.size := (Array.getElem?_eq_some_iff.1 hl).1
    have hy := run_yield (P := P) (args := encs x) hl (by rw [hrec]; exact hps x)
    rw [hrec] at hy
    rw [hL]
    refine ⟨fn, _, assign, body, hy, roundIn_of_wpIn hfn (hassign _ x W _ ?_)⟩
    clear hy
    intro a' Wa hba hax
    have hla := (hba.block L hlt).trans hl
    have hka := (hba.block D (by omega)).trans hk
    have hlta : L < Wa.heap.size := Nat.lt_of_lt_of_le hlt hba.size
    refine ⟨_, run_beginRound hla (by rw [hrec]), ?_⟩
    obtain ⟨W2, hW2⟩ : ∃ W2, W2 = Wa.putObj L (.loop { rec .ready none with state := .busy }) := ⟨_, rfl⟩
    have hs2 : W2.heap.size = Wa.heap.size := by rw [hW2]; simp
    have hl2 : W2.heap[L]? = some (.loop { rec .ready none with state := .busy }) := by rw [hW2]; exact World.putObj_heap_same hlta
    have hk2 : W2.heap[D]? = some (.deferred (some [])) := by rw [hW2]; exact (World.putObj_heap_other (by omega)).trans hka
    have ho2 : ∀ b, b ≠ L → W2.heap[b]? = Wa.heap[b]? := fun b hb => by rw [hW2]; exact World.putObj_heap_other hb
    have hi2 : I C pre W2 := by
      rw [hW2]
      refine hI _ _ _ _ (hI _ _ _ _ hi (MvC.of_below hba)) (MvC.of_grown (grownBy_putObj' Wa L _) (fun b e => ?_))
      cases e
      exact ⟨fun h => (hc _ h).2.1 rfl, by omega⟩
    have hax2 : Ax x a' W2 := by
      have := hAx x a' Wa (.loop { rec .ready none with state := .busy }) (by omega) ⟨_, by rw [hL]; exact hla⟩ hax
      rw [hW2, ← hL]; exact this
    show body.wpIn _ _ _ _ _ (Wa.putObj L (.loop { rec .ready none with state := .busy }))
    rw [← hW2]
    have hsa := hba.size
    refine wpIn_mono (hbody _ C pre x post a' W2 hit hi2 hax2 (fun b hb => by have := (hc b hb).2.2.1; omega) (fun b hb hcb => (hc b hcb).2.2.2 hb)) ?_
    have key : ∀ (jump : Option Code) (II : (Nat → Prop) → List α → World → Prop) (hII : ∀ C pre A B, II C pre A → MvC base C A B → II C pre B) (W3 : World) (C2 : Nat → Prop), KpC C C2 W2 W3 → II C2 (pre ++ [x]) W3 →
        (Instr.endRound L jump).run P W3 = .ok (.bool jump.isNone) (W3.putObj L (.loop (rec (if jump.isNone then .ready else .done) jump))) ∧
        KpC (fun b => C b ∨ b = D ∨ b = L) (fun b => C2 b ∨ b = D ∨ b = L) W (W3.putObj L (.loop (rec (if jump.isNone then .ready else .done) jump))) ∧
        JJ (if jump.isNone then .ready else .done) jump II (fun b => C2 b ∨ b = D ∨ b = L) (pre ++ [x]) (W3.putObj L (.loop (rec (if jump.isNone then .ready else .done) jump))) := by
      intro jump II hII W3 C2 hkp hi3
      have nL : ¬ C L := fun h => (hc _ h).2.1 rfl
      have nD : ¬ C D := fun h => (hc _ h).1 rfl
      have hl3 := (hkp.block L (by omega) nL).trans hl2
      have hk3 := (hkp.block D (by omega) nD).trans hk2
      have hlt3 : L < W3.heap.size := (Array.getElem?_eq_some_iff.1 hl3).1
      have hr := run_endRound (P := P) jump hl3
      rw [hrec] at hr
      have hkps := hkp.size
      have hC2 : ∀ b, C2 b → b ≠ D ∧ b ≠ L ∧ b < W3.heap.size ∧ ¬ G b := fun b hb => by
        have h5 := hkp.low b hb
        rcases hkp.more b hb with h4 | h4
        · obtain ⟨c1, c2, c3, c4⟩ := hc b h4
          exact ⟨c1, c2, h5, c4⟩
        · exact ⟨by omega, by omega, h5, fun hgb => by have := hG b hgb; omega⟩
      refine ⟨by rw [hrec]; exact hr, ⟨by simp; omega, fun b hb hn => ?_, fun b hb => ?_, fun b hb => ?_⟩, ⟨C2, rfl, fun b hb => ?_, ?_⟩, World.putObj_heap_same hlt3, (World.putObj_heap_other (by omega)).trans hk3⟩
      · have n1 : ¬ C b := fun h => hn (.inl h)
        have n2 : b ≠ L := fun h => hn (.inr (.inr h))
        exact (World.putObj_heap_other n2).trans ((hkp.block b (by omega) n1).trans ((ho2 b n2).trans (hba.block b hb)))
      · rcases hb with hb | hb | hb
        · rcases hkp.more b hb with h4 | h4
          · exact .inl (.inl h4)
          · exact .inr (by omega)
        · exact .inl (.inr (.inl hb))
        · exact .inl (.inr (.inr hb))
      · have hs3 : (W3.putObj L (.loop (rec (if jump.isNone then .ready else .done) jump))).heap.size = W3.heap.size := by simp
        rcases hb with hb | hb | hb
        · have := hkp.low b hb; omega
        · omega
        · omega
      · obtain ⟨c1, c2, c3, c4⟩ := hC2 b hb
        exact ⟨c1, c2, by simpa using c3, c4⟩
      · refine hII _ _ _ _ hi3 (MvC.of_grown (grownBy_putObj' W3 L _) (fun b e => ?_))
        cases e
        exact ⟨fun h => (hC2 _ h).2.1 rfl, by omega⟩
    rintro e a3 W3 hp
    cases e with
    | normal =>
      obtain ⟨C2, hkp, hi3⟩ := hp
      obtain ⟨hr, hkq, hj⟩ := key none I hI W3 C2 hkp hi3
      exact ⟨_, _, hr, _, hkq, .inl ⟨rfl, hj⟩⟩
    | ret =>
      obtain ⟨C2, hkp, hi3⟩ := hp
      obtain ⟨hr, hkq, hj⟩ := key (some .ret) Ix hIx W3 C2 hkp hi3
      exact ⟨_, _, hr, _, hkq, .inr ⟨rfl, hj⟩⟩
    | exit id => exact hp.elim
    | goto t => exact hp.elim
    | panic ch => exact hp.elim
    | outgrown => exact hp.elim
end Go.Proofs.Ythjflgnoeenenaa
