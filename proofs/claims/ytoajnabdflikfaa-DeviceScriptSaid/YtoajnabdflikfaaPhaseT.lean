/- A region that draws its order, in two parts: ahead, operations that read, and some that change the world one behind the other; behind, a tail in one forced order, which is walked as a plain list. Plain lemmas over any program. -/
import Derived.Test.YtoajnabdflikfaaPhase
import Derived.StillTail
namespace Go.Proofs.Ytoajnabdflikfaa
open Go

section
variable {G : Oper → Bool} {P : Program} {ops : Array Oper} {md : Region.Mode} {C : Nat → World → Prop} {D : World → Prop}

def wpAnyPL (G : Oper → Bool) (P : Program) (md : Region.Mode) (ops : Array Oper) (C : Nat → World → Prop) (D : World → Prop) (n : Nat) (L : Array Bool → Nat → Act → Prop) : Nat → Array Bool → Nat → Act → Prop
  | 0, listed, k, a => L listed k a
  | f + 1, listed, k, a =>
    Region.ready md ops listed ≠ [] ∧ ∀ i ∈ Region.ready md ops listed, i < n ∧ pOp G P ops C D i (wpAnyPL G P md ops C D n L f (listed.setIfInBounds i true)) k a
theorem wpAny_of_headP {n g : Nat} {L : Array Bool → Nat → Act → Prop} {Q' : Exit → Act → World → Prop} (hCD : ∀ k w, C k w → D w) (hL : ∀ listed k a w, C k w → L listed k a → wpAny P md ops Q' g listed a w) :
    ∀ (f : Nat) (listed : Array Bool) (k : Nat) (a : Act) (w : World), C k w → wpAnyPL G P md ops C D n L f listed k a → wpAny P md ops Q' (f + g) listed a w
  | 0, listed, k, a, w, hC, h => by rw [Nat.zero_add]; exact hL _ _ _ _ hC h
  | f + 1, listed, k, a, w, hC, h => by
    rw [show f + 1 + g = (f + g) + 1 by omega]
    exact ⟨fun h0 => absurd h0 h.1, fun i hi => wpOp_of_pOp hCD hC (fun k' a' w' hC' h' => wpAny_of_headP hCD hL f _ k' a' w' hC' h') (h.2 i hi).2⟩
theorem wpAnyPL_first {n i : Nat} {oi : Oper} {v : Value} {s : Nat} {L : Array Bool → Nat → Act → Prop} (hi : ops[i]? = some oi) (hsel : ∀ (j : Nat) (o : Oper) cs b, ops[j]? = some o → o.op ≠ .select cs b)
    (hs : Region.sinkB md ops n = true) (hc : Region.chainB md ops n = true) (hn : n < ops.size) (hin : i < n)
    (hdone : ∀ listed k a, L listed k a → ∀ j ∈ Region.ready md ops listed, n ≤ j) (R : List Nat) :
    ∀ (f : Nat) (listed : Array Bool) (k : Nat) (a : Act), HeadInv md ops n listed →
      (G oi = true → Waits G md ops i R listed) →
      (∀ j oj, ops[j]? = some oj → j ≠ i → listed.getD j true = false → (∀ e ∈ oj.after, Region.binds md e = true → e.on ≠ i) → oi.apart ops oj = true) →
      i ∈ Region.ready md ops listed → YieldsP G P ops C D oi v s k a →
      wpAnyPL G P md ops C D n L f (listed.setIfInBounds i true) (k + s) (a.put oi.dst v) → wpAnyPL G P md ops C D n L (f + 1) listed k a := by
  intro f
  induction f with
  | zero =>
    intro listed k a inv _ _ hr hy H
    have hun := (mem_ready.1 hr).1
    refine ⟨fun h => (by rw [h] at hr; cases hr), fun j hj => ?_⟩
    have hjn : j < n := by
      rcases Nat.lt_or_ge j n with h | h
      · exact h
      · exact absurd hj (tail_waits hs hc hn inv _ i rfl hin hun j h)
    refine ⟨hjn, ?_⟩
    by_cases hji : j = i
    · subst hji; exact hy.pOp hi H
    · have := hdone _ _ _ H j (ready_mono hj hji)
      omega
  | succ f ih =>
    intro listed k a inv hR hfree hr hy H
    have hun := (mem_ready.1 hr).1
    refine ⟨fun h => (by rw [h] at hr; cases hr), fun j hj => ?_⟩
    have hjn : j < n := by
      rcases Nat.lt_or_ge j n with h | h
      · exact h
      · exact absurd hj (tail_waits hs hc hn inv _ i rfl hin hun j h)
    refine ⟨hjn, ?_⟩
    by_cases hji : j = i
    · subst hji; exact hy.pOp hi H
    · have h1 := (H.2 j (ready_mono hj hji)).2
      obtain ⟨hjun, oj, hoj, hall⟩ := mem_ready.1 hj
      have hnot : ∀ e ∈ oj.after, Region.binds md e = true → e.on ≠ i := fun e he hb heq => by
        have h1 := hall e he hb
        rw [heq, getD_both hun] at h1
        cases h1
      have hcc : G oi = true → G oj = false := fun hcg => by
        cases hq : G oj with
        | false => rfl
        | true => exact absurd ((hR hcg).2.2 j oj hoj hji hjun hq) ((hR hcg).not_ready hun hj)
      have h2 := pOp_put hoj (hfree j oj hoj hji hjun hnot) (fun cs b => hsel i oi cs b hi) (fun cs b => hsel j oj cs b hoj) hcc hy h1
      have hfree' : ∀ k ok, ops[k]? = some ok → k ≠ i → (listed.setIfInBounds j true).getD k true = false →
          (∀ e ∈ ok.after, Region.binds md e = true → e.on ≠ i) → oi.apart ops ok = true := fun k ok hk hki hun hno => by
        refine hfree k ok hk hki ?_ hno
        by_cases hjk : j = k
        · subst hjk; exact hjun
        · rw [getD_set_ne true hjk] at hun; exact hun
      have hR' : G oi = true → Waits G md ops i R (listed.setIfInBounds j true) := fun hcg => by
        have hnr := (hR hcg).not_ready hun hj
        refine ⟨fun m hm => ?_, (hR hcg).2.1, fun m om hm hmi hun hmc => ?_⟩
        · rw [getD_set_ne true (fun e => hnr (by rw [e]; exact hm))]; exact (hR hcg).1 m hm
        · refine (hR hcg).2.2 m om hm hmi ?_ hmc
          by_cases hjk : j = m
          · subst hjk; exact hjun
          · rw [getD_set_ne true hjk] at hun; exact hun
      refine pOp_mono (fun k' a' h3 => ih (listed.setIfInBounds j true) k' a' (inv.set hj hjn) hR' hfree' (ready_mono hr (Ne.symm hji)) h3.1 ?_) h2
      rw [Array.setIfInBounds_comm _ _ hji]
      exact h3.2
theorem wpAnyPL_lex {n g : Nat} {Lq : Nat → Act → Prop} (hsel : Region.noSelect ops = true) (hcB : callsB G md ops = true) (hs : Region.sinkB md ops n = true) (hc : Region.chainB md ops n = true) (hn : n < ops.size) :
    ∀ (l : List Oper) (i : Nat) (listed : Array Bool) (k : Nat) (a : Act), (∀ j, j < l.length → l[j]? = ops[i + j]?) → i + l.length = n → (∀ j, j < ops.size → listed.getD j true = decide (j < i)) → HeadInv md ops n listed →
    Region.lexHead md ops g l.length i listed = true → wpPhase G P ops C D Lq l k a →
    wpAnyPL G P md ops C D n (fun listed' k' a' => Region.seqB md ops g n listed' = true ∧ Lq k' a') l.length listed k a
  | [], i, listed, k, a, _, hk, _, _, hB, h => by
    have : i = n := by simpa using hk
    subst this
    exact ⟨by simpa [Region.lexHead] using hB, h⟩
  | o :: l, i, listed, k, a, hl, hk, hli, inv, hB, h => by
    have h0 : ops[i]? = some o := by simpa using (hl 0 (by simp)).symm
    simp only [List.length_cons, Region.lexHead, Bool.and_eq_true] at hB
    obtain ⟨⟨hr, hf⟩, hB'⟩ := hB
    have hkn : i < n := by simp only [List.length_cons] at hk; omega
    have hr' : i ∈ Region.ready md ops listed := by simpa using hr
    have hst : pOp G P ops C D i (wpPhase G P ops C D Lq l) k a := by unfold pOp; simp only [h0]; exact h
    obtain ⟨v, s, hy, hK⟩ := yieldsP_of_pOp h0 hst
    exact wpAnyPL_first h0 (Region.noSelect_spec hsel) hs hc hn hkn (fun listed' k' a' hL => seqB_ready hL.1) (behindOf md ops i) l.length listed k a inv (fun hcg => waits_of hcB h0 hcg hli) (Region.free_spec h0 hf) hr' hy
      (wpAnyPL_lex hsel hcB hs hc hn l (i + 1) _ _ _ (fun j hj => by have := hl (j + 1) (by simp; omega); simpa [Nat.add_assoc, Nat.add_comm 1 j] using this) (by simp only [List.length_cons] at hk; omega) (fun j hj => by
        by_cases hij : i = j
        · subst hij
          simp [inv.size, hj]
        · rw [getD_set_ne true hij, hli j hj]
          simp only [decide_eq_decide]
          omega) (inv.set hr' hkn) hB' hK)
theorem any_phaseT (G : Oper → Bool) (n : Nat) {Q : Exit → Act → World → Prop} {a : Act} {w : World} {l : List Oper} (C : Nat → World → Prop) (D : World → Prop) (hCD : ∀ k w, C k w → D w) (hB : Region.lexTailB .any l.toArray n = true) (hcB : callsB G .any l.toArray = true) (hC : C 0 w.drew)
    (h : ∀ (S : Type) [Nonempty S] (at_ : S → World), (∀ x, D (at_ x)) → wpPhase G P l.toArray C (fun w' => ∃ x : S, w' = at_ x) (fun k a' => ∀ w', C k w' → wpList P l.toArray Q (l.drop n) a' w') (l.take n) 0 a) : wpAny P .any l.toArray Q l.toArray.size (Array.replicate l.toArray.size false) a w.drew := by
  have : Nonempty {w // D w} := ⟨⟨_, hCD _ _ hC⟩⟩
  have hh := h {w // D w} (fun x => x.1) (fun x => x.2)
  simp only [Region.lexTailB, Bool.and_eq_true, decide_eq_true_eq] at hB
  obtain ⟨⟨⟨⟨hsel, hn⟩, hs⟩, hc⟩, hlex⟩ := hB
  have hn' : n < l.length := by simpa using hn
  have htl : (l.take n).length = n := by simp; omega
  have hdl : (l.drop n).length = l.toArray.size - n := by simp
  have inv0 : HeadInv .any l.toArray n (Array.replicate l.toArray.size false) :=
    ⟨by simp, fun j oj _ hl => (by rw [getD_replicate_false] at hl; cases hl), fun t _ ht => getD_in (by simpa using ht) (getD_replicate_false _ _)⟩
  have H := wpAnyPL_lex (G := G) (C := C) (D := fun w' => ∃ x : {w // D w}, w' = x.1) (md := .any) (g := l.toArray.size - n) hsel hcB hs hc hn (l.take n) 0 (Array.replicate l.toArray.size false) 0 a (fun j hj => by
    have hj' : j < n := by rw [htl] at hj; exact hj
    simp [hj']) (by simpa using htl) (fun j hj => by simp at hj; simp [hj]) inv0 (by rw [htl]; exact hlex) hh
  have := wpAny_of_headP (G := G) (C := C) (D := fun w' => ∃ x : {w // D w}, w' = x.1) (Q' := Q) (g := l.toArray.size - n) (fun k w hk => ⟨⟨w, hCD k w hk⟩, rfl⟩) (fun listed k a' w' hC' hL => by
    have := wpAny_of_seq (md := .any) (Q' := Q) (l.drop n) n listed a' w' (fun j => by simp [List.getElem?_drop]) (by rw [hdl]; exact hL.1) (hL.2 w' hC')
    rwa [hdl] at this) _ _ 0 _ _ hC H
  rw [htl, show n + (l.toArray.size - n) = l.toArray.size by omega] at this
  exact this
theorem wp_region_phaseT (G : Oper → Bool) (n : Nat) {id : Nat} {Q : Exit → Act → World → Prop} {a : Act} {w : World} {l : List Oper} (C : Nat → World → Prop) (D : World → Prop) (hCD : ∀ k w, C k w → D w) (hm : P.follows .mixedOrders = true) (hB : Region.lexTailB .any l.toArray n = true) (hcB : callsB G .any l.toArray = true) (hC : C 0 w.drew)
    (h : ∀ (S : Type) [Nonempty S] (at_ : S → World), (∀ x, D (at_ x)) → wpPhase G P l.toArray C (fun w' => ∃ x : S, w' = at_ x) (fun k a' => ∀ w', C k w' → wpList P l.toArray Q (l.drop n) a' w') (l.take n) 0 a) : (Code.region id l.toArray true).wp P Q a w :=
  wp_region_any hm (any_phaseT G n C D hCD hB hcB hC h)
end
section
variable {G : Oper → Bool} {P : Program} {ops : Array Oper} {C : Nat → World → Prop} {D : World → Prop} {Q : Nat → Act → Prop} {rest : List Oper} {o : Oper} {a : Act} {k : Nat}
/-- what cells hold together, read -/
theorem phase_load_run (hc : G o = false) (hw : Region.wanted o (yielded ops a.tmps) = true) (t : TypeId) (x : Operand) (ho : o.op = .load t x) (ad : Addr) (hx : a.eval x = .pointer (some ad)) (v : Value)
    (hr : ∀ w, D w → (loadVar t ad).run P w = .ok v w) (h : wpPhase G P ops C D Q rest k (a.put o.dst v)) : wpPhase G P ops C D Q (o :: rest) k a := by
  refine phase_plain hc fun K hK => ?_
  rw [if_pos hw]
  refine ⟨v, fun w hD => ?_, hK _ h⟩
  unfold Oper.quietAt execOp
  simp only [ho, hx, Instr.loadAt, Instr.sureAddr, Sem.run_bind, Sem.run_pure, Result.andThen_ok, hr w hD]
  exact ⟨rfl, rfl⟩
/-- a slice literal of one part -/
theorem phase_slice (hc : G o = true) (hw : Region.wanted o (yielded ops a.tmps) = true) (t : TypeId) (len i : Nat) (x : Operand) (ho : o.op = .buildSlice t len #[(i, x)]) (u v : Value) (hx : a.eval x = u)
    (hr : ∀ w, C k w → ∃ w', (Instr.buildSlice t len #[(i, u)]).run P w = .ok v w' ∧ C (k + 1) w') (h : wpPhase G P ops C D Q rest (k + 1) (a.put o.dst v)) : wpPhase G P ops C D Q (o :: rest) k a := by
  refine phase_writes hc hw v (fun w hw' => ?_) h
  obtain ⟨w', h1, h2⟩ := hr w hw'
  refine ⟨w', ?_, h2⟩
  unfold execOp
  simp only [ho, List.map_toArray, List.map_cons, List.map_nil, hx, Sem.run_bind, Sem.run_pure, Result.andThen_ok, h1]
/-- append of a slice to a slice of its type -/
theorem phase_append (hc : G o = true) (hw : Region.wanted o (yielded ops a.tmps) = true) (s x : Operand) (t t' : TypeId) (ho : o.op = .call { callee := .builtin .append, args := #[s, x], argTypes := #[t, t'] }) (u u' v : Value) (hs : a.eval s = u) (hx : a.eval x = u')
    (hr : ∀ w, C k w → ∃ w', (Builtin.append_ #[t, t'] o.type #[u, u']).run P w = .ok v w' ∧ C (k + 1) w') (h : wpPhase G P ops C D Q rest (k + 1) (a.put o.dst v)) : wpPhase G P ops C D Q (o :: rest) k a := by
  refine phase_writes hc hw v (fun w hw' => ?_) h
  obtain ⟨w', h1, h2⟩ := hr w hw'
  refine ⟨w', ?_, h2⟩
  unfold execOp
  simp only [ho, resolve, invoke, builtin, Sem.run_bind, Sem.run_pure, Result.andThen_ok, List.map_toArray, List.map_cons, List.map_nil, hs, hx, h1]
/-- a struct that is built out of two parts -/
theorem phase_build2 (hc : G o = false) (hw : Region.wanted o (yielded ops a.tmps) = true) (t : TypeId) (i j : Nat) (x y : Operand) (ho : o.op = .build t #[(i, x), (j, y)]) (u u' v : Value) (hx : a.eval x = u) (hy : a.eval y = u')
    (hr : ∀ w, D w → (Instr.build t #[(i, u), (j, u')]).run P w = .ok v w) (h : wpPhase G P ops C D Q rest k (a.put o.dst v)) : wpPhase G P ops C D Q (o :: rest) k a := by
  refine phase_plain hc fun K hK => ?_
  rw [if_pos hw]
  refine ⟨v, fun w hD => ?_, hK _ h⟩
  unfold Oper.quietAt execOp
  simp only [ho, List.map_toArray, List.map_cons, List.map_nil, hx, hy, Sem.run_bind, Sem.run_pure, Result.andThen_ok, hr w hD]
  exact ⟨rfl, rfl⟩
end
end Go.Proofs.Ytoajnabdflikfaa
