/- A region that draws its order, whose calls change the world one behind the other, and whose other operations only read: one walk, in the order of the text. Plain lemmas over any program. -/
import Derived.Test.YtiejndkchcljdaaQuietC
import Derived.StillTail
namespace Go.Proofs.Ytiejndkchcljdaa
open Go

/-- a call of a Go function, or of a builtin that writes -/
def goCall (o : Oper) : Bool := match o.op with
  | .call c => (match c.callee with | .builtin .copy => true | .builtin .append => true | .builtin _ => false | _ => true)
  | _ => false
/-- what waits, by however many steps, for operation i -/
def behindOf (md : Region.Mode) (ops : Array Oper) (i : Nat) : List Nat :=
  (List.range ops.size).foldl (fun R j => if decide (i < j) && ((ops[j]?).map fun o => o.after.any fun e => Region.binds md e && (e.on == i || R.contains e.on)).getD false then j :: R else R) []
/-- Each call waits for each one ahead. -/
def callsB (G : Oper → Bool) (md : Region.Mode) (ops : Array Oper) : Bool := (List.range ops.size).all fun i =>
  !((ops[i]?).map G).getD false ||
    ((behindOf md ops i).all (fun j => decide (i < j) && ((ops[j]?).map fun o => o.after.any fun e => Region.binds md e && (e.on == i || (behindOf md ops i).contains e.on)).getD false) &&
      (List.range ops.size).all fun j => decide (j ≤ i) || !((ops[j]?).map G).getD false || (behindOf md ops i).contains j)

section
variable {G : Oper → Bool} {P : Program} {ops : Array Oper} {md : Region.Mode} {C : Nat → World → Prop} {D : World → Prop}

def strideAt (P : Program) (o : Oper) (a : Act) (C' : World → Prop) (w : World) (v : Value) : Prop :=
  (∃ f args, (execOp a.eval o).run P w = .ok (.enter f args) w ∧ Calls P f args w fun e w'' => e = .returned v ∧ C' w'') ∨ ∃ w', (execOp a.eval o).run P w = .ok (.value v) w' ∧ C' w'
/-- one value in every world of the class, which stays as it is -/
def steady (P : Program) (o : Oper) (a : Act) (D : World → Prop) (next : Act → Prop) : Prop := ∃ v, (∀ w, D w → o.quietAt P a (fun _ => False) w v) ∧ next (a.put o.dst v)
def phaseOp (G : Oper → Bool) (P : Program) (C : Nat → World → Prop) (D : World → Prop) (o : Oper) (k : Nat) (a : Act) (next : Nat → Act → Prop) : Prop :=
  if G o then ∃ v, (∀ w, C k w → strideAt P o a (C (k + 1)) w v) ∧ next (k + 1) (a.put o.dst v) else steady P o a D (next k)
theorem steady_mono {o : Oper} {a : Act} {K K' : Act → Prop} (h : ∀ a, K a → K' a) (hh : steady P o a D K) : steady P o a D K' :=
  let ⟨v, h1, h2⟩ := hh
  ⟨v, h1, h _ h2⟩
def wpPhase (G : Oper → Bool) (P : Program) (ops : Array Oper) (C : Nat → World → Prop) (D : World → Prop) (Q : Nat → Act → Prop) : List Oper → Nat → Act → Prop
  | [], k, a => Q k a
  | o :: rest, k, a => if Region.wanted o (yielded ops a.tmps) then phaseOp G P C D o k a (wpPhase G P ops C D Q rest) else wpPhase G P ops C D Q rest k (a.put o.dst undef)
def pOp (G : Oper → Bool) (P : Program) (ops : Array Oper) (C : Nat → World → Prop) (D : World → Prop) (i : Nat) (K : Nat → Act → Prop) (k : Nat) (a : Act) : Prop :=
  match ops[i]? with
  | none => K k a
  | some o => if Region.wanted o (yielded ops a.tmps) then phaseOp G P C D o k a K else K k (a.put o.dst undef)
theorem phaseOp_mono {o : Oper} {k : Nat} {a : Act} {K K' : Nat → Act → Prop} (h : ∀ k a, K k a → K' k a) (hh : phaseOp G P C D o k a K) : phaseOp G P C D o k a K' := by
  unfold phaseOp at *
  split
  · rename_i hc
    rw [if_pos hc] at hh
    obtain ⟨v, h1, h2⟩ := hh
    exact ⟨v, h1, h _ _ h2⟩
  · rename_i hc
    rw [if_neg hc] at hh
    exact steady_mono (h k) hh
theorem pOp_mono {i : Nat} {k : Nat} {a : Act} {K K' : Nat → Act → Prop} (h : ∀ k a, K k a → K' k a) (hh : pOp G P ops C D i K k a) : pOp G P ops C D i K' k a := by
  unfold pOp at *
  split
  · exact h _ _ (by simpa [*] using hh)
  · rename_i o ho
    simp only [ho] at hh
    split
    · rename_i hw; simp only [hw, if_true] at hh; exact phaseOp_mono h hh
    · rename_i hw; simp only [hw] at hh; exact h _ _ hh
def wpAnyP (G : Oper → Bool) (P : Program) (md : Region.Mode) (ops : Array Oper) (C : Nat → World → Prop) (D : World → Prop) (Q : Nat → Act → Prop) : Nat → Array Bool → Nat → Act → Prop
  | 0, listed, k, a => Region.ready md ops listed = [] ∧ Q k a
  | fuel + 1, listed, k, a =>
    (Region.ready md ops listed = [] → Q k a) ∧
    ∀ i ∈ Region.ready md ops listed, pOp G P ops C D i (wpAnyP G P md ops C D Q fuel (listed.setIfInBounds i true)) k a
theorem wp_of_steady {o : Oper} {a : Act} {K : Act → Prop} {K' : Act → World → Prop} {Q' : Exit → Act → World → Prop} {w : World} (hw : D w) (h : ∀ a, K a → K' a w) (hh : steady P o a D K) : o.wp P a w K' Q' := by
  obtain ⟨v, h1, h2⟩ := hh
  have h3 := h1 w hw
  unfold Oper.quietAt at h3
  unfold Oper.wp
  generalize (execOp a.eval o).run P w = r at *
  cases r with
  | ok n w' =>
    cases n <;> simp only [Oper.quietUpon] at h3 <;> simp only [Oper.upon]
    case value u =>
      obtain ⟨e1, e2⟩ := h3
      rw [e1, e2]
      exact h _ h2
    case skip =>
      obtain ⟨e1, e2⟩ := h3
      rw [e1, ← e2]
      exact h _ h2
    case enter f args =>
      obtain ⟨e1, hc⟩ := h3
      subst e1
      exact hc.mono fun e w'' ⟨_, hf⟩ => hf.elim
  | halt x w' => simp only [Oper.quietUpon] at h3
theorem wp_of_stride {o : Oper} {a : Act} {v : Value} {C' : World → Prop} {K' : Act → World → Prop} {Q' : Exit → Act → World → Prop} {w : World} (h1 : strideAt P o a C' w v) (h : ∀ w', C' w' → K' (a.put o.dst v) w') : o.wp P a w K' Q' := by
  unfold Oper.wp
  rcases h1 with ⟨f, args, hr, hc⟩ | ⟨w', hr, hw⟩
  · rw [hr]
    simp only [Oper.upon]
    exact hc.mono fun e w'' ⟨he, hw''⟩ => by subst he; exact h _ hw''
  · rw [hr]
    simp only [Oper.upon]
    exact h _ hw
theorem wpOp_of_pOp {i : Nat} {k : Nat} {a : Act} {K : Nat → Act → Prop} {K' : Act → World → Prop} {Q' : Exit → Act → World → Prop} {w : World} (hCD : ∀ k w, C k w → D w) (hC : C k w) (h : ∀ k a w', C k w' → K k a → K' a w') (hh : pOp G P ops C D i K k a) : wpOp P ops Q' i K' a w := by
  unfold pOp at hh
  unfold wpOp
  split
  · rename_i ho; simp only [ho] at hh; exact h _ _ _ hC hh
  · rename_i o ho
    simp only [ho] at hh
    split
    · rename_i hw
      simp only [hw, if_true] at hh
      left
      unfold phaseOp at hh
      split at hh
      · obtain ⟨v, h1, h2⟩ := hh
        exact wp_of_stride (h1 w hC) (fun w' hw' => h _ _ _ hw' h2)
      · exact wp_of_steady (hCD _ _ hC) (fun a ha => h _ _ _ hC ha) hh
    · rename_i hw; simp only [hw] at hh; exact h _ _ _ hC hh
theorem wpAny_of_phase {Q : Nat → Act → Prop} {Q' : Exit → Act → World → Prop} (hCD : ∀ k w, C k w → D w) (hQ : ∀ k a w, C k w → Q k a → Q' .normal a w) : ∀ (fuel : Nat) (listed : Array Bool) (k : Nat) (a : Act) (w : World), C k w →
    wpAnyP G P md ops C D Q fuel listed k a → wpAny P md ops Q' fuel listed a w
  | 0, _, _, _, _, hw, h => ⟨h.1, hQ _ _ _ hw h.2⟩
  | fuel + 1, _, _, _, _, hw, h => ⟨fun h0 => hQ _ _ _ hw (h.1 h0), fun i hi => wpOp_of_pOp hCD hw (fun k' a' w' hw' => wpAny_of_phase hCD hQ fuel _ k' a' w' hw') (h.2 i hi)⟩

/-- In state a at step k operation o leaves v, and s more steps. -/
def YieldsP (G : Oper → Bool) (P : Program) (ops : Array Oper) (C : Nat → World → Prop) (D : World → Prop) (o : Oper) (v : Value) (s k : Nat) (a : Act) : Prop :=
  (Region.wanted o (yielded ops a.tmps) = true ∧ G o = false ∧ s = 0 ∧ ∀ w, D w → o.quietAt P a (fun _ => False) w v) ∨
  (Region.wanted o (yielded ops a.tmps) = true ∧ G o = true ∧ s = 1 ∧ ∀ w, C k w → strideAt P o a (C (k + 1)) w v) ∨
  (Region.wanted o (yielded ops a.tmps) = false ∧ s = 0 ∧ v = undef)
theorem YieldsP.pOp {i : Nat} {o : Oper} {v : Value} {s k : Nat} {a : Act} (hi : ops[i]? = some o) (hy : YieldsP G P ops C D o v s k a) {K : Nat → Act → Prop} (h : K (k + s) (a.put o.dst v)) : pOp G P ops C D i K k a := by
  unfold Go.Proofs.Ytiejndkchcljdaa.pOp
  simp only [hi]
  rcases hy with ⟨hw, hc, rfl, hv⟩ | ⟨hw, hc, rfl, hv⟩ | ⟨hw, rfl, rfl⟩
  · simp only [hw, if_true, phaseOp, hc]; exact ⟨v, hv, h⟩
  · simp only [hw, if_true, phaseOp, hc]; exact ⟨v, hv, h⟩
  · simp only [hw, Bool.false_eq_true, if_false]; exact h
theorem YieldsP.of_same {o : Oper} {v : Value} {s k k' : Nat} {a a' : Act} (hy : YieldsP G P ops C D o v s k a) (he : execOp a'.eval o = execOp a.eval o)
    (hw : Region.wanted o (yielded ops a'.tmps) = Region.wanted o (yielded ops a.tmps)) (hk : G o = true → k' = k) : YieldsP G P ops C D o v s k' a' := by
  unfold YieldsP Oper.quietAt strideAt at *
  rw [he, hw]
  rcases hy with h | ⟨h1, hc, h2⟩ | h
  · exact .inl h
  · rw [hk hc]; exact .inr (.inl ⟨h1, hc, h2⟩)
  · exact .inr (.inr h)
theorem yieldsP_of_pOp {i : Nat} {o : Oper} {k : Nat} {a : Act} {K : Nat → Act → Prop} (hi : ops[i]? = some o) (h : pOp G P ops C D i K k a) : ∃ v s, YieldsP G P ops C D o v s k a ∧ K (k + s) (a.put o.dst v) := by
  unfold pOp at h
  simp only [hi] at h
  by_cases hw : Region.wanted o (yielded ops a.tmps) = true
  · simp only [hw, if_true] at h
    unfold phaseOp at h
    split at h
    · rename_i hc
      obtain ⟨v, h1, h2⟩ := h
      exact ⟨v, 1, .inr (.inl ⟨hw, hc, rfl, h1⟩), h2⟩
    · rename_i hc
      obtain ⟨v, h1, h2⟩ := h
      exact ⟨v, 0, .inl ⟨hw, by simpa using hc, rfl, h1⟩, h2⟩
  · simp only [hw] at h
    exact ⟨undef, 0, .inr (.inr ⟨by simpa using hw, rfl, rfl⟩), h⟩
theorem pOp_put {j : Nat} {oi oj : Oper} {v : Value} {s : Nat} (hj : ops[j]? = some oj) (hap : oi.apart ops oj = true)
    (hsi : ∀ cs b, oi.op ≠ .select cs b) (hsj : ∀ cs b, oj.op ≠ .select cs b) (hcc : G oi = true → G oj = false) {K : Nat → Act → Prop} {k : Nat} {a : Act}
    (hy : YieldsP G P ops C D oi v s k a) (h : pOp G P ops C D j K (k + s) (a.put oi.dst v)) :
    pOp G P ops C D j (fun k' a' => YieldsP G P ops C D oi v s k' a' ∧ K (k' + s) (a'.put oi.dst v)) k a := by
  obtain ⟨h1, h2, h3⟩ := Oper.apart_spec hap
  have keep : ∀ (a : Act) (k k' : Nat), (G oi = true → k' = k) → YieldsP G P ops C D oi v s k a → ∀ u, YieldsP G P ops C D oi v s k' (a.put oj.dst u) := fun a k k' hk hy u =>
    hy.of_same (execOp_put oi hsi a oj.dst u h3) (wanted_put oi a oj.dst u h3) hk
  unfold pOp at *
  simp only [hj] at *
  rw [wanted_put oj a oi.dst v h1] at h
  split
  · rename_i hw
    simp only [hw, if_true] at h
    unfold phaseOp at *
    split
    · rename_i hc
      rw [if_pos hc] at h
      have hci : G oi = false := by
        cases hq : G oi with
        | false => rfl
        | true => rw [hcc hq] at hc; cases hc
      have hs : s = 0 := by
        rcases hy with ⟨_, _, h, _⟩ | ⟨_, h, _⟩ | ⟨_, h, _⟩
        · exact h
        · rw [hci] at h; cases h
        · exact h
      subst hs
      obtain ⟨u, hu, hn⟩ := h
      refine ⟨u, fun w hw' => ?_, keep a _ _ (fun h => by rw [hci] at h; cases h) hy u, by rw [← Act.put_comm a v u h2]; exact hn⟩
      rcases hu w hw' with ⟨f, args, e1, e2⟩ | ⟨w2, e1, e2⟩
      · refine .inl ⟨f, args, ?_, e2⟩
        rwa [execOp_put oj hsj a oi.dst v h1] at e1
      · refine .inr ⟨w2, ?_, e2⟩
        rwa [execOp_put oj hsj a oi.dst v h1] at e1
    · rename_i hc
      rw [if_neg hc] at h
      obtain ⟨u, hu, hn⟩ := h
      refine ⟨u, fun w hw' => ?_, keep a _ _ (fun _ => rfl) hy u, by rw [← Act.put_comm a v u h2]; exact hn⟩
      have := hu w hw'
      unfold Oper.quietAt at *
      rwa [execOp_put oj hsj a oi.dst v h1] at this
  · rename_i hw
    simp only [hw] at h
    exact ⟨keep a _ _ (fun _ => rfl) hy _, by rw [← Act.put_comm a v undef h2]; exact h⟩

/-- what waits for operation i -/
def Waits (G : Oper → Bool) (md : Region.Mode) (ops : Array Oper) (i : Nat) (R : List Nat) (listed : Array Bool) : Prop :=
  (∀ j ∈ R, listed.getD j true = false) ∧ (∀ j ∈ R, ∀ oj, ops[j]? = some oj → ∃ e ∈ oj.after, Region.binds md e = true ∧ (e.on = i ∨ e.on ∈ R)) ∧
  ∀ j oj, ops[j]? = some oj → j ≠ i → listed.getD j true = false → G oj = true → j ∈ R
theorem getD_two {l : Array Bool} {n : Nat} (h : l.getD n true = false) : l.getD n false = false := by
  simp only [Array.getD_eq_getD_getElem?] at *
  cases hq : l[n]? with
  | none => rfl
  | some b => rw [hq] at h; exact h
theorem Waits.not_ready {i : Nat} {R : List Nat} {listed : Array Bool} (h : Waits G md ops i R listed) (hi : listed.getD i true = false) {j : Nat} (hj : j ∈ Region.ready md ops listed) : j ∉ R := fun hR => by
  obtain ⟨_, oj, hoj, hall⟩ := mem_ready.1 hj
  obtain ⟨e, he, hb, hon⟩ := h.2.1 j hR oj hoj
  have h1 := hall e he hb
  rcases hon with rfl | hon
  · rw [getD_two hi] at h1; cases h1
  · rw [getD_two (h.1 _ hon)] at h1; cases h1
theorem wpAnyP_first {Q : Nat → Act → Prop} {i : Nat} {oi : Oper} {v : Value} {s : Nat} (hi : ops[i]? = some oi) (hsel : ∀ (j : Nat) (o : Oper) cs b, ops[j]? = some o → o.op ≠ .select cs b) (R : List Nat) :
    ∀ (fuel : Nat) (listed : Array Bool) (k : Nat) (a : Act),
      (G oi = true → Waits G md ops i R listed) →
      (∀ j oj, ops[j]? = some oj → j ≠ i → listed.getD j true = false → (∀ e ∈ oj.after, Region.binds md e = true → e.on ≠ i) → oi.apart ops oj = true) →
      i ∈ Region.ready md ops listed → YieldsP G P ops C D oi v s k a →
      wpAnyP G P md ops C D Q fuel (listed.setIfInBounds i true) (k + s) (a.put oi.dst v) → wpAnyP G P md ops C D Q (fuel + 1) listed k a := by
  intro fuel
  induction fuel with
  | zero =>
    intro listed k a _ _ hr hy H
    refine ⟨fun h => (by rw [h] at hr; cases hr), fun j hj => ?_⟩
    by_cases hji : j = i
    · subst hji; exact hy.pOp hi H
    · have := ready_mono hj hji
      rw [H.1] at this
      cases this
  | succ fuel ih =>
    intro listed k a hR hfree hr hy H
    refine ⟨fun h => (by rw [h] at hr; cases hr), fun j hj => ?_⟩
    by_cases hji : j = i
    · subst hji; exact hy.pOp hi H
    · have h1 := H.2 j (ready_mono hj hji)
      obtain ⟨hjun, oj, hoj, hall⟩ := mem_ready.1 hj
      have hiun := (mem_ready.1 hr).1
      have hnot : ∀ e ∈ oj.after, Region.binds md e = true → e.on ≠ i := fun e he hb heq => by
        have h1 := hall e he hb
        rw [heq, getD_two hiun] at h1; cases h1
      have hcc : G oi = true → G oj = false := fun hc => by
        cases hq : G oj with
        | false => rfl
        | true => exact absurd ((hR hc).2.2 j oj hoj hji hjun hq) ((hR hc).not_ready hiun hj)
      have h2 := pOp_put hoj (hfree j oj hoj hji hjun hnot) (fun cs b => hsel i oi cs b hi) (fun cs b => hsel j oj cs b hoj) hcc hy h1
      have hfree' : ∀ k ok, ops[k]? = some ok → k ≠ i → (listed.setIfInBounds j true).getD k true = false →
          (∀ e ∈ ok.after, Region.binds md e = true → e.on ≠ i) → oi.apart ops ok = true := fun k ok hk hki hun hno => by
        refine hfree k ok hk hki ?_ hno
        by_cases hjk : j = k
        · subst hjk; exact hjun
        · rw [getD_set_ne true hjk] at hun; exact hun
      have hR' : G oi = true → Waits G md ops i R (listed.setIfInBounds j true) := fun hc => by
        have hn := (hR hc).not_ready hiun hj
        refine ⟨fun m hm => ?_, (hR hc).2.1, fun m om hm hmi hun hmc => ?_⟩
        · rw [getD_set_ne true (fun e => hn (by rw [e]; exact hm))]; exact (hR hc).1 m hm
        · refine (hR hc).2.2 m om hm hmi ?_ hmc
          by_cases hjk : j = m
          · subst hjk; exact hjun
          · rw [getD_set_ne true hjk] at hun; exact hun
      refine pOp_mono (fun k' a' h3 => ih (listed.setIfInBounds j true) k' a' hR' hfree' (ready_mono hr (Ne.symm hji)) h3.1 ?_) h2
      rw [Array.setIfInBounds_comm _ _ hji]
      exact h3.2
theorem waits_of {k : Nat} {o : Oper} {listed : Array Bool} (hB : callsB G md ops = true) (h0 : ops[k]? = some o) (hc : G o = true) (hl : ∀ j, j < ops.size → listed.getD j true = decide (j < k)) : Waits G md ops k (behindOf md ops k) listed := by
  have hk : k < ops.size := (Array.getElem?_eq_some_iff.1 h0).1
  simp only [callsB, List.all_eq_true, List.mem_range] at hB
  have h := hB k hk
  simp only [h0, Option.map_some, Option.getD_some, hc, Bool.not_true, Bool.false_or, Bool.and_eq_true, List.all_eq_true, List.mem_range, Bool.or_eq_true, decide_eq_true_eq] at h
  obtain ⟨h1, h2⟩ := h
  have hsz : ∀ j ∈ behindOf md ops k, j < ops.size := fun j hj => by
    have := (h1 j hj).2
    cases hq : ops[j]? with
    | none => simp [hq] at this
    | some x => exact (Array.getElem?_eq_some_iff.1 hq).1
  refine ⟨fun j hj => ?_, fun j hj oj hoj => ?_, fun j oj hoj hjk hun hjc => ?_⟩
  · rw [hl j (hsz j hj)]
    have := (h1 j hj).1
    simp; omega
  · have := (h1 j hj).2
    simp only [hoj, Option.map_some, Option.getD_some, Array.any_eq_true'] at this
    obtain ⟨e, he, hb⟩ := this
    simp only [Bool.and_eq_true, Bool.or_eq_true, beq_iff_eq, List.contains_iff_mem] at hb
    exact ⟨e, he, hb.1, hb.2⟩
  · have hj := (Array.getElem?_eq_some_iff.1 hoj).1
    rw [hl j hj] at hun
    have := h2 j hj
    simp only [hoj, Option.map_some, Option.getD_some, hjc, Bool.not_true, Bool.false_eq_true, or_false, List.contains_iff_mem] at this
    rcases this with h | h
    · simp at hun; omega
    · exact h
theorem wpAnyP_lex {Q : Nat → Act → Prop} (hs : Region.noSelect ops = true) (hcB : callsB G md ops = true) : ∀ (l : List Oper) (i : Nat) (listed : Array Bool) (k : Nat) (a : Act), (∀ j, l[j]? = ops[i + j]?) → (∀ j, j < ops.size → listed.getD j true = decide (j < i)) → listed.size = ops.size →
    Region.lexFrom md ops l.length i listed = true → wpPhase G P ops C D Q l k a → wpAnyP G P md ops C D Q l.length listed k a
  | [], _, _, _, _, _, _, _, hB, h => ⟨by simpa [Region.lexFrom] using hB, h⟩
  | o :: l, i, listed, k, a, hl, hli, hsz, hB, h => by
    have h0 : ops[i]? = some o := by simpa using (hl 0).symm
    have hi : i < ops.size := (Array.getElem?_eq_some_iff.1 h0).1
    simp only [List.length_cons, Region.lexFrom, Bool.and_eq_true] at hB
    obtain ⟨⟨hr, hf⟩, hB'⟩ := hB
    have hst : pOp G P ops C D i (wpPhase G P ops C D Q l) k a := by unfold pOp; simp only [h0]; exact h
    obtain ⟨v, s, hy, hK⟩ := yieldsP_of_pOp h0 hst
    refine wpAnyP_first h0 (Region.noSelect_spec hs) (behindOf md ops i) l.length listed k a (fun hc => waits_of hcB h0 hc hli) (Region.free_spec h0 hf) (by simpa using hr) hy
      (wpAnyP_lex hs hcB l (i + 1) _ _ _ (fun j => by have := hl (j + 1); simpa [Nat.add_assoc, Nat.add_comm 1 j] using this) (fun j hj => ?_) (by simpa using hsz) hB' hK)
    by_cases hij : i = j
    · subst hij
      simp [hsz, hi]
    · rw [getD_set_ne true hij, hli j hj]
      simp only [decide_eq_decide]
      omega
theorem wp_region_phaseG (G : Oper → Bool) {id : Nat} {Q : Exit → Act → World → Prop} {a : Act} {w : World} {l : List Oper} (C : Nat → World → Prop) (D : World → Prop) (hCD : ∀ k w, C k w → D w) (hm : P.follows .mixedOrders = true) (hB : Region.lexB .any l.toArray = true) (hcB : callsB G .any l.toArray = true) (hC : C 0 w.drew)
    (h : ∀ (S : Type) [Nonempty S] (at_ : S → World), (∀ x, D (at_ x)) → wpPhase G P l.toArray C (fun w' => ∃ x : S, w' = at_ x) (fun k a' => ∀ w', C k w' → Q .normal a' w') l 0 a) : (Code.region id l.toArray true).wp P Q a w := by
  have : Nonempty {w // D w} := ⟨⟨_, hCD _ _ hC⟩⟩
  have hh := h {w // D w} (fun x => x.1) (fun x => x.2)
  simp only [Region.lexB, Bool.and_eq_true] at hB
  refine wp_region_any hm (wpAny_of_phase (G := G) (C := C) (D := fun w' => ∃ x : {w // D w}, w' = x.1) (Q := fun k a' => ∀ w', C k w' → Q .normal a' w') (fun k w hk => ⟨⟨w, hCD k w hk⟩, rfl⟩) (fun _ _ w' hw' h => h w' hw') _ _ 0 _ _ hC ?_)
  have := wpAnyP_lex (G := G) (C := C) (D := fun w' => ∃ x : {w // D w}, w' = x.1) (md := .any) hB.1 hcB l 0 (Array.replicate l.toArray.size false) 0 a (by simp) (fun j hj => by simp at hj; simp [hj]) (by simp) (by simpa using hB.2) hh
  simpa using this

theorem wp_region_phase {id : Nat} {Q : Exit → Act → World → Prop} {a : Act} {w : World} {l : List Oper} (C : Nat → World → Prop) (D : World → Prop) (hCD : ∀ k w, C k w → D w) (hm : P.follows .mixedOrders = true) (hB : Region.lexB .any l.toArray = true) (hcB : callsB goCall .any l.toArray = true) (hC : C 0 w.drew)
    (h : ∀ (S : Type) [Nonempty S] (at_ : S → World), (∀ x, D (at_ x)) → wpPhase goCall P l.toArray C (fun w' => ∃ x : S, w' = at_ x) (fun k a' => ∀ w', C k w' → Q .normal a' w') l 0 a) : (Code.region id l.toArray true).wp P Q a w :=
  wp_region_phaseG goCall C D hCD hm hB hcB hC h
section
variable {Q : Nat → Act → Prop} {rest : List Oper} {o : Oper} {a : Act} {k : Nat}
theorem phase_plain (hc : G o = false) (h : ∀ K : Act → Prop, (∀ a, wpPhase G P ops C D Q rest k a → K a) → if Region.wanted o (yielded ops a.tmps) then steady P o a D K else K (a.put o.dst undef)) : wpPhase G P ops C D Q (o :: rest) k a := by
  have := h (wpPhase G P ops C D Q rest k) (fun _ h => h)
  unfold wpPhase
  split
  · rename_i hw
    rw [if_pos hw] at this
    simp only [phaseOp, hc]
    exact this
  · rename_i hw
    rw [if_neg hw] at this
    exact this
theorem phase_skip (hw : Region.wanted o (yielded ops a.tmps) = false) (h : wpPhase G P ops C D Q rest k (a.put o.dst undef)) : wpPhase G P ops C D Q (o :: rest) k a := by
  unfold wpPhase
  rw [if_neg (by simp [hw])]
  exact h
theorem phase_call (hc : G o = true) (hw : Region.wanted o (yielded ops a.tmps) = true) (f : FuncId) (args : Array Value) (hop : ∀ w, (execOp a.eval o).run P w = .ok (.enter f args) w) (v : Value)
    (hcall : ∀ w, C k w → Calls P f args w fun e w' => e = .returned v ∧ C (k + 1) w') (h : wpPhase G P ops C D Q rest (k + 1) (a.put o.dst v)) : wpPhase G P ops C D Q (o :: rest) k a := by
  unfold wpPhase
  rw [if_pos hw]
  simp only [phaseOp, hc, if_true]
  exact ⟨v, fun w hw' => .inl ⟨f, args, hop w, hcall w hw'⟩, h⟩
theorem phase_writes (hc : G o = true) (hw : Region.wanted o (yielded ops a.tmps) = true) (v : Value)
    (hop : ∀ w, C k w → ∃ w', (execOp a.eval o).run P w = .ok (.value v) w' ∧ C (k + 1) w') (h : wpPhase G P ops C D Q rest (k + 1) (a.put o.dst v)) : wpPhase G P ops C D Q (o :: rest) k a := by
  unfold wpPhase
  rw [if_pos hw]
  simp only [phaseOp, hc, if_true]
  exact ⟨v, fun w hw' => .inr (hop w hw'), h⟩
/-- an operation that only reads, and for which all that write wait -/
theorem phase_reads (hc : G o = true) (hw : Region.wanted o (yielded ops a.tmps) = true) (v : Value)
    (hop : ∀ w, C k w → (execOp a.eval o).run P w = .ok (.value v) w ∧ C (k + 1) w) (h : wpPhase G P ops C D Q rest (k + 1) (a.put o.dst v)) : wpPhase G P ops C D Q (o :: rest) k a :=
  phase_writes hc hw v (fun w hw' => ⟨w, (hop w hw').1, (hop w hw').2⟩) h
theorem phase_nil (h : Q k a) : wpPhase G P ops C D Q [] k a := h
end
end
end Go.Proofs.Ytiejndkchcljdaa
/- A region that draws its order, in two parts: ahead, operations that read, and some that change the world one behind the other; behind, a tail in one forced order, which is walked as a plain list. Plain lemmas over any program. -/
namespace Go.Proofs.Ytiejndkchcljdaa
open Go

section
variable {G : Oper → Bool} {P : Program} {ops : Array Oper} {md : Region.Mode} {C : Nat → World → Prop} {D : World → Prop}

def wpAnyPL (G : Oper → Bool) (P : Program) (md : Region.Mode) (ops : Array Oper) (C : Nat → World → Prop) (D : World → Prop) (n : Nat) (L : Array Bool → Nat → Act → Prop) : Nat → Array Bool → Nat → Act → Prop
  | 0, listed, k, a => L listed k a
  | f + 1, listed, k, a =>
    Region.ready md ops listed ≠ [] ∧ ∀ i ∈ Region.ready md ops listed, i < n ∧ pOp G P ops C D i (wpAnyPL G P md ops C D n L f (listed.setIfInBounds i true)) k a
theorem wpAny_of_headP {n g : Nat} {L : Array Bool → Nat → Act → Prop} {Q' : Exit → Act → World → Prop} (hCD : ∀ k w, C k w → D w) (hL : ∀ listed k a w, C k w → L listed k a → wpAny P md ops Q' g listed a w) :
    ∀ (f : Nat) (listed : Array Bool) (k : Nat) (a : Act) (w : World), C k w → wpAnyPL G P md ops C D n L f listed k a → wpAny P md ops Q' (f + g) listed a w
  | 0, listed, k, a, w, hC, h => by rw [Nat.zero_add]; exact hL _ _ _ _ hC h
  | f + 1, listed, k, a, w, hC, h => by
    rw [show f + 1 + g = (f + g) + 1 by omega]
    exact ⟨fun h0 => absurd h0 h.1, fun i hi => wpOp_of_pOp hCD hC (fun k' a' w' hC' h' => wpAny_of_headP hCD hL f _ k' a' w' hC' h') (h.2 i hi).2⟩
theorem wpAnyPL_first {n i : Nat} {oi : Oper} {v : Value} {s : Nat} {L : Array Bool → Nat → Act → Prop} (hi : ops[i]? = some oi) (hsel : ∀ (j : Nat) (o : Oper) cs b, ops[j]? = some o → o.op ≠ .select cs b)
    (hs : Region.sinkB md ops n = true) (hc : Region.chainB md ops n = true) (hn : n < ops.size) (hin : i < n)
    (hdone : ∀ listed k a, L listed k a → ∀ j ∈ Region.ready md ops listed, n ≤ j) (R : List Nat) :
    ∀ (f : Nat) (listed : Array Bool) (k : Nat) (a : Act), HeadInv md ops n listed →
      (G oi = true → Waits G md ops i R listed) →
      (∀ j oj, ops[j]? = some oj → j ≠ i → listed.getD j true = false → (∀ e ∈ oj.after, Region.binds md e = true → e.on ≠ i) → oi.apart ops oj = true) →
      i ∈ Region.ready md ops listed → YieldsP G P ops C D oi v s k a →
      wpAnyPL G P md ops C D n L f (listed.setIfInBounds i true) (k + s) (a.put oi.dst v) → wpAnyPL G P md ops C D n L (f + 1) listed k a := by
  intro f
  induction f with
  | zero =>
    intro listed k a inv _ _ hr hy H
    have hun := (mem_ready.1 hr).1
    refine ⟨fun h => (by rw [h] at hr; cases hr), fun j hj => ?_⟩
    have hjn : j < n := by
      rcases Nat.lt_or_ge j n with h | h
      · exact h
      · exact absurd hj (tail_waits hs hc hn inv _ i rfl hin hun j h)
    refine ⟨hjn, ?_⟩
    by_cases hji : j = i
    · subst hji; exact hy.pOp hi H
    · have := hdone _ _ _ H j (ready_mono hj hji)
      omega
  | succ f ih =>
    intro listed k a inv hR hfree hr hy H
    have hun := (mem_ready.1 hr).1
    refine ⟨fun h => (by rw [h] at hr; cases hr), fun j hj => ?_⟩
    have hjn : j < n := by
      rcases Nat.lt_or_ge j n with h | h
      · exact h
      · exact absurd hj (tail_waits hs hc hn inv _ i rfl hin hun j h)
    refine ⟨hjn, ?_⟩
    by_cases hji : j = i
    · subst hji; exact hy.pOp hi H
    · have h1 := (H.2 j (ready_mono hj hji)).2
      obtain ⟨hjun, oj, hoj, hall⟩ := mem_ready.1 hj
      have hnot : ∀ e ∈ oj.after, Region.binds md e = true → e.on ≠ i := fun e he hb heq => by
        have h1 := hall e he hb
        rw [heq, getD_both hun] at h1
        cases h1
      have hcc : G oi = true → G oj = false := fun hcg => by
        cases hq : G oj with
        | false => rfl
        | true => exact absurd ((hR hcg).2.2 j oj hoj hji hjun hq) ((hR hcg).not_ready hun hj)
      have h2 := pOp_put hoj (hfree j oj hoj hji hjun hnot) (fun cs b => hsel i oi cs b hi) (fun cs b => hsel j oj cs b hoj) hcc hy h1
      have hfree' : ∀ k ok, ops[k]? = some ok → k ≠ i → (listed.setIfInBounds j true).getD k true = false →
          (∀ e ∈ ok.after, Region.binds md e = true → e.on ≠ i) → oi.apart ops ok = true := fun k ok hk hki hun hno => by
        refine hfree k ok hk hki ?_ hno
        by_cases hjk : j = k
        · subst hjk; exact hjun
        · rw [getD_set_ne true hjk] at hun; exact hun
      have hR' : G oi = true → Waits G md ops i R (listed.setIfInBounds j true) := fun hcg => by
        have hnr := (hR hcg).not_ready hun hj
        refine ⟨fun m hm => ?_, (hR hcg).2.1, fun m om hm hmi hun hmc => ?_⟩
        · rw [getD_set_ne true (fun e => hnr (by rw [e]; exact hm))]; exact (hR hcg).1 m hm
        · refine (hR hcg).2.2 m om hm hmi ?_ hmc
          by_cases hjk : j = m
          · subst hjk; exact hjun
          · rw [getD_set_ne true hjk] at hun; exact hun
      refine pOp_mono (fun k' a' h3 => ih (listed.setIfInBounds j true) k' a' (inv.set hj hjn) hR' hfree' (ready_mono hr (Ne.symm hji)) h3.1 ?_) h2
      rw [Array.setIfInBounds_comm _ _ hji]
      exact h3.2
theorem wpAnyPL_lex {n g : Nat} {Lq : Nat → Act → Prop} (hsel : Region.noSelect ops = true) (hcB : callsB G md ops = true) (hs : Region.sinkB md ops n = true) (hc : Region.chainB md ops n = true) (hn : n < ops.size) :
    ∀ (l : List Oper) (i : Nat) (listed : Array Bool) (k : Nat) (a : Act), (∀ j, j < l.length → l[j]? = ops[i + j]?) → i + l.length = n → (∀ j, j < ops.size → listed.getD j true = decide (j < i)) → HeadInv md ops n listed →
    Region.lexHead md ops g l.length i listed = true → wpPhase G P ops C D Lq l k a →
    wpAnyPL G P md ops C D n (fun listed' k' a' => Region.seqB md ops g n listed' = true ∧ Lq k' a') l.length listed k a
  | [], i, listed, k, a, _, hk, _, _, hB, h => by
    have : i = n := by simpa using hk
    subst this
    exact ⟨by simpa [Region.lexHead] using hB, h⟩
  | o :: l, i, listed, k, a, hl, hk, hli, inv, hB, h => by
    have h0 : ops[i]? = some o := by simpa using (hl 0 (by simp)).symm
    simp only [List.length_cons, Region.lexHead, Bool.and_eq_true] at hB
    obtain ⟨⟨hr, hf⟩, hB'⟩ := hB
    have hkn : i < n := by simp only [List.length_cons] at hk; omega
    have hr' : i ∈ Region.ready md ops listed := by simpa using hr
    have hst : pOp G P ops C D i (wpPhase G P ops C D Lq l) k a := by unfold pOp; simp only [h0]; exact h
    obtain ⟨v, s, hy, hK⟩ := yieldsP_of_pOp h0 hst
    exact wpAnyPL_first h0 (Region.noSelect_spec hsel) hs hc hn hkn (fun listed' k' a' hL => seqB_ready hL.1) (behindOf md ops i) l.length listed k a inv (fun hcg => waits_of hcB h0 hcg hli) (Region.free_spec h0 hf) hr' hy
      (wpAnyPL_lex hsel hcB hs hc hn l (i + 1) _ _ _ (fun j hj => by have := hl (j + 1) (by simp; omega); simpa [Nat.add_assoc, Nat.add_comm 1 j] using this) (by simp only [List.length_cons] at hk; omega) (fun j hj => by
        by_cases hij : i = j
        · subst hij
          simp [inv.size, hj]
        · rw [getD_set_ne true hij, hli j hj]
          simp only [decide_eq_decide]
          omega) (inv.set hr' hkn) hB' hK)
theorem any_phaseT (G : Oper → Bool) (n : Nat) {Q : Exit → Act → World → Prop} {a : Act} {w : World} {l : List Oper} (C : Nat → World → Prop) (D : World → Prop) (hCD : ∀ k w, C k w → D w) (hB : Region.lexTailB .any l.toArray n = true) (hcB : callsB G .any l.toArray = true) (hC : C 0 w.drew)
    (h : ∀ (S : Type) [Nonempty S] (at_ : S → World), (∀ x, D (at_ x)) → wpPhase G P l.toArray C (fun w' => ∃ x : S, w' = at_ x) (fun k a' => ∀ w', C k w' → wpList P l.toArray Q (l.drop n) a' w') (l.take n) 0 a) : wpAny P .any l.toArray Q l.toArray.size (Array.replicate l.toArray.size false) a w.drew := by
  have : Nonempty {w // D w} := ⟨⟨_, hCD _ _ hC⟩⟩
  have hh := h {w // D w} (fun x => x.1) (fun x => x.2)
  simp only [Region.lexTailB, Bool.and_eq_true, decide_eq_true_eq] at hB
  obtain ⟨⟨⟨⟨hsel, hn⟩, hs⟩, hc⟩, hlex⟩ := hB
  have hn' : n < l.length := by simpa using hn
  have htl : (l.take n).length = n := by simp; omega
  have hdl : (l.drop n).length = l.toArray.size - n := by simp
  have inv0 : HeadInv .any l.toArray n (Array.replicate l.toArray.size false) :=
    ⟨by simp, fun j oj _ hl => (by rw [getD_replicate_false] at hl; cases hl), fun t _ ht => getD_in (by simpa using ht) (getD_replicate_false _ _)⟩
  have H := wpAnyPL_lex (G := G) (C := C) (D := fun w' => ∃ x : {w // D w}, w' = x.1) (md := .any) (g := l.toArray.size - n) hsel hcB hs hc hn (l.take n) 0 (Array.replicate l.toArray.size false) 0 a (fun j hj => by
    have hj' : j < n := by rw [htl] at hj; exact hj
    simp [hj']) (by simpa using htl) (fun j hj => by simp at hj; simp [hj]) inv0 (by rw [htl]; exact hlex) hh
  have := wpAny_of_headP (G := G) (C := C) (D := fun w' => ∃ x : {w // D w}, w' = x.1) (Q' := Q) (g := l.toArray.size - n) (fun k w hk => ⟨⟨w, hCD k w hk⟩, rfl⟩) (fun listed k a' w' hC' hL => by
    have := wpAny_of_seq (md := .any) (Q' := Q) (l.drop n) n listed a' w' (fun j => by simp [List.getElem?_drop]) (by rw [hdl]; exact hL.1) (hL.2 w' hC')
    rwa [hdl] at this) _ _ 0 _ _ hC H
  rw [htl, show n + (l.toArray.size - n) = l.toArray.size by omega] at this
  exact this
theorem wp_region_phaseT (G : Oper → Bool) (n : Nat) {id : Nat} {Q : Exit → Act → World → Prop} {a : Act} {w : World} {l : List Oper} (C : Nat → World → Prop) (D : World → Prop) (hCD : ∀ k w, C k w → D w) (hm : P.follows .mixedOrders = true) (hB : Region.lexTailB .any l.toArray n = true) (hcB : callsB G .any l.toArray = true) (hC : C 0 w.drew)
    (h : ∀ (S : Type) [Nonempty S] (at_ : S → World), (∀ x, D (at_ x)) → wpPhase G P l.toArray C (fun w' => ∃ x : S, w' = at_ x) (fun k a' => ∀ w', C k w' → wpList P l.toArray Q (l.drop n) a' w') (l.take n) 0 a) : (Code.region id l.toArray true).wp P Q a w :=
  wp_region_any hm (any_phaseT G n C D hCD hB hcB hC h)
end
section
variable {G : Oper → Bool} {P : Program} {ops : Array Oper} {C : Nat → World → Prop} {D : World → Prop} {Q : Nat → Act → Prop} {rest : List Oper} {o : Oper} {a : Act} {k : Nat}
/-- what cells hold together, read -/
theorem phase_load_run (hc : G o = false) (hw : Region.wanted o (yielded ops a.tmps) = true) (t : TypeId) (x : Operand) (ho : o.op = .load t x) (ad : Addr) (hx : a.eval x = .pointer (some ad)) (v : Value)
    (hr : ∀ w, D w → (loadVar t ad).run P w = .ok v w) (h : wpPhase G P ops C D Q rest k (a.put o.dst v)) : wpPhase G P ops C D Q (o :: rest) k a := by
  refine phase_plain hc fun K hK => ?_
  rw [if_pos hw]
  refine ⟨v, fun w hD => ?_, hK _ h⟩
  unfold Oper.quietAt execOp
  simp only [ho, hx, Instr.loadAt, Instr.sureAddr, Sem.run_bind, Sem.run_pure, Result.andThen_ok, hr w hD]
  exact ⟨rfl, rfl⟩
/-- a slice literal of one part -/
theorem phase_slice (hc : G o = true) (hw : Region.wanted o (yielded ops a.tmps) = true) (t : TypeId) (len i : Nat) (x : Operand) (ho : o.op = .buildSlice t len #[(i, x)]) (u v : Value) (hx : a.eval x = u)
    (hr : ∀ w, C k w → ∃ w', (Instr.buildSlice t len #[(i, u)]).run P w = .ok v w' ∧ C (k + 1) w') (h : wpPhase G P ops C D Q rest (k + 1) (a.put o.dst v)) : wpPhase G P ops C D Q (o :: rest) k a := by
  refine phase_writes hc hw v (fun w hw' => ?_) h
  obtain ⟨w', h1, h2⟩ := hr w hw'
  refine ⟨w', ?_, h2⟩
  unfold execOp
  simp only [ho, List.map_toArray, List.map_cons, List.map_nil, hx, Sem.run_bind, Sem.run_pure, Result.andThen_ok, h1]
/-- append of a slice to a slice of its type -/
theorem phase_append (hc : G o = true) (hw : Region.wanted o (yielded ops a.tmps) = true) (s x : Operand) (t t' : TypeId) (ho : o.op = .call { callee := .builtin .append, args := #[s, x], argTypes := #[t, t'] }) (u u' v : Value) (hs : a.eval s = u) (hx : a.eval x = u')
    (hr : ∀ w, C k w → ∃ w', (Builtin.append_ #[t, t'] o.type #[u, u']).run P w = .ok v w' ∧ C (k + 1) w') (h : wpPhase G P ops C D Q rest (k + 1) (a.put o.dst v)) : wpPhase G P ops C D Q (o :: rest) k a := by
  refine phase_writes hc hw v (fun w hw' => ?_) h
  obtain ⟨w', h1, h2⟩ := hr w hw'
  refine ⟨w', ?_, h2⟩
  unfold execOp
  simp only [ho, resolve, invoke, builtin, Sem.run_bind, Sem.run_pure, Result.andThen_ok, List.map_toArray, List.map_cons, List.map_nil, hs, hx, h1]
/-- a struct that is built out of two parts -/
theorem phase_build2 (hc : G o = false) (hw : Region.wanted o (yielded ops a.tmps) = true) (t : TypeId) (i j : Nat) (x y : Operand) (ho : o.op = .build t #[(i, x), (j, y)]) (u u' v : Value) (hx : a.eval x = u) (hy : a.eval y = u')
    (hr : ∀ w, D w → (Instr.build t #[(i, u), (j, u')]).run P w = .ok v w) (h : wpPhase G P ops C D Q rest k (a.put o.dst v)) : wpPhase G P ops C D Q (o :: rest) k a := by
  refine phase_plain hc fun K hK => ?_
  rw [if_pos hw]
  refine ⟨v, fun w hD => ?_, hK _ h⟩
  unfold Oper.quietAt execOp
  simp only [ho, List.map_toArray, List.map_cons, List.map_nil, hx, hy, Sem.run_bind, Sem.run_pure, Result.andThen_ok, hr w hD]
  exact ⟨rfl, rfl⟩
end
end Go.Proofs.Ytiejndkchcljdaa
