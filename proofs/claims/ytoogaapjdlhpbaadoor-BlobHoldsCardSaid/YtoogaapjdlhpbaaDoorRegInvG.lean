/- A region that draws its order, by an invariant, where operations may be guarded ('&&', '||'): each operation once, whatever the orders. Plain lemmas over any program. -/
import Derived.Test.YtoogaapjdlhpbaaDoorRegInv
namespace Go.Proofs.YtoogaapjdlhpbaaDoor
open Go

/-- a guarded operation is wanted just if its guard's operation gave what it asks -/
theorem wanted_of {l : List Oper} {o p : Oper} {a : Act} {j : Nat} {b b' : Bool} {d : Tmp} (hg : o.guard = some (j, b)) (hj : l[j]? = some p) (hd : p.dst = some d) (hv : a.tmps[d]? = some (.bool b')) : Region.wanted o (yielded l.toArray a.tmps) = (b' == b) := by
  unfold Region.wanted
  rw [hg]
  unfold yielded
  simp [hj, hd, hv]
theorem wanted_plain {l : List Oper} {o : Oper} {a : Act} (hg : o.guard = none) : Region.wanted o (yielded l.toArray a.tmps) = true := by
  unfold Region.wanted
  rw [hg]
def GDoes (P : Program) (l : List Oper) (o : Oper) (a : Act) (w : World) (T : Value → World → Prop) : Prop :=
  (Region.wanted o (yielded l.toArray a.tmps) = true ∧ OpDoes P o a w T) ∨ (Region.wanted o (yielded l.toArray a.tmps) = false ∧ T undef w)
theorem g_plain {P : Program} {l : List Oper} {o : Oper} {a : Act} {w : World} {T : Value → World → Prop} (hg : o.guard = none) (h : OpDoes P o a w T) : GDoes P l o a w T := .inl ⟨wanted_plain hg, h⟩
theorem g_want {P : Program} {l : List Oper} {o p : Oper} {a : Act} {w : World} {T : Value → World → Prop} {j : Nat} {b : Bool} {d : Tmp} (hg : o.guard = some (j, b)) (hj : l[j]? = some p) (hd : p.dst = some d) (hv : a.tmps[d]? = some (.bool b)) (h : OpDoes P o a w T) : GDoes P l o a w T :=
  .inl ⟨by rw [wanted_of hg hj hd hv]; simp, h⟩
theorem g_skip {P : Program} {l : List Oper} {o p : Oper} {a : Act} {w : World} {T : Value → World → Prop} {j : Nat} {b b' : Bool} {d : Tmp} (hg : o.guard = some (j, b)) (hj : l[j]? = some p) (hd : p.dst = some d) (hv : a.tmps[d]? = some (.bool b')) (hne : (b' == b) = false) (h : T undef w) : GDoes P l o a w T :=
  .inr ⟨by rw [wanted_of hg hj hd hv]; exact hne, h⟩
theorem g_skip_u {P : Program} {l : List Oper} {o p : Oper} {a : Act} {w : World} {T : Value → World → Prop} {j : Nat} {b : Bool} {d : Tmp} (hg : o.guard = some (j, b)) (hj : l[j]? = some p) (hd : p.dst = some d) (hv : a.tmps[d]? = some undef) (h : T undef w) : GDoes P l o a w T :=
  .inr ⟨by
    unfold Region.wanted
    rw [hg]
    unfold yielded
    simp [hj, hd, hv, undef], h⟩
theorem wp_region_invg {P : Program} {id : Nat} {Q : Exit → Act → World → Prop} {a0 : Act} {w : World} {l : List Oper} {G : Type} (g0 : G) (val : Nat → G → Value) (S : (Nat → Bool) → (Nat → G) → World → Prop)
    (hm : P.follows .mixedOrders = true) (hb : backB l = true) (hn : (dstsOf l).Nodup) (hl : ∀ d ∈ dstsOf l, d < a0.tmps.size)
    (hS : S (fun j => decide (l.length ≤ j)) (fun _ => g0) w.drew)
    (hstep : ∀ i o f gh a w, l[i]? = some o → f i = false → (∀ e ∈ o.after, Region.binds .any e = true → f e.on = true) → (∀ t, (∀ j p, l[j]? = some p → p.dst = some t → f j = false) → a.tmps[t]? = a0.tmps[t]?) → (∀ j p, l[j]? = some p → f j = true → ∀ e ∈ p.after, Region.binds .any e = true → f e.on = true) →
      (∀ j p d, l[j]? = some p → p.dst = some d → f j = true → a.tmps[d]? = some (val j (gh j))) → S f gh w →
      GDoes P l o a w (fun v w' => ∃ k, (o.dst = none ∨ v = val i k) ∧ S (upd f i) (updN gh i k) w'))
    (hend : ∀ gh w, S (fun _ => true) gh w → Q .normal (putAll val gh l 0 a0) w) : (Code.region id l.toArray true).wp P Q a0 w := by
  refine wp_region_any hm (wpAny_inv (RInv l val S a0) hb ?_ ?_ _ _ _ _ (by simp) (by unfold undone; simp) ?_)
  · rintro i o f a w hi hf hdep ⟨gh, h1, h2, h3, hc, h4, h5⟩
    have hmain : ∀ v w', (∃ k, (o.dst = none ∨ v = val i k) ∧ S (upd f i) (updN gh i k) w') → RInv l val S a0 (upd f i) (a.put o.dst v) w' := by
      rintro v w' ⟨k, hv, hS'⟩
      refine ⟨updN gh i k, ?_, ?_, fun t ht => ?_, fun j p hj hfj e he hbd => ?_, fun j p d hj hd hfj => ?_, hS'⟩
      · rw [← h1]; cases o.dst <;> simp [Act.put]
      · rw [← h2]; cases o.dst <;> simp [Act.put]
      · have h0 : o.dst ≠ some t := fun e => by
          have := ht i o hi e
          simp [upd] at this
        rw [put_get_ne h0, h3 t (fun j p hj hd => by
          have := ht j p hj hd
          unfold upd at this
          simp only [Bool.or_eq_false_iff] at this
          exact this.2)]
      · unfold upd at hfj ⊢
        by_cases hij : j = i
        · subst hij
          rw [hi] at hj
          cases hj
          simp [hdep e he hbd]
        · have hj' : f j = true := by simpa [hij] using hfj
          simp [hc j p hj hj' e he hbd]
      · by_cases hij : i = j
        · subst hij
          rw [hi] at hj
          cases hj
          have hlt : d < a.tmps.size := by rw [h1]; exact hl d (List.mem_filterMap.2 ⟨o, List.mem_of_getElem? hi, hd⟩)
          rcases hv with hv | rfl
          · rw [hd] at hv; cases hv
          · rw [hd, put_get_eq hlt]
            unfold updN
            rw [if_pos rfl]
        · rw [put_get_ne (fun e => hij (dst_two hn hi hj e hd))]
          unfold upd at hfj
          unfold updN
          rw [if_neg (Ne.symm hij)]
          refine h4 j p d hj hd ?_
          simpa [Ne.symm hij] using hfj
    unfold wpOp
    simp only [List.getElem?_toArray, hi]
    rcases hstep i o f gh a w hi hf hdep h3 hc h4 h5 with ⟨hw, hd⟩ | ⟨hw, hd⟩
    · rw [if_pos hw]
      left
      exact hd _ _ (fun v w' h => hmain v w' h)
    · rw [if_neg (by rw [hw]; simp)]
      exact hmain _ _ hd
  · rintro a w ⟨gh, h1, h2, h3, -, h4, h5⟩
    have : a = putAll val gh l 0 a0 := by
      have ht : a.tmps = (putAll val gh l 0 a0).tmps := by
        refine Array.ext_getElem? fun t => ?_
        by_cases h : ∃ o ∈ l, o.dst = some t
        · obtain ⟨o, ho, hd⟩ := h
          obtain ⟨j, hj, rfl⟩ := List.mem_iff_getElem.1 ho
          have hj' : l[j]? = some l[j] := List.getElem?_eq_getElem hj
          rw [h4 j _ t hj' hd rfl, putAll_get l 0 a0 hn (hl t (List.mem_filterMap.2 ⟨_, ho, hd⟩)) j _ hj' hd, Nat.zero_add]
        · have h' : ∀ o ∈ l, o.dst ≠ some t := fun o ho e => h ⟨o, ho, e⟩
          rw [h3 t (fun j p hj hd => (h' p (List.mem_of_getElem? hj) hd).elim), putAll_other l 0 a0 h']
      have hdf : a.defers = (putAll val gh l 0 a0).defers := by rw [h2, putAll_defers]
      cases a
      cases hp : putAll val gh l 0 a0
      rw [hp] at ht hdf
      simp only at ht hdf
      subst ht hdf
      rfl
    rw [this]
    exact hend gh w h5
  · refine ⟨fun _ => g0, rfl, rfl, fun _ _ => rfl, fun j o hj hf => ?_, fun j o d hj _ hf => ?_, ?_⟩
    · have hlt : j < l.length := (List.getElem?_eq_some_iff.1 hj).1
      simp [hlt] at hf
    · have hlt : j < l.length := (List.getElem?_eq_some_iff.1 hj).1
      simp [hlt] at hf
    · have : (fun j => (Array.replicate l.toArray.size false).getD j true) = (fun j => decide (l.length ≤ j)) := by
        funext j
        by_cases h : j < l.length
        · simp [h]
        · simp [h, Nat.le_of_not_lt h]
      rw [this]
      exact hS
/-- all that is checked of the operations: each waits for ones ahead of it, each writes a slot of its own, below n -/
def regG (l : List Oper) (n : Nat) : Bool := backB l && (decide (dstsOf l).Nodup && (dstsOf l).all fun d => decide (d < n))
theorem wp_region_invG {P : Program} {id : Nat} {Q : Exit → Act → World → Prop} {a0 : Act} {w : World} {l : List Oper} (n : Nat) {G : Type} (g0 : G) (val : Nat → G → Value) (S : (Nat → Bool) → (Nat → G) → World → Prop)
    (hm : P.follows .mixedOrders = true) (hb : regG l n = true) (hsz : n ≤ a0.tmps.size) (hS : S (fun j => decide (l.length ≤ j)) (fun _ => g0) w.drew)
    (hstep : ∀ i o f gh a w, l[i]? = some o → f i = false → (∀ e ∈ o.after, Region.binds .any e = true → f e.on = true) → (∀ t, (∀ j p, l[j]? = some p → p.dst = some t → f j = false) → a.tmps[t]? = a0.tmps[t]?) → (∀ j p, l[j]? = some p → f j = true → ∀ e ∈ p.after, Region.binds .any e = true → f e.on = true) →
      (∀ j p d, l[j]? = some p → p.dst = some d → f j = true → a.tmps[d]? = some (val j (gh j))) → S f gh w →
      GDoes P l o a w (fun v w' => ∃ k, (o.dst = none ∨ v = val i k) ∧ S (upd f i) (updN gh i k) w'))
    (hend : ∀ gh w, S (fun _ => true) gh w → Q .normal (putAll val gh l 0 a0) w) : (Code.region id l.toArray true).wp P Q a0 w := by
  unfold regG at hb
  simp only [Bool.and_eq_true, decide_eq_true_eq] at hb
  exact wp_region_invg g0 val S hm hb.1 hb.2.1 (fun d hd => Nat.lt_of_lt_of_le (of_decide_eq_true ((List.all_eq_true.1 hb.2.2) d hd)) hsz) hS hstep hend
end Go.Proofs.YtoogaapjdlhpbaaDoor
