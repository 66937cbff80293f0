/- A region that draws its order, by an invariant: each operation is run once, whatever the orders. Plain lemmas over any program. -/
import Derived.Test.YthjflgnoeenenaaNewSet
import Derived.Orders
namespace Go.Proofs.Ythjflgnoeenenaa
open Go

/-- f, and i too -/
def upd (f : Nat → Bool) (i : Nat) : Nat → Bool := fun j => (j == i) || f j
def updN {G : Type} (gh : Nat → G) (i : Nat) (k : G) : Nat → G := fun j => if j = i then k else gh j
/-- each operation waits only for ones ahead of it -/
def backB (l : List Oper) : Bool := (List.range l.length).all fun i => ((l[i]?).map fun o => o.after.all fun e => !Region.binds .any e || decide (e.on < i)).getD true
/-- the slots that are written -/
def dstsOf (l : List Oper) : List Tmp := l.filterMap (·.dst)
def putAll {G : Type} (val : Nat → G → Value) (gh : Nat → G) : List Oper → Nat → Act → Act
  | [], _, a => a
  | o :: r, i, a => putAll val gh r (i + 1) (a.put o.dst (val i (gh i)))
/-- an operation that returns a value, or none, with T -/
def OpDoes (P : Program) (o : Oper) (a : Act) (w : World) (T : Value → World → Prop) : Prop :=
  ∀ (K : Act → World → Prop) (Q : Exit → Act → World → Prop), (∀ v w', T v w' → K (a.put o.dst v) w') → o.wp P a w K Q
section
variable {P : Program} {o : Oper} {a : Act} {w w' : World} {T : Value → World → Prop}
theorem does_value {v : Value} (hr : (execOp a.eval o).run P w = .ok (.value v) w') (h : T v w') : OpDoes P o a w T := fun K Q hK => by
  unfold Oper.wp
  rw [hr]
  exact hK _ _ h
theorem does_skip (hr : (execOp a.eval o).run P w = .ok .skip w') (h : T undef w') : OpDoes P o a w T := fun K Q hK => by
  unfold Oper.wp
  rw [hr]
  exact hK _ _ h
theorem does_call (f : FuncId) (args : Array Value) (hr : (execOp a.eval o).run P w = .ok (.enter f args) w) (h : Calls P f args w fun e w' => ∃ v, e = .returned v ∧ T v w') : OpDoes P o a w T := fun K Q hK => by
  unfold Oper.wp
  rw [hr]
  simp only [Oper.upon]
  exact h.mono fun e w'' ⟨v, he, ht⟩ => by subst he; exact hK _ _ ht
end
section
variable {P : Program} {Q : Exit → Act → World → Prop} {l : List Oper}
theorem ready_nil (hb : backB l = true) {listed : Array Bool} (hsz : listed.size = l.length) (h : Region.ready .any l.toArray listed = []) : ∀ j, listed.getD j true = true := by
  intro j
  induction j using Nat.strongRecOn with
  | _ j ih =>
    cases hj : listed.getD j true with
    | true => rfl
    | false =>
      exfalso
      by_cases hlt : j < l.length
      · have hm : j ∈ Region.ready .any l.toArray listed := by
          refine mem_ready.2 ⟨hj, l[j], by simp [hlt], fun e he hbd => ?_⟩
          unfold backB at hb
          have := (List.all_eq_true.1 hb) j (List.mem_range.2 hlt)
          simp only [List.getElem?_eq_getElem hlt, Option.map_some, Option.getD_some, Array.all_eq_true_iff_forall_mem] at this
          have h1 := this e he
          simp only [hbd, Bool.not_true, Bool.false_or, decide_eq_true_eq] at h1
          have h2 := ih e.on h1
          have h3 : j < listed.size := by
            rcases Nat.lt_or_ge j listed.size with h | h
            · exact h
            · simp [Array.getElem?_eq_none h] at hj
          have h4 : e.on < listed.size := by omega
          simpa [h4] using h2
        rw [h] at hm
        cases hm
      · rw [Array.getD_eq_getD_getElem?, Array.getElem?_eq_none (by omega)] at hj
        cases hj
def undone (listed : Array Bool) : Nat := listed.toList.count false
theorem undone_set {listed : Array Bool} {i : Nat} (h : listed.getD i true = false) : undone (listed.setIfInBounds i true) + 1 = undone listed := by
  have hlt : i < listed.size := by
    rcases Nat.lt_or_ge i listed.size with h' | h'
    · exact h'
    · simp [Array.getElem?_eq_none h'] at h
  have hi : listed[i] = false := by simpa [hlt] using h
  unfold undone
  rw [Array.toList_setIfInBounds, List.count_set (by simpa using hlt)]
  have hm : false ∈ listed.toList := by
    rw [← hi]
    simp
  have hp := List.count_pos_iff.2 hm
  have hp' : 0 < Array.count false listed := by rw [← Array.count_toList]; exact hp
  simp [hi]
  omega
theorem wpAny_inv (Inv : (Nat → Bool) → Act → World → Prop) (hb : backB l = true)
    (hstep : ∀ i o f a w, l[i]? = some o → f i = false → (∀ e ∈ o.after, Region.binds .any e = true → f e.on = true) → Inv f a w → wpOp P l.toArray Q i (Inv (upd f i)) a w)
    (hend : ∀ a w, Inv (fun _ => true) a w → Q .normal a w) :
    ∀ (fuel : Nat) (listed : Array Bool) (a : Act) (w : World), listed.size = l.length → undone listed ≤ fuel → Inv (fun j => listed.getD j true) a w → wpAny P .any l.toArray Q fuel listed a w := by
  have hfin : ∀ (listed : Array Bool) (a : Act) (w : World), listed.size = l.length → Region.ready .any l.toArray listed = [] → Inv (fun j => listed.getD j true) a w → Q .normal a w := fun listed a w hs hr hI => by
    have : (fun j => listed.getD j true) = (fun _ => true) := funext (ready_nil hb hs hr)
    rw [this] at hI
    exact hend _ _ hI
  intro fuel
  induction fuel with
  | zero =>
    intro listed a w hs hc hI
    have hr : Region.ready .any l.toArray listed = [] := by
      refine List.eq_nil_iff_forall_not_mem.2 fun j hj => ?_
      have := undone_set (mem_ready.1 hj).1
      omega
    exact ⟨hr, hfin _ _ _ hs hr hI⟩
  | succ fuel ih =>
    intro listed a w hs hc hI
    refine ⟨fun hr => hfin _ _ _ hs hr hI, fun i hi => ?_⟩
    obtain ⟨h0, o, ho, hall⟩ := mem_ready.1 hi
    have hu := undone_set h0
    have ho' : l[i]? = some o := by simpa using ho
    refine wpOp_mono (fun a' w' hI' => ih _ a' w' (by simpa using hs) (by omega) ?_) (hstep i o _ a w ho' h0 (fun e he hbd => ?_) hI)
    · have : upd (fun j => listed.getD j true) i = (fun j => (listed.setIfInBounds i true).getD j true) := by
        funext j
        unfold upd
        by_cases hij : i = j
        · subst hij
          have : ((listed.setIfInBounds i true).getD i true) = true := by
            rw [Array.getD_eq_getD_getElem?, Array.getElem?_setIfInBounds_self]
            split <;> rfl
          rw [this]; simp
        · rw [getD_set_ne true hij]
          simp [Ne.symm hij]
      rw [← this]
      exact hI'
    · have h2 := hall e he hbd
      rcases Nat.lt_or_ge e.on listed.size with h | h
      · simpa [h] using h2
      · simp [Array.getElem?_eq_none h] at h2
end
section
variable {G : Type} {val : Nat → G → Value} {gh : Nat → G}
theorem putAll_size : ∀ (l : List Oper) (i : Nat) (a : Act), (putAll val gh l i a).tmps.size = a.tmps.size
  | [], _, _ => rfl
  | o :: r, i, a => by
    unfold putAll
    rw [putAll_size r]
    cases o.dst <;> simp [Act.put]
theorem putAll_defers : ∀ (l : List Oper) (i : Nat) (a : Act), (putAll val gh l i a).defers = a.defers
  | [], _, _ => rfl
  | o :: r, i, a => by
    unfold putAll
    rw [putAll_defers r]
    cases o.dst <;> simp [Act.put]
theorem put_get_ne {a : Act} {d : Option Tmp} {v : Value} {t : Tmp} (h : d ≠ some t) : (a.put d v).tmps[t]? = a.tmps[t]? := by
  cases d with
  | none => rfl
  | some d =>
    have : d ≠ t := fun e => h (by rw [e])
    simp [Act.put, Array.getElem?_setIfInBounds_ne this]
theorem put_get_eq {a : Act} {v : Value} {t : Tmp} (h : t < a.tmps.size) : (a.put (some t) v).tmps[t]? = some v := by
  simp [Act.put, h]
theorem putAll_other {t : Tmp} : ∀ (l : List Oper) (i : Nat) (a : Act), (∀ o ∈ l, o.dst ≠ some t) → (putAll val gh l i a).tmps[t]? = a.tmps[t]?
  | [], _, _, _ => rfl
  | o :: r, i, a, h => by
    unfold putAll
    rw [putAll_other r _ _ (fun o ho => h o (List.mem_cons_of_mem _ ho)), put_get_ne (h o (List.mem_cons_self))]
theorem putAll_get {t : Tmp} : ∀ (l : List Oper) (i : Nat) (a : Act), (dstsOf l).Nodup → t < a.tmps.size → ∀ (j : Nat) (o : Oper), l[j]? = some o → o.dst = some t → (putAll val gh l i a).tmps[t]? = some (val (i + j) (gh (i + j)))
  | [], _, _, _, _, j, o, h, _ => by simp at h
  | p :: r, i, a, hn, hl, j, o, h, hd => by
    unfold putAll
    have hsz : (a.put p.dst (val i (gh i))).tmps.size = a.tmps.size := by cases p.dst <;> simp [Act.put]
    cases j with
    | zero =>
      simp only [List.getElem?_cons_zero, Option.some.injEq] at h
      subst h
      rw [putAll_other r _ _ (fun q hq e => by
        unfold dstsOf at hn
        rw [List.filterMap_cons, hd] at hn
        exact (List.nodup_cons.1 hn).1 (List.mem_filterMap.2 ⟨q, hq, e⟩)), hd, put_get_eq hl]
      rfl
    | succ j =>
      have hn' : (dstsOf r).Nodup := by
        unfold dstsOf at hn ⊢
        rw [List.filterMap_cons] at hn
        cases hp : p.dst with
        | none => rw [hp] at hn; exact hn
        | some x => rw [hp] at hn; exact (List.nodup_cons.1 hn).2
      rw [putAll_get r (i + 1) _ hn' (by rw [hsz]; exact hl) j o (by simpa using h) hd]
      rw [show i + 1 + j = i + (j + 1) by omega]
end
/-- where a region by its invariant is -/
def RInv {G : Type} (l : List Oper) (val : Nat → G → Value) (S : (Nat → Bool) → (Nat → G) → World → Prop) (a0 : Act) (f : Nat → Bool) (a : Act) (w : World) : Prop :=
  ∃ gh, a.tmps.size = a0.tmps.size ∧ a.defers = a0.defers ∧ (∀ t, (∀ j p, l[j]? = some p → p.dst = some t → f j = false) → a.tmps[t]? = a0.tmps[t]?) ∧ (∀ j p, l[j]? = some p → f j = true → ∀ e ∈ p.after, Region.binds .any e = true → f e.on = true) ∧ (∀ j o d, l[j]? = some o → o.dst = some d → f j = true → a.tmps[d]? = some (val j (gh j))) ∧ S f gh w
theorem eval_getD {a : Act} {t : Tmp} : a.eval (.tmp t) = (a.tmps[t]?).getD undef := by
  unfold Act.eval
  simp
theorem dst_two {l : List Oper} (hn : (dstsOf l).Nodup) {i j : Nat} {o p : Oper} {d : Tmp} (hi : l[i]? = some o) (hj : l[j]? = some p) (ho : o.dst = some d) (hp : p.dst = some d) : i = j := by
  induction l generalizing i j with
  | nil => simp at hi
  | cons q r ih =>
    have hn' : (dstsOf r).Nodup := by
      unfold dstsOf at hn ⊢
      rw [List.filterMap_cons] at hn
      cases hq : q.dst with
      | none => rw [hq] at hn; exact hn
      | some x => rw [hq] at hn; exact (List.nodup_cons.1 hn).2
    have key : ∀ (k : Nat) (x : Oper), r[k]? = some x → q.dst = some d → x.dst = some d → False := fun k x hk hq hx => by
      unfold dstsOf at hn
      rw [List.filterMap_cons, hq] at hn
      exact (List.nodup_cons.1 hn).1 (List.mem_filterMap.2 ⟨x, List.mem_of_getElem? hk, hx⟩)
    cases i with
    | zero =>
      cases j with
      | zero => rfl
      | succ j =>
        simp only [List.getElem?_cons_zero, Option.some.injEq, List.getElem?_cons_succ] at hi hj
        subst hi
        exact (key _ _ hj ho hp).elim
    | succ i =>
      cases j with
      | zero =>
        simp only [List.getElem?_cons_zero, Option.some.injEq, List.getElem?_cons_succ] at hi hj
        subst hj
        exact (key _ _ hi hp ho).elim
      | succ j =>
        have e : i = j := ih hn' (by simpa using hi) (by simpa using hj)
        rw [e]
theorem wp_region_inv {P : Program} {id : Nat} {Q : Exit → Act → World → Prop} {a0 : Act} {w : World} {l : List Oper} {G : Type} (g0 : G) (val : Nat → G → Value) (S : (Nat → Bool) → (Nat → G) → World → Prop)
    (hm : P.follows .mixedOrders = true) (hb : backB l = true) (hg : l.all (fun o => o.guard.isNone) = true) (hn : (dstsOf l).Nodup) (hl : ∀ d ∈ dstsOf l, d < a0.tmps.size)
    (hS : S (fun j => decide (l.length ≤ j)) (fun _ => g0) w.drew)
    (hstep : ∀ i o f gh a w, l[i]? = some o → f i = false → (∀ e ∈ o.after, Region.binds .any e = true → f e.on = true) → (∀ t, (∀ j p, l[j]? = some p → p.dst = some t → f j = false) → a.tmps[t]? = a0.tmps[t]?) → (∀ j p, l[j]? = some p → f j = true → ∀ e ∈ p.after, Region.binds .any e = true → f e.on = true) →
      (∀ j p d, l[j]? = some p → p.dst = some d → f j = true → a.tmps[d]? = some (val j (gh j))) → S f gh w →
      OpDoes P o a w (fun v w' => ∃ k, (o.dst = none ∨ v = val i k) ∧ S (upd f i) (updN gh i k) w'))
    (hend : ∀ gh w, S (fun _ => true) gh w → Q .normal (putAll val gh l 0 a0) w) : (Code.region id l.toArray true).wp P Q a0 w := by
  refine wp_region_any hm (wpAny_inv (RInv l val S a0) hb ?_ ?_ _ _ _ _ (by simp) (by unfold undone; simp) ?_)
  · rintro i o f a w hi hf hdep ⟨gh, h1, h2, h3, hc, h4, h5⟩
    have hog : o.guard = none := by
      have := (List.all_eq_true.1 hg) o (List.mem_of_getElem? hi)
      simpa using this
    unfold wpOp
    simp only [List.getElem?_toArray, hi]
    have hw : Region.wanted o (yielded l.toArray a.tmps) = true := by unfold Region.wanted; rw [hog]
    rw [if_pos hw]
    left
    refine hstep i o f gh a w hi hf hdep h3 hc h4 h5 _ _ ?_
    rintro v w' ⟨k, hv, hS'⟩
    refine ⟨updN gh i k, ?_, ?_, fun t ht => ?_, fun j p hj hfj e he hbd => ?_, fun j p d hj hd hfj => ?_, hS'⟩
    · rw [← h1]; cases o.dst <;> simp [Act.put]
    · rw [← h2]; cases o.dst <;> simp [Act.put]
    · have h0 : o.dst ≠ some t := fun e => by
        have := ht i o hi e
        simp [upd] at this
      rw [put_get_ne h0, h3 t (fun j p hj hd => by
        have := ht j p hj hd
        unfold upd at this
        simp only [Bool.or_eq_false_iff] at this
        exact this.2)]
    · unfold upd at hfj ⊢
      by_cases hij : j = i
      · subst hij
        rw [hi] at hj
        cases hj
        simp [hdep e he hbd]
      · have hj' : f j = true := by simpa [hij] using hfj
        simp [hc j p hj hj' e he hbd]
    · by_cases hij : i = j
      · subst hij
        rw [hi] at hj
        cases hj
        have hlt : d < a.tmps.size := by rw [h1]; exact hl d (List.mem_filterMap.2 ⟨o, List.mem_of_getElem? hi, hd⟩)
        rcases hv with hv | rfl
        · rw [hd] at hv; cases hv
        · rw [hd, put_get_eq hlt]
          unfold updN
          rw [if_pos rfl]
      · rw [put_get_ne (fun e => hij (dst_two hn hi hj e hd))]
        unfold upd at hfj
        unfold updN
        rw [if_neg (Ne.symm hij)]
        refine h4 j p d hj hd ?_
        simpa [Ne.symm hij] using hfj
  · rintro a w ⟨gh, h1, h2, h3, -, h4, h5⟩
    have : a = putAll val gh l 0 a0 := by
      have ht : a.tmps = (putAll val gh l 0 a0).tmps := by
        refine Array.ext_getElem? fun t => ?_
        by_cases h : ∃ o ∈ l, o.dst = some t
        · obtain ⟨o, ho, hd⟩ := h
          obtain ⟨j, hj, rfl⟩ := List.mem_iff_getElem.1 ho
          have hj' : l[j]? = some l[j] := List.getElem?_eq_getElem hj
          rw [h4 j _ t hj' hd rfl, putAll_get l 0 a0 hn (hl t (List.mem_filterMap.2 ⟨_, ho, hd⟩)) j _ hj' hd, Nat.zero_add]
        · have h' : ∀ o ∈ l, o.dst ≠ some t := fun o ho e => h ⟨o, ho, e⟩
          rw [h3 t (fun j p hj hd => (h' p (List.mem_of_getElem? hj) hd).elim), putAll_other l 0 a0 h']
      have hdf : a.defers = (putAll val gh l 0 a0).defers := by rw [h2, putAll_defers]
      cases a
      cases hp : putAll val gh l 0 a0
      rw [hp] at ht hdf
      simp only at ht hdf
      subst ht hdf
      rfl
    rw [this]
    exact hend gh w h5
  · refine ⟨fun _ => g0, rfl, rfl, fun _ _ => rfl, fun j o hj hf => ?_, fun j o d hj _ hf => ?_, ?_⟩
    · have hlt : j < l.length := (List.getElem?_eq_some_iff.1 hj).1
      simp [hlt] at hf
    · have hlt : j < l.length := (List.getElem?_eq_some_iff.1 hj).1
      simp [hlt] at hf
    · have : (fun j => (Array.replicate l.toArray.size false).getD j true) = (fun j => decide (l.length ≤ j)) := by
        funext j
        by_cases h : j < l.length
        · simp [h]
        · simp [h, Nat.le_of_not_lt h]
      rw [this]
      exact hS
theorem dep_of {o : Oper} {f : Nat → Bool} (hdep : ∀ e ∈ o.after, Region.binds .any e = true → f e.on = true) (k : Nat) (h : (o.after.toList.any fun e => Region.binds .any e && (e.on == k)) = true) : f k = true := by
  obtain ⟨e, he, h⟩ := List.any_eq_true.1 h
  simp only [Bool.and_eq_true, beq_iff_eq] at h
  rw [← h.2]
  exact hdep e (by simpa using he) h.1
theorem not_yet {l : List Oper} {f : Nat → Bool} (hcl : ∀ j p, l[j]? = some p → f j = true → ∀ e ∈ p.after, Region.binds .any e = true → f e.on = true) {i : Nat} (hf : f i = false) (j : Nat) (h : ((l[j]?).map fun p => p.after.toList.any fun e => Region.binds .any e && (e.on == i)) = some true) : f j = false := by
  obtain ⟨p, hp, hq⟩ := Option.map_eq_some_iff.1 h
  cases e : f j with
  | false => rfl
  | true =>
    rw [dep_of (hcl j p hp e) i hq] at hf
    cases hf
/-- a slot that no operation has written yet -/
theorem same_of {l : List Oper} {f : Nat → Bool} {a a0 : Act} (hs : ∀ t, (∀ j p, l[j]? = some p → p.dst = some t → f j = false) → a.tmps[t]? = a0.tmps[t]?) (t : Tmp) (h : (dstsOf l).contains t = false) : a.tmps[t]? = a0.tmps[t]? :=
  hs t fun j p hj hd => by
    have hm : t ∈ dstsOf l := List.mem_filterMap.2 ⟨p, List.mem_of_getElem? hj, hd⟩
    have : (dstsOf l).contains t = true := by simpa using hm
    rw [h] at this
    cases this
/-- a slot that one operation writes, and has not written yet -/
theorem same_but {l : List Oper} {f : Nat → Bool} {a a0 : Act} (hs : ∀ t, (∀ j p, l[j]? = some p → p.dst = some t → f j = false) → a.tmps[t]? = a0.tmps[t]?) (t : Tmp) (j0 : Nat) (h0 : f j0 = false)
    (h : ((List.range l.length).all fun j => j == j0 || !((l[j]?).map (·.dst) == some (some t))) = true) : a.tmps[t]? = a0.tmps[t]? :=
  hs t fun j p hj hd => by
    have hlt : j < l.length := (List.getElem?_eq_some_iff.1 hj).1
    have := (List.all_eq_true.1 h) j (List.mem_range.2 hlt)
    simp only [hj, Option.map_some, hd, Bool.or_eq_true, beq_iff_eq, Bool.not_eq_true', beq_self_eq_true, Bool.true_eq_false, or_false] at this
    rw [this]; exact h0
/-- all that is checked of the operations: each waits for ones ahead of it, none is guarded, each writes a slot of its own, below n -/
def regB (l : List Oper) (n : Nat) : Bool := backB l && (l.all (fun o => o.guard.isNone) && (decide (dstsOf l).Nodup && (dstsOf l).all fun d => decide (d < n)))
theorem wp_region_invB {P : Program} {id : Nat} {Q : Exit → Act → World → Prop} {a0 : Act} {w : World} {l : List Oper} (n : Nat) {G : Type} (g0 : G) (val : Nat → G → Value) (S : (Nat → Bool) → (Nat → G) → World → Prop)
    (hm : P.follows .mixedOrders = true) (hb : regB l n = true) (hsz : n ≤ a0.tmps.size) (hS : S (fun j => decide (l.length ≤ j)) (fun _ => g0) w.drew)
    (hstep : ∀ i o f gh a w, l[i]? = some o → f i = false → (∀ e ∈ o.after, Region.binds .any e = true → f e.on = true) → (∀ t, (∀ j p, l[j]? = some p → p.dst = some t → f j = false) → a.tmps[t]? = a0.tmps[t]?) → (∀ j p, l[j]? = some p → f j = true → ∀ e ∈ p.after, Region.binds .any e = true → f e.on = true) →
      (∀ j p d, l[j]? = some p → p.dst = some d → f j = true → a.tmps[d]? = some (val j (gh j))) → S f gh w →
      OpDoes P o a w (fun v w' => ∃ k, (o.dst = none ∨ v = val i k) ∧ S (upd f i) (updN gh i k) w'))
    (hend : ∀ gh w, S (fun _ => true) gh w → Q .normal (putAll val gh l 0 a0) w) : (Code.region id l.toArray true).wp P Q a0 w := by
  unfold regB at hb
  simp only [Bool.and_eq_true, decide_eq_true_eq] at hb
  exact wp_region_inv g0 val S hm hb.1 hb.2.1 hb.2.2.1 (fun d hd => Nat.lt_of_lt_of_le (of_decide_eq_true ((List.all_eq_true.1 hb.2.2.2) d hd)) hsz) hS hstep hend
end Go.Proofs.Ythjflgnoeenenaa
/- A region that draws its order, by an invariant, where operations may be guarded ('&&', '||'): each operation once, whatever the orders. Plain lemmas over any program. -/
namespace Go.Proofs.Ythjflgnoeenenaa
open Go

/-- a guarded operation is wanted just if its guard's operation gave what it asks -/
theorem wanted_of {l : List Oper} {o p : Oper} {a : Act} {j : Nat} {b b' : Bool} {d : Tmp} (hg : o.guard = some (j, b)) (hj : l[j]? = some p) (hd : p.dst = some d) (hv : a.tmps[d]? = some (.bool b')) : Region.wanted o (yielded l.toArray a.tmps) = (b' == b) := by
  unfold Region.wanted
  rw [hg]
  unfold yielded
  simp [hj, hd, hv]
theorem wanted_plain {l : List Oper} {o : Oper} {a : Act} (hg : o.guard = none) : Region.wanted o (yielded l.toArray a.tmps) = true := by
  unfold Region.wanted
  rw [hg]
def GDoes (P : Program) (l : List Oper) (o : Oper) (a : Act) (w : World) (T : Value → World → Prop) : Prop :=
  (Region.wanted o (yielded l.toArray a.tmps) = true ∧ OpDoes P o a w T) ∨ (Region.wanted o (yielded l.toArray a.tmps) = false ∧ T undef w)
theorem g_plain {P : Program} {l : List Oper} {o : Oper} {a : Act} {w : World} {T : Value → World → Prop} (hg : o.guard = none) (h : OpDoes P o a w T) : GDoes P l o a w T := .inl ⟨wanted_plain hg, h⟩
theorem g_want {P : Program} {l : List Oper} {o p : Oper} {a : Act} {w : World} {T : Value → World → Prop} {j : Nat} {b : Bool} {d : Tmp} (hg : o.guard = some (j, b)) (hj : l[j]? = some p) (hd : p.dst = some d) (hv : a.tmps[d]? = some (.bool b)) (h : OpDoes P o a w T) : GDoes P l o a w T :=
  .inl ⟨by rw [wanted_of hg hj hd hv]; simp, h⟩
theorem g_skip {P : Program} {l : List Oper} {o p : Oper} {a : Act} {w : World} {T : Value → World → Prop} {j : Nat} {b b' : Bool} {d : Tmp} (hg : o.guard = some (j, b)) (hj : l[j]? = some p) (hd : p.dst = some d) (hv : a.tmps[d]? = some (.bool b')) (hne : (b' == b) = false) (h : T undef w) : GDoes P l o a w T :=
  .inr ⟨by rw [wanted_of hg hj hd hv]; exact hne, h⟩
theorem g_skip_u {P : Program} {l : List Oper} {o p : Oper} {a : Act} {w : World} {T : Value → World → Prop} {j : Nat} {b : Bool} {d : Tmp} (hg : o.guard = some (j, b)) (hj : l[j]? = some p) (hd : p.dst = some d) (hv : a.tmps[d]? = some undef) (h : T undef w) : GDoes P l o a w T :=
  .inr ⟨by
    unfold Region.wanted
    rw [hg]
    unfold yielded
    simp [hj, hd, hv, undef], h⟩
theorem wp_region_invg {P : Program} {id : Nat} {Q : Exit → Act → World → Prop} {a0 : Act} {w : World} {l : List Oper} {G : Type} (g0 : G) (val : Nat → G → Value) (S : (Nat → Bool) → (Nat → G) → World → Prop)
    (hm : P.follows .mixedOrders = true) (hb : backB l = true) (hn : (dstsOf l).Nodup) (hl : ∀ d ∈ dstsOf l, d < a0.tmps.size)
    (hS : S (fun j => decide (l.length ≤ j)) (fun _ => g0) w.drew)
    (hstep : ∀ i o f gh a w, l[i]? = some o → f i = false → (∀ e ∈ o.after, Region.binds .any e = true → f e.on = true) → (∀ t, (∀ j p, l[j]? = some p → p.dst = some t → f j = false) → a.tmps[t]? = a0.tmps[t]?) → (∀ j p, l[j]? = some p → f j = true → ∀ e ∈ p.after, Region.binds .any e = true → f e.on = true) →
      (∀ j p d, l[j]? = some p → p.dst = some d → f j = true → a.tmps[d]? = some (val j (gh j))) → S f gh w →
      GDoes P l o a w (fun v w' => ∃ k, (o.dst = none ∨ v = val i k) ∧ S (upd f i) (updN gh i k) w'))
    (hend : ∀ gh w, S (fun _ => true) gh w → Q .normal (putAll val gh l 0 a0) w) : (Code.region id l.toArray true).wp P Q a0 w := by
  refine wp_region_any hm (wpAny_inv (RInv l val S a0) hb ?_ ?_ _ _ _ _ (by simp) (by unfold undone; simp) ?_)
  · rintro i o f a w hi hf hdep ⟨gh, h1, h2, h3, hc, h4, h5⟩
    have hmain : ∀ v w', (∃ k, (o.dst = none ∨ v = val i k) ∧ S (upd f i) (updN gh i k) w') → RInv l val S a0 (upd f i) (a.put o.dst v) w' := by
      rintro v w' ⟨k, hv, hS'⟩
      refine ⟨updN gh i k, ?_, ?_, fun t ht => ?_, fun j p hj hfj e he hbd => ?_, fun j p d hj hd hfj => ?_, hS'⟩
      · rw [← h1]; cases o.dst <;> simp [Act.put]
      · rw [← h2]; cases o.dst <;> simp [Act.put]
      · have h0 : o.dst ≠ some t := fun e => by
          have := ht i o hi e
          simp [upd] at this
        rw [put_get_ne h0, h3 t (fun j p hj hd => by
          have := ht j p hj hd
          unfold upd at this
          simp only [Bool.or_eq_false_iff] at this
          exact this.2)]
      · unfold upd at hfj ⊢
        by_cases hij : j = i
        · subst hij
          rw [hi] at hj
          cases hj
          simp [hdep e he hbd]
        · have hj' : f j = true := by simpa [hij] using hfj
          simp [hc j p hj hj' e he hbd]
      · by_cases hij : i = j
        · subst hij
          rw [hi] at hj
          cases hj
          have hlt : d < a.tmps.size := by rw [h1]; exact hl d (List.mem_filterMap.2 ⟨o, List.mem_of_getElem? hi, hd⟩)
          rcases hv with hv | rfl
          · rw [hd] at hv; cases hv
          · rw [hd, put_get_eq hlt]
            unfold updN
            rw [if_pos rfl]
        · rw [put_get_ne (fun e => hij (dst_two hn hi hj e hd))]
          unfold upd at hfj
          unfold updN
          rw [if_neg (Ne.symm hij)]
          refine h4 j p d hj hd ?_
          simpa [Ne.symm hij] using hfj
    unfold wpOp
    simp only [List.getElem?_toArray, hi]
    rcases hstep i o f gh a w hi hf hdep h3 hc h4 h5 with ⟨hw, hd⟩ | ⟨hw, hd⟩
    · rw [if_pos hw]
      left
      exact hd _ _ (fun v w' h => hmain v w' h)
    · rw [if_neg (by rw [hw]; simp)]
      exact hmain _ _ hd
  · rintro a w ⟨gh, h1, h2, h3, -, h4, h5⟩
    have : a = putAll val gh l 0 a0 := by
      have ht : a.tmps = (putAll val gh l 0 a0).tmps := by
        refine Array.ext_getElem? fun t => ?_
        by_cases h : ∃ o ∈ l, o.dst = some t
        · obtain ⟨o, ho, hd⟩ := h
          obtain ⟨j, hj, rfl⟩ := List.mem_iff_getElem.1 ho
          have hj' : l[j]? = some l[j] := List.getElem?_eq_getElem hj
          rw [h4 j _ t hj' hd rfl, putAll_get l 0 a0 hn (hl t (List.mem_filterMap.2 ⟨_, ho, hd⟩)) j _ hj' hd, Nat.zero_add]
        · have h' : ∀ o ∈ l, o.dst ≠ some t := fun o ho e => h ⟨o, ho, e⟩
          rw [h3 t (fun j p hj hd => (h' p (List.mem_of_getElem? hj) hd).elim), putAll_other l 0 a0 h']
      have hdf : a.defers = (putAll val gh l 0 a0).defers := by rw [h2, putAll_defers]
      cases a
      cases hp : putAll val gh l 0 a0
      rw [hp] at ht hdf
      simp only at ht hdf
      subst ht hdf
      rfl
    rw [this]
    exact hend gh w h5
  · refine ⟨fun _ => g0, rfl, rfl, fun _ _ => rfl, fun j o hj hf => ?_, fun j o d hj _ hf => ?_, ?_⟩
    · have hlt : j < l.length := (List.getElem?_eq_some_iff.1 hj).1
      simp [hlt] at hf
    · have hlt : j < l.length := (List.getElem?_eq_some_iff.1 hj).1
      simp [hlt] at hf
    · have : (fun j => (Array.replicate l.toArray.size false).getD j true) = (fun j => decide (l.length ≤ j)) := by
        funext j
        by_cases h : j < l.length
        · simp [h]
        · simp [h, Nat.le_of_not_lt h]
      rw [this]
      exact hS
/-- all that is checked of the operations: each waits for ones ahead of it, each writes a slot of its own, below n -/
def regG (l : List Oper) (n : Nat) : Bool := backB l && (decide (dstsOf l).Nodup && (dstsOf l).all fun d => decide (d < n))
theorem wp_region_invG {P : Program} {id : Nat} {Q : Exit → Act → World → Prop} {a0 : Act} {w : World} {l : List Oper} (n : Nat) {G : Type} (g0 : G) (val : Nat → G → Value) (S : (Nat → Bool) → (Nat → G) → World → Prop)
    (hm : P.follows .mixedOrders = true) (hb : regG l n = true) (hsz : n ≤ a0.tmps.size) (hS : S (fun j => decide (l.length ≤ j)) (fun _ => g0) w.drew)
    (hstep : ∀ i o f gh a w, l[i]? = some o → f i = false → (∀ e ∈ o.after, Region.binds .any e = true → f e.on = true) → (∀ t, (∀ j p, l[j]? = some p → p.dst = some t → f j = false) → a.tmps[t]? = a0.tmps[t]?) → (∀ j p, l[j]? = some p → f j = true → ∀ e ∈ p.after, Region.binds .any e = true → f e.on = true) →
      (∀ j p d, l[j]? = some p → p.dst = some d → f j = true → a.tmps[d]? = some (val j (gh j))) → S f gh w →
      GDoes P l o a w (fun v w' => ∃ k, (o.dst = none ∨ v = val i k) ∧ S (upd f i) (updN gh i k) w'))
    (hend : ∀ gh w, S (fun _ => true) gh w → Q .normal (putAll val gh l 0 a0) w) : (Code.region id l.toArray true).wp P Q a0 w := by
  unfold regG at hb
  simp only [Bool.and_eq_true, decide_eq_true_eq] at hb
  exact wp_region_invg g0 val S hm hb.1 hb.2.1 (fun d hd => Nat.lt_of_lt_of_le (of_decide_eq_true ((List.all_eq_true.1 hb.2.2) d hd)) hsz) hS hstep hend
end Go.Proofs.Ythjflgnoeenenaa
