/- A drawn region inside a fence (a round of a range over a function, or the iterator's own activation), by an invariant: each operation is run once, whatever the orders; a call of yield among them. Plain lemmas over any program. -/
import Derived.Test.YthjflgnoeenenaaRegInvG
import Derived.OrdersIn
import Derived.RangeFuncCalls
import Derived.RangeFuncWrites
namespace Go.Proofs.Ythjflgnoeenenaa
open Go

/-- an operation inside a fence that returns a value, or none, with T -/
def OpDoesIn (F : Fence) (n : Nat) (P : Program) (o : Oper) (a : Act) (w : World) (T : Value → World → Prop) : Prop :=
  ∀ (K : Act → World → Prop) (Q : Exit → Act → World → Prop), (∀ v w', T v w' → K (a.put o.dst v) w') → o.wpIn F n P a w K Q
def GDoesIn (F : Fence) (n : Nat) (P : Program) (l : List Oper) (o : Oper) (a : Act) (w : World) (T : Value → World → Prop) : Prop :=
  (Region.wanted o (yielded l.toArray a.tmps) = true ∧ OpDoesIn F n P o a w T) ∨ (Region.wanted o (yielded l.toArray a.tmps) = false ∧ (∀ f, o.about P w a.eval = some f → F.fn f) ∧ T undef w)
def noDefB (o : Oper) : Bool := match o.op with
  | .defer _ => false
  | _ => true
section
variable {P : Program} {n l2 : Nat} {l : List Oper} {o : Oper} {a : Act} {w : World} {T : Value → World → Prop}
theorem rowsIn_any {row : String} {args : Array Value} {R : Value → World → Prop} {F : Fence} (hF : F = Fence.wide ∨ F = Fence.wide.inRound l2) (h : Rows P row args w R) : RowsIn F n P row args w R := by
  rcases hF with rfl | rfl <;> exact fun c cs _ =>
    let ⟨v, w', r, s⟩ := h c cs
    ⟨v, w', r, stepsIn_wide.2 s⟩
theorem callsIn_any {f : FuncId} {args : Array Value} {R : Ending → World → Prop} {F : Fence} (hF : F = Fence.wide ∨ F = Fence.wide.inRound l2) (h : Calls P f args w R) : CallsIn F n P f args w R := by
  rcases hF with rfl | rfl
  · exact callsIn_wide.2 h
  · exact CallsIn.inRound l2 (callsIn_wide.2 h)
theorem opIn_any {F : Fence} (hF : F = Fence.wide ∨ F = Fence.wide.inRound l2) (hnd : noDefB o = true) {K : Act → World → Prop} {Q : Exit → Act → World → Prop} (h : o.wp P a w K Q) : o.wpIn F n P a w K Q := by
  have hfn : ∀ f, F.fn f := by rcases hF with rfl | rfl <;> exact fun _ => trivial
  have hd : F.depth.isSome = true → 1 ≤ n := by rcases hF with rfl | rfl <;> exact fun h => (by simp [Fence.wide] at h)
  unfold Oper.wpIn
  refine ⟨fun f _ => hfn f, ?_⟩
  rw [Oper.semAt_eq _ _ _ (fun c hc => by unfold noDefB at hnd; rw [hc] at hnd; cases hnd)]
  unfold Oper.wp at h
  generalize (execOp a.eval o).run P w = r at *
  cases r with
  | ok x w' =>
    cases x <;> simp only [Oper.upon, Oper.uponIn] at h ⊢ <;>
      first
        | exact h
        | exact ⟨hd, callsIn_any hF h⟩
        | exact ⟨hd, rowsIn_any hF h⟩
        | exact h.elim
  | halt x w' => cases x <;> simp only [Oper.upon, Oper.uponIn] at h ⊢ <;> exact h
theorem gin_of {F : Fence} (hF : F = Fence.wide ∨ F = Fence.wide.inRound l2) (hnd : noDefB o = true) (h : GDoes P l o a w T) : GDoesIn F n P l o a w T := by
  have hfn : ∀ f, F.fn f := by rcases hF with rfl | rfl <;> exact fun _ => trivial
  rcases h with ⟨hw, h⟩ | ⟨hw, h⟩
  · exact .inl ⟨hw, fun K Q hK => opIn_any hF hnd (h K Q hK)⟩
  · exact .inr ⟨hw, fun f _ => hfn f, h⟩
/-- a call of yield -/
theorem gin_yield {ly : Nat} (hg : o.guard = none) (hnd : noDefB o = true) (fn : FuncId) (tmps : Array Value) (assign body : Code) (hr : (execOp a.eval o).run P w = .ok (.round ly fn tmps assign body) w)
    (h : RoundIn Fence.wide (n - 1) P ly fn tmps assign body w fun e w' => ∃ v, e = .returned v ∧ T v w') : GDoesIn Fence.wide n P l o a w T := by
  refine .inl ⟨wanted_plain hg, fun K Q hK => ?_⟩
  unfold Oper.wpIn
  refine ⟨fun _ _ => trivial, ?_⟩
  rw [Oper.semAt_eq _ _ _ (fun c hc => by unfold noDefB at hnd; rw [hc] at hnd; cases hnd), hr]
  simp only [Oper.uponIn]
  exact ⟨fun h => (by simp [Fence.wide] at h), h.mono fun e w' ⟨v, he, ht⟩ => by subst he; exact hK _ _ ht⟩
end
section
variable {F : Fence} {n : Nat} {P : Program} {Q : Exit → Act → World → Prop} {l : List Oper}
theorem wpAnyIn_inv (Inv : (Nat → Bool) → Act → World → Prop) (hb : backB l = true)
    (hstep : ∀ i o f a w, l[i]? = some o → f i = false → (∀ e ∈ o.after, Region.binds .any e = true → f e.on = true) → Inv f a w → wpOpIn F n P l.toArray Q i (Inv (upd f i)) a w)
    (hend : ∀ a w, Inv (fun _ => true) a w → Q .normal a w) :
    ∀ (fuel : Nat) (listed : Array Bool) (a : Act) (w : World), listed.size = l.length → undone listed ≤ fuel → Inv (fun j => listed.getD j true) a w → wpAnyIn F n P .any l.toArray Q fuel listed a w := by
  have hfin : ∀ (listed : Array Bool) (a : Act) (w : World), listed.size = l.length → Region.ready .any l.toArray listed = [] → Inv (fun j => listed.getD j true) a w → Q .normal a w := fun listed a w hs hr hI => by
    have : (fun j => listed.getD j true) = (fun _ => true) := funext (ready_nil hb hs hr)
    rw [this] at hI
    exact hend _ _ hI
  intro fuel
  induction fuel with
  | zero =>
    intro listed a w hs hc hI
    have hr : Region.ready .any l.toArray listed = [] := by
      refine List.eq_nil_iff_forall_not_mem.2 fun j hj => ?_
      have := undone_set (mem_ready.1 hj).1
      omega
    exact ⟨hr, hfin _ _ _ hs hr hI⟩
  | succ fuel ih =>
    intro listed a w hs hc hI
    refine ⟨fun hr => hfin _ _ _ hs hr hI, fun i hi => ?_⟩
    obtain ⟨h0, o, ho, hall⟩ := mem_ready.1 hi
    have hu := undone_set h0
    have ho' : l[i]? = some o := by simpa using ho
    refine wpOpIn_mono (fun a' w' hI' => ih _ a' w' (by simpa using hs) (by omega) ?_) (hstep i o _ a w ho' h0 (fun e he hbd => ?_) hI)
    · have : upd (fun j => listed.getD j true) i = (fun j => (listed.setIfInBounds i true).getD j true) := by
        funext j
        unfold upd
        by_cases hij : i = j
        · subst hij
          have : ((listed.setIfInBounds i true).getD i true) = true := by
            rw [Array.getD_eq_getD_getElem?, Array.getElem?_setIfInBounds_self]
            split <;> rfl
          rw [this]; simp
        · rw [getD_set_ne true hij]
          simp [Ne.symm hij]
      rw [← this]
      exact hI'
    · have h2 := hall e he hbd
      rcases Nat.lt_or_ge e.on listed.size with h | h
      · simpa [h] using h2
      · simp [Array.getElem?_eq_none h] at h2
end
theorem wpIn_region_invg {F : Fence} {n : Nat} {P : Program} {id : Nat} {Q : Exit → Act → World → Prop} {a0 : Act} {w : World} {l : List Oper} {G : Type} (g0 : G) (val : Nat → G → Value) (S : (Nat → Bool) → (Nat → G) → World → Prop)
    (hm : P.follows .mixedOrders = true) (hb : backB l = true) (hn : (dstsOf l).Nodup) (hl : ∀ d ∈ dstsOf l, d < a0.tmps.size)
    (hS : S (fun j => decide (l.length ≤ j)) (fun _ => g0) w.drew)
    (hstep : ∀ i o f gh a w, l[i]? = some o → f i = false → (∀ e ∈ o.after, Region.binds .any e = true → f e.on = true) → (∀ t, (∀ j p, l[j]? = some p → p.dst = some t → f j = false) → a.tmps[t]? = a0.tmps[t]?) → (∀ j p, l[j]? = some p → f j = true → ∀ e ∈ p.after, Region.binds .any e = true → f e.on = true) →
      (∀ j p d, l[j]? = some p → p.dst = some d → f j = true → a.tmps[d]? = some (val j (gh j))) → S f gh w →
      GDoesIn F n P l o a w (fun v w' => ∃ k, (o.dst = none ∨ v = val i k) ∧ S (upd f i) (updN gh i k) w'))
    (hend : ∀ gh w, S (fun _ => true) gh w → Q .normal (putAll val gh l 0 a0) w) : (Code.region id l.toArray true).wpIn F n P Q a0 w := by
  refine wpIn_region_any hm (wpAnyIn_inv (RInv l val S a0) hb ?_ ?_ _ _ _ _ (by simp) (by unfold undone; simp) ?_)
  · rintro i o f a w hi hf hdep ⟨gh, h1, h2, h3, hc, h4, h5⟩
    have hmain : ∀ v w', (∃ k, (o.dst = none ∨ v = val i k) ∧ S (upd f i) (updN gh i k) w') → RInv l val S a0 (upd f i) (a.put o.dst v) w' := by
      rintro v w' ⟨k, hv, hS'⟩
      refine ⟨updN gh i k, ?_, ?_, fun t ht => ?_, fun j p hj hfj e he hbd => ?_, fun j p d hj hd hfj => ?_, hS'⟩
      · rw [← h1]; cases o.dst <;> simp [Act.put]
      · rw [← h2]; cases o.dst <;> simp [Act.put]
      · have h0 : o.dst ≠ some t := fun e => by
          have := ht i o hi e
          simp [upd] at this
        rw [put_get_ne h0, h3 t (fun j p hj hd => by
          have := ht j p hj hd
          unfold upd at this
          simp only [Bool.or_eq_false_iff] at this
          exact this.2)]
      · unfold upd at hfj ⊢
        by_cases hij : j = i
        · subst hij
          rw [hi] at hj
          cases hj
          simp [hdep e he hbd]
        · have hj' : f j = true := by simpa [hij] using hfj
          simp [hc j p hj hj' e he hbd]
      · by_cases hij : i = j
        · subst hij
          rw [hi] at hj
          cases hj
          have hlt : d < a.tmps.size := by rw [h1]; exact hl d (List.mem_filterMap.2 ⟨o, List.mem_of_getElem? hi, hd⟩)
          rcases hv with hv | rfl
          · rw [hd] at hv; cases hv
          · rw [hd, put_get_eq hlt]
            unfold updN
            rw [if_pos rfl]
        · rw [put_get_ne (fun e => hij (dst_two hn hi hj e hd))]
          unfold upd at hfj
          unfold updN
          rw [if_neg (Ne.symm hij)]
          refine h4 j p d hj hd ?_
          simpa [Ne.symm hij] using hfj
    unfold wpOpIn
    simp only [List.getElem?_toArray, hi]
    rcases hstep i o f gh a w hi hf hdep h3 hc h4 h5 with ⟨hw, hd⟩ | ⟨hw, hab, hd⟩
    · rw [if_pos hw]
      exact hd _ _ (fun v w' h => hmain v w' h)
    · rw [if_neg (by rw [hw]; simp)]
      exact ⟨hab, hmain _ _ hd⟩
  · rintro a w ⟨gh, h1, h2, h3, -, h4, h5⟩
    have : a = putAll val gh l 0 a0 := by
      have ht : a.tmps = (putAll val gh l 0 a0).tmps := by
        refine Array.ext_getElem? fun t => ?_
        by_cases h : ∃ o ∈ l, o.dst = some t
        · obtain ⟨o, ho, hd⟩ := h
          obtain ⟨j, hj, rfl⟩ := List.mem_iff_getElem.1 ho
          have hj' : l[j]? = some l[j] := List.getElem?_eq_getElem hj
          rw [h4 j _ t hj' hd rfl, putAll_get l 0 a0 hn (hl t (List.mem_filterMap.2 ⟨_, ho, hd⟩)) j _ hj' hd, Nat.zero_add]
        · have h' : ∀ o ∈ l, o.dst ≠ some t := fun o ho e => h ⟨o, ho, e⟩
          rw [h3 t (fun j p hj hd => (h' p (List.mem_of_getElem? hj) hd).elim), putAll_other l 0 a0 h']
      have hdf : a.defers = (putAll val gh l 0 a0).defers := by rw [h2, putAll_defers]
      cases a
      cases hp : putAll val gh l 0 a0
      rw [hp] at ht hdf
      simp only at ht hdf
      subst ht hdf
      rfl
    rw [this]
    exact hend gh w h5
  · refine ⟨fun _ => g0, rfl, rfl, fun _ _ => rfl, fun j o hj hf => ?_, fun j o d hj _ hf => ?_, ?_⟩
    · have hlt : j < l.length := (List.getElem?_eq_some_iff.1 hj).1
      simp [hlt] at hf
    · have hlt : j < l.length := (List.getElem?_eq_some_iff.1 hj).1
      simp [hlt] at hf
    · have : (fun j => (Array.replicate l.toArray.size false).getD j true) = (fun j => decide (l.length ≤ j)) := by
        funext j
        by_cases h : j < l.length
        · simp [h]
        · simp [h, Nat.le_of_not_lt h]
      rw [this]
      exact hS
theorem wpIn_region_invG {F : Fence} {n : Nat} {P : Program} {id : Nat} {Q : Exit → Act → World → Prop} {a0 : Act} {w : World} {l : List Oper} (m : Nat) {G : Type} (g0 : G) (val : Nat → G → Value) (S : (Nat → Bool) → (Nat → G) → World → Prop)
    (hm : P.follows .mixedOrders = true) (hb : regG l m = true) (hsz : m ≤ a0.tmps.size) (hS : S (fun j => decide (l.length ≤ j)) (fun _ => g0) w.drew)
    (hstep : ∀ i o f gh a w, l[i]? = some o → f i = false → (∀ e ∈ o.after, Region.binds .any e = true → f e.on = true) → (∀ t, (∀ j p, l[j]? = some p → p.dst = some t → f j = false) → a.tmps[t]? = a0.tmps[t]?) → (∀ j p, l[j]? = some p → f j = true → ∀ e ∈ p.after, Region.binds .any e = true → f e.on = true) →
      (∀ j p d, l[j]? = some p → p.dst = some d → f j = true → a.tmps[d]? = some (val j (gh j))) → S f gh w →
      GDoesIn F n P l o a w (fun v w' => ∃ k, (o.dst = none ∨ v = val i k) ∧ S (upd f i) (updN gh i k) w'))
    (hend : ∀ gh w, S (fun _ => true) gh w → Q .normal (putAll val gh l 0 a0) w) : (Code.region id l.toArray true).wpIn F n P Q a0 w := by
  unfold regG at hb
  simp only [Bool.and_eq_true, decide_eq_true_eq] at hb
  exact wpIn_region_invg g0 val S hm hb.1 hb.2.1 (fun d hd => Nat.lt_of_lt_of_le (of_decide_eq_true ((List.all_eq_true.1 hb.2.2) d hd)) hsz) hS hstep hend
end Go.Proofs.Ythjflgnoeenenaa
