/- A drawn region whose calls make parts, whose last operations build a row of them and write them. -/
import Derived.Test.YtljnpaikjljmbaaMdPart
namespace Go.Proofs.Ytljnpaikjljmbaa
open Go.RowKit

theorem does_callp {P : Program} {o : Oper} {a : Act} {w : World} {T : Value → World → Prop} (f : FuncId) (args : Array Value) (hr : (execOp a.eval o).run P w = .ok (.enter f args) w) (h : Calls P f args w fun e w' => ∃ v, e = .returned v ∧ T v w') : OpDoes P o a w T := does_call f args hr h
theorem pt_ne {f : Nat → Bool} {i j : Nat} (h : j ≠ i) : upd f i j = f j := by unfold upd; simp [h]
theorem pt_eq {f : Nat → Bool} {i : Nat} : upd f i i = true := by unfold upd; simp
theorem ptN_ne {G : Type} {gh : Nat → G} {i j : Nat} {k : G} (h : j ≠ i) : updN gh i k j = gh j := by unfold updN; simp [h]
theorem ptN_eq {G : Type} {gh : Nat → G} {i : Nat} {k : G} : updN gh i k i = k := by unfold updN; simp
/-- js: which operations make which parts; ib builds the row, iw writes -/
structure PtS (w1 : World) (base g0 f0 : Nat) (r : Option Nat) (lim : Nat) (s : WS) (js : List (Nat × List (List Item))) (ib iw : Nat) (f : Nat → Bool) (gh : Nat → Value) (W : World) : Prop where
  wrb : WrB w1 base g0 f0 r lim s
  lt : ib < iw ∧ (∀ p ∈ js, p.1 < ib)
  pre : f iw = false → Below w1.heap.size w1 W
  pt : f iw = false → ∀ p ∈ js, f p.1 = true → ∃ v, gh p.1 = fnV v ∧ PartC W base g0 f0 r lim v p.2
  lit : f ib = true → (∀ p ∈ js, f p.1 = true) ∧ ∃ q, gh ib = .slice (some ⟨q, 0, none⟩) js.length js.length ∧ (f iw = false → w1.heap.size ≤ q ∧ Blk W q 60 (js.map fun p => gh p.1).toArray)
  post : f iw = true → f ib = true ∧ PtPost w1 base g0 f0 r lim ((js.map fun p => p.2).flatten.foldl (putW lim) s) W
section
variable {w1 W W' : World} {base g0 f0 : Nat} {r : Option Nat} {lim : Nat} {s : WS} {js : List (Nat × List (List Item))} {ib iw : Nat} {f : Nat → Bool} {gh : Nat → Value}
theorem PtS.start (n : Nat) (h : WrB w1 base g0 f0 r lim s) (gh : Nat → Value) (hlt : ib < iw ∧ (∀ p ∈ js, p.1 < ib)) (hn : iw < n) : PtS w1 base g0 f0 r lim s js ib iw (fun j => decide (n ≤ j)) gh w1.drew where
  wrb := h
  lt := hlt
  pre := fun _ => (Below.refl _ _).drew
  pt := fun _ p hp e => by have := of_decide_eq_true e; have := hlt.2 p hp; omega
  lit := fun e => by have := of_decide_eq_true e; omega
  post := fun e => by have := of_decide_eq_true e; omega
theorem PtS.nob (h : PtS w1 base g0 f0 r lim s js ib iw f gh W) (hf : f ib = false) : f iw = false := by
  cases hh : f iw with
  | false => rfl
  | true => have := (h.post hh).1; rw [hf] at this; cases this
theorem map_congr_js {js : List (Nat × List (List Item))} {a b : Nat → Value} (h : ∀ p ∈ js, a p.1 = b p.1) : (js.map fun p => a p.1) = js.map fun p => b p.1 := List.map_congr_left fun p hp => h p hp
theorem PtS.step (h : PtS w1 base g0 f0 r lim s js ib iw f gh W) (hb : Below W.heap.size W W') (i : Nat) (v : Value) (n1 : ib ≠ i) (n2 : iw ≠ i) (hw : f iw = false) (n3 : ∀ p ∈ js, p.1 ≠ i) : PtS w1 base g0 f0 r lim s js ib iw (upd f i) (updN gh i v) W' where
  wrb := h.wrb
  lt := h.lt
  pre := fun e => by rw [pt_ne n2] at e; exact (h.pre e).trans (hb.mono (h.pre e).size)
  pt := fun e p hp e2 => by
    rw [pt_ne n2] at e; rw [pt_ne (n3 p hp)] at e2; rw [ptN_ne (n3 p hp)]
    obtain ⟨v, h1, h2⟩ := h.pt e p hp e2
    exact ⟨v, h1, h2.keep hb⟩
  lit := fun e => by
    rw [pt_ne n1] at e; rw [ptN_ne n1, pt_ne n2]
    obtain ⟨k1, q, k2, k3⟩ := h.lit e
    refine ⟨fun p hp => by rw [pt_ne (n3 p hp)]; exact k1 p hp, q, k2, fun e2 => ⟨(k3 e2).1, ?_⟩⟩
    rw [map_congr_js (a := updN gh i v) (b := gh) (fun p hp => ptN_ne (n3 p hp))]
    exact (k3 e2).2.keep hb
  post := fun e => by rw [pt_ne n2, hw] at e; cases e
theorem PtS.call (h : PtS w1 base g0 f0 r lim s js ib iw f gh W) (j : Nat) (gs : List (List Item)) (hm : (j, gs) ∈ js) (hu : ∀ p ∈ js, p.1 = j → p.2 = gs) (hf : f j = false) (hb : Below W.heap.size W W') (v : FnV) (hv : PartC W' base g0 f0 r lim v gs) : PtS w1 base g0 f0 r lim s js ib iw (upd f j) (updN gh j (fnV v)) W' := by
  have hlt := h.lt.2 _ hm
  dsimp only at hlt
  have fb : f ib = false := by
    cases hh : f ib with
    | false => rfl
    | true => have := (h.lit hh).1 _ hm; dsimp only at this; rw [hf] at this; cases this
  have fw := h.nob fb
  have n1 : ib ≠ j := by omega
  have n2 : iw ≠ j := by have := h.lt.1; omega
  exact {
    wrb := h.wrb
    lt := h.lt
    pre := fun _ => (h.pre fw).trans (hb.mono (h.pre fw).size)
    pt := fun _ p hp e2 => by
      by_cases e : p.1 = j
      · rw [e, ptN_eq, hu p hp e]; exact ⟨v, rfl, hv⟩
      · rw [pt_ne e] at e2; rw [ptN_ne e]
        obtain ⟨v, h1, h2⟩ := h.pt fw p hp e2
        exact ⟨v, h1, h2.keep hb⟩
    lit := fun e => by rw [pt_ne n1, fb] at e; cases e
    post := fun e => by rw [pt_ne n2, fw] at e; cases e }
theorem PtS.build (h : PtS w1 base g0 f0 r lim s js ib iw f gh W) (hf : f ib = false) (hall : ∀ p ∈ js, f p.1 = true) (n : Nat) (hn : js.length = n) : PtS w1 base g0 f0 r lim s js ib iw (upd f ib) (updN gh ib (.slice (some ⟨W.heap.size, 0, none⟩) n n)) (W.alloc (.cells (js.map fun p => gh p.1).toArray 60)) := by
  subst hn
  have fw := h.nob hf
  have hb := below_new W (.cells (js.map fun p => gh p.1).toArray 60)
  have hne : ∀ p ∈ js, p.1 ≠ ib := fun p hp e => by have := h.lt.2 p hp; omega
  have n2 : iw ≠ ib := by have := h.lt.1; omega
  exact {
    wrb := h.wrb
    lt := h.lt
    pre := fun _ => (h.pre fw).trans (hb.mono (h.pre fw).size)
    pt := fun _ p hp e2 => by
      rw [pt_ne (hne p hp)] at e2; rw [ptN_ne (hne p hp)]
      obtain ⟨v, h1, h2⟩ := h.pt fw p hp e2
      exact ⟨v, h1, h2.keep hb⟩
    lit := fun _ => ⟨fun p hp => by rw [pt_ne (hne p hp)]; exact hall p hp, W.heap.size, by rw [ptN_eq], fun _ => ⟨(h.pre fw).size, by
      rw [map_congr_js (a := updN gh ib _) (b := gh) (fun p hp => ptN_ne (hne p hp))]
      exact Blk.new W _ _⟩⟩
    post := fun e => by rw [pt_ne n2, fw] at e; cases e }
theorem PtS.write (h : PtS w1 base g0 f0 r lim s js ib iw f gh W) (hf : f ib = true) (hw : f iw = false) (hj : js.length ≤ 1000) (n : Nat) (hn : js.length = n) :
    ∃ q, gh ib = .slice (some ⟨q, 0, none⟩) n n ∧ Calls Try.prog 32 #[.slice (some ⟨q, 0, none⟩) n n] W fun e w' => ∃ v, e = .returned v ∧ v = .tuple #[] ∧ PtS w1 base g0 f0 r lim s js ib iw (upd f iw) (updN gh iw (.tuple #[])) w' := by
  subst hn
  obtain ⟨hall, q, e, hq⟩ := h.lit hf
  obtain ⟨hq1, hq2⟩ := hq hw
  have hpre := h.pre hw
  have hwb := h.wrb.keep hpre
  have hpt := h.pt hw
  refine ⟨q, e, ?_⟩
  have hvs : ∃ vs : List FnV, vs.length = js.length ∧ (js.map fun p => gh p.1) = vs.map fnV ∧ ∀ (k : Nat) v gs, vs[k]? = some v → (js.map fun p => p.2)[k]? = some gs → PartC W base g0 f0 r lim v gs := by
    clear hq hq1 hq2 e h
    induction js with
    | nil => exact ⟨[], rfl, rfl, fun k v gs hv => by simp at hv⟩
    | cons p js ih =>
      obtain ⟨v, h1, h2⟩ := hpt p (List.mem_cons_self ..) (hall p (List.mem_cons_self ..))
      obtain ⟨vs, i1, i2, i3⟩ := ih (by simp at hj; omega) (fun p hp => hall p (List.mem_cons_of_mem _ hp)) (fun p hp => hpt p (List.mem_cons_of_mem _ hp))
      refine ⟨v :: vs, by simp [i1], by simp [h1, i2], fun k u gs hu hg => ?_⟩
      cases k with
      | zero => simp at hu hg; subst hu hg; exact h2
      | succ k => simp at hu hg; exact i3 k u gs hu (by simpa using hg)
  obtain ⟨vs, l1, l2, l3⟩ := hvs
  refine (ptWrite_calls base g0 f0 r lim s vs (js.map fun p => p.2) q 0 js.length js.length W l1 (by simp) (by omega) hwb (fun hm => by have := (h.wrb.fp_lt q hm).2; omega) hq2.lt (fun k v hk => ?_) l3).mono ?_
  · rw [Nat.zero_add]
    refine hq2.cell k ?_
    rw [l2]; simp [hk]
  · rintro e' w' ⟨rfl, hp⟩
    have hne : ∀ p ∈ js, p.1 ≠ iw := fun p hp e => by have := h.lt.2 p hp; have := h.lt.1; omega
    have n2 : ib ≠ iw := by have := h.lt.1; omega
    exact ⟨_, rfl, rfl, {
      wrb := h.wrb
      lt := h.lt
      pre := fun e => by rw [pt_eq] at e; cases e
      pt := fun e => by rw [pt_eq] at e; cases e
      lit := fun _ => ⟨fun p hp => by rw [pt_ne (hne p hp)]; exact hall p hp, q, by rw [ptN_ne n2]; exact e, fun e => by rw [pt_eq] at e; cases e⟩
      post := fun _ => ⟨by rw [pt_ne n2]; exact hf, PtPost.fresh hpre hp⟩ }⟩
end
end Go.Proofs.Ytljnpaikjljmbaa
