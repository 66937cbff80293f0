/- A device of the program's beside one of the plain reference; contract: acted. Written by tools/mkdv.py out of XDvScD.tpl. -/
import Derived.Test.YtoajnabdflikfaaDvScA
namespace Go.Proofs.Ytoajnabdflikfaa
open Go.RowKit

/-- blocks that are held stay as they are -/
def HeldW (H : List Nat) (W W' : World) : Prop := ∃ L, Chg L W W' ∧ ∀ b ∈ H, b ∉ L
structure DX (w : World) (base bx g gx m : Nat) (H : List Nat) (s1 s2 : DS) (W : World) : Prop where
  ex : ∃ F Fx, DevB W base F g s1 ∧ RdB W bx Fx gx m s2 ∧ (∀ b ∈ Fx, b ∉ F) ∧ (∀ b ∈ H, b < W.heap.size ∧ b ∉ F ∧ b ∉ Fx)
  bel : Below w.heap.size w W
  hb : w.heap.size ≤ base
  hx : w.heap.size ≤ bx
  bb : base ≤ W.heap.size
  bxb : bx ≤ W.heap.size
theorem RdPost.up {w w' : World} {base g m m' : Nat} {F : List Nat} {s' : DS} {v : Value} {e : Ending} (h : RdPost w base F g m s' v e w') (hm : m ≤ m') : RdPost w base F g m' s' v e w' := by
  obtain ⟨h1, F', h2, h3⟩ := h
  exact ⟨h1, F', h2.up hm, h3⟩
theorem held_below {H : List Nat} {W W' : World} (hb : Below W.heap.size W W') : HeldW H W W' := ⟨[], Chg.of_below hb, fun _ _ => by simp⟩
section
variable {w W W' : World} {base bx g gx m m' : Nat} {H H' : List Nat} {s1 s2 s' : DS}
theorem HeldW.blk {t : TypeId} {cs : Array Value} {T : Nat} (h : HeldW H W W') (hb : Blk W T t cs) (hm : T ∈ H) : Blk W' T t cs := by
  obtain ⟨L, hc, hl⟩ := h
  exact hb.chg hc (hl T hm)
theorem HeldW.own {e : TypeId} {v : Value} {n bs : _} {k : Nat} (h : HeldW H W W') (ho : Own W k e v n bs) (hm : ∀ b, v.ownBlock = some b → b ∈ H) : Own W' k e v n bs := by
  obtain ⟨L, hc, hl⟩ := h
  exact ho.chg hc (fun b e => hl b (hm b e))
theorem HeldW.size (h : HeldW H W W') : W.heap.size ≤ W'.heap.size := by
  obtain ⟨L, hc, -⟩ := h
  exact hc.size
theorem HeldW.less (h : HeldW H W W') (hl : ∀ b ∈ H', b ∈ H) : HeldW H' W W' := by
  obtain ⟨L, hc, h2⟩ := h
  exact ⟨L, hc, fun b hb => h2 b (hl b hb)⟩
theorem DX.own (h : DX w base bx g gx m H s1 s2 W) {fn : FuncId} {args : Array Value} {v : Value}
    (hc : ∀ F, DevB W base F g s1 → (∀ b ∈ H, b ∉ F) → Calls Try.prog fn args W (DevPost W base F g s' v)) :
    Calls Try.prog fn args W fun e W' => e = .returned v ∧ DX w base bx g gx m H s' s2 W' ∧ HeldW H W W' := by
  obtain ⟨⟨F, Fx, hw, hr, hd, hh⟩, bel, hb, hx, bb, bxb⟩ := h
  refine (hc F hw (fun b hm => (hh b hm).2.1)).mono ?_
  rintro e W' ⟨he, F', hw', hc, hm⟩
  refine ⟨he, ⟨⟨F', Fx, hw', hr.chg hc hd, fun b hb1 hb2 => ?_, fun b hb' => ⟨Nat.lt_of_lt_of_le (hh b hb').1 hc.size, fun hb2 => ?_, (hh b hb').2.2⟩⟩, bel.trans (hc.below (fun b hb' => Nat.le_trans hb (hw.lt b hb').1) bel.size), hb, hx, Nat.le_trans bb hc.size, Nat.le_trans bxb hc.size⟩, F, hc, fun b hb' => (hh b hb').2.1⟩
  · rcases hm b hb2 with h1 | h1
    · exact hd b hb1 h1
    · have := (hr.lt b hb1).2; omega
  · rcases hm b hb2 with h1 | h1
    · exact (hh b hb').2.1 h1
    · have := (hh b hb').1; omega
theorem DX.ref (h : DX w base bx g gx m H s1 s2 W) {fn : FuncId} {args : Array Value} {v : Value}
    (hc : ∀ Fx, RdB W bx Fx gx m s2 → (∀ b ∈ H, b ∉ Fx) → Calls Try.prog fn args W (RdPost W bx Fx gx m' s' v)) :
    Calls Try.prog fn args W fun e W' => e = .returned v ∧ DX w base bx g gx m' H s1 s' W' ∧ HeldW H W W' := by
  obtain ⟨⟨F, Fx, hw, hr, hd, hh⟩, bel, hb, hx, bb, bxb⟩ := h
  refine (hc Fx hr (fun b hm => (hh b hm).2.2)).mono ?_
  rintro e W' ⟨he, Fx', hr', hc, hm⟩
  refine ⟨he, ⟨⟨F, Fx', hw.chg hc (fun b hb' hm' => hd b hm' hb'), hr', fun b hb1 hb2 => ?_, fun b hb' => ⟨Nat.lt_of_lt_of_le (hh b hb').1 hc.size, (hh b hb').2.1, fun hb2 => ?_⟩⟩, bel.trans (hc.below (fun b hb' => Nat.le_trans hx (hr.lt b hb').1) bel.size), hb, hx, Nat.le_trans bb hc.size, Nat.le_trans bxb hc.size⟩, Fx, hc, fun b hb' => (hh b hb').2.2⟩
  · rcases hm b hb1 with h1 | h1
    · exact hd b h1 hb2
    · have := (hw.lt b hb2).2; omega
  · rcases hm b hb2 with h1 | h1
    · exact (hh b hb').2.2 h1
    · have := (hh b hb').1; omega
theorem DX.keep (h : DX w base bx g gx m H s1 s2 W) (hB : Below W.heap.size W W') : DX w base bx g gx m H s1 s2 W' := by
  obtain ⟨⟨F, Fx, hw, hr, hd, hh⟩, bel, hb, hx, bb, bxb⟩ := h
  exact ⟨⟨F, Fx, hw.keep hB, hr.keep hB, hd, fun b hm => ⟨Nat.lt_of_lt_of_le (hh b hm).1 hB.size, (hh b hm).2⟩⟩, bel.trans (hB.mono bel.size), hb, hx, Nat.le_trans bb hB.size, Nat.le_trans bxb hB.size⟩
theorem DX.less (h : DX w base bx g gx m H s1 s2 W) (hl : ∀ b ∈ H', b ∈ H) : DX w base bx g gx m H' s1 s2 W := by
  obtain ⟨⟨F, Fx, hw, hr, hd, hh⟩, bel, hb, hx, bb, bxb⟩ := h
  exact ⟨⟨F, Fx, hw, hr, hd, fun b hm => hh b (hl b hm)⟩, bel, hb, hx, bb, bxb⟩
/-- new blocks are held -/
theorem DX.more (h : DX w base bx g gx m H s1 s2 W) (hB : Below W.heap.size W W') (hl : ∀ b ∈ H', b ∈ H ∨ (W.heap.size ≤ b ∧ b < W'.heap.size)) : DX w base bx g gx m H' s1 s2 W' := by
  obtain ⟨⟨F, Fx, hw, hr, hd, hh⟩, bel, hb, hx, bb, bxb⟩ := h
  refine ⟨⟨F, Fx, hw.keep hB, hr.keep hB, hd, fun b hm => ?_⟩, bel.trans (hB.mono bel.size), hb, hx, Nat.le_trans bb hB.size, Nat.le_trans bxb hB.size⟩
  rcases hl b hm with h1 | ⟨h1, h2⟩
  · exact ⟨Nat.lt_of_lt_of_le (hh b h1).1 hB.size, (hh b h1).2⟩
  · exact ⟨h2, fun hm' => by have := (hw.lt b hm').2; omega, fun hm' => by have := (hr.lt b hm').2; omega⟩
/-- a change of blocks that are held -/
theorem DX.high (h : DX w base bx g gx m H s1 s2 W) {L : List Nat} (hc : Chg L W W') (hl : ∀ b ∈ L, b ∈ H ∧ w.heap.size ≤ b) : DX w base bx g gx m H s1 s2 W' := by
  obtain ⟨⟨F, Fx, hw, hr, hd, hh⟩, bel, hb, hx, bb, bxb⟩ := h
  exact ⟨⟨F, Fx, hw.chg hc (fun b hm hm' => (hh b (hl b hm').1).2.1 hm), hr.chg hc (fun b hm hm' => (hh b (hl b hm').1).2.2 hm), hd, fun b hm => ⟨Nat.lt_of_lt_of_le (hh b hm).1 hc.size, (hh b hm).2⟩⟩, bel.trans (hc.below (fun b hm => (hl b hm).2) bel.size), hb, hx, Nat.le_trans bb hc.size, Nat.le_trans bxb hc.size⟩
end
/-- two calls in a drawn region, one device's and the other's -/
structure DwS (w : World) (base bx g gx m T : Nat) (cs : Array Value) (s SN : DS) (i1 i2 : Nat) (fd : Nat → Bool) (_gh : Nat → Unit) (W : World) : Prop where
  wx : DX w base bx g gx (if fd i2 = true then m + 1 else m) [T] (if fd i1 = true then SN else s) (if fd i2 = true then SN else s) W
  tb : Blk W T 35 cs
section
variable {w W W' : World} {base bx g gx m T : Nat} {cs : Array Value} {s SN : DS} {i1 i2 : Nat} {fd : Nat → Bool} {gh gh' : Nat → Unit}
theorem DwS.step (h : DwS w base bx g gx m T cs s SN i1 i2 fd gh W) (i : Nat) (h1 : i1 ≠ i) (h2 : i2 ≠ i) : DwS w base bx g gx m T cs s SN i1 i2 (upd fd i) gh' W :=
  ⟨by rw [ap_ne h1, ap_ne h2]; exact h.wx, h.tb⟩
theorem DwS.pre1 (h : DwS w base bx g gx m T cs s SN i1 i2 fd gh W) (h1 : fd i1 = false) : DX w base bx g gx (if fd i2 = true then m + 1 else m) [T] s (if fd i2 = true then SN else s) W := by
  have := h.wx
  rwa [if_neg (c := fd i1 = true) (by rw [h1]; decide)] at this
theorem DwS.pre2 (h : DwS w base bx g gx m T cs s SN i1 i2 fd gh W) (h2 : fd i2 = false) : DX w base bx g gx m [T] (if fd i1 = true then SN else s) s W := by
  have := h.wx
  rwa [if_neg (c := fd i2 = true) (by rw [h2]; decide), if_neg (c := fd i2 = true) (by rw [h2]; decide)] at this
theorem DwS.s1 (h : DwS w base bx g gx m T cs s SN i1 i2 fd gh W) (hp : DX w base bx g gx (if fd i2 = true then m + 1 else m) [T] SN (if fd i2 = true then SN else s) W') (hh : HeldW [T] W W') (hne : i2 ≠ i1) : DwS w base bx g gx m T cs s SN i1 i2 (upd fd i1) gh' W' :=
  ⟨by rw [ap_eq, ap_ne hne, if_pos rfl]; exact hp, hh.blk h.tb (by simp)⟩
theorem DwS.s2 (h : DwS w base bx g gx m T cs s SN i1 i2 fd gh W) (hp : DX w base bx g gx (m + 1) [T] (if fd i1 = true then SN else s) SN W') (hh : HeldW [T] W W') (hne : i1 ≠ i2) : DwS w base bx g gx m T cs s SN i1 i2 (upd fd i2) gh' W' :=
  ⟨by rw [ap_eq, ap_ne hne, if_pos rfl, if_pos rfl]; exact hp, hh.blk h.tb (by simp)⟩
theorem DwS.fin (h : DwS w base bx g gx m T cs s SN i1 i2 fd gh W) (h1 : fd i1 = true) (h2 : fd i2 = true) : DX w base bx g gx (m + 1) [T] SN SN W := by
  have := h.wx
  rwa [if_pos h1, if_pos h2, if_pos h2] at this
end
/-- bytes are made for the one and for the other -/
structure D2S (w : World) (base bx g gx m : Nat) (H0 : List Nat) (PP : World → Prop) (s SN : DS) (bs : List UInt8) (i5 i6 i12 i13 : Nat) (f : Nat → Bool) (gh : Nat → Value) (W : World) : Prop where
  st : ∀ W W', HeldW H0 W W' → PP W → PP W'
  wx : DX w base bx g gx (if f i13 = true then m + 1 else m) (H0 ++ ((if f i5 = true ∧ f i6 = false then (gh i5).ownBlock.toList else []) ++ (if f i12 = true ∧ f i13 = false then (gh i12).ownBlock.toList else []))) (if f i6 = true then SN else s) (if f i13 = true then SN else s) W
  pp : PP W
  o5 : i5 < 20 → f i5 = true → f i6 = false → Own W w.heap.size 5 (gh i5) bs.length bs
  o12 : f i12 = true → f i13 = false → Own W w.heap.size 5 (gh i12) bs.length bs
section
variable {w W W' : World} {base bx g gx m : Nat} {H0 : List Nat} {PP : World → Prop} {s SN : DS} {bs : List UInt8} {i5 i6 i12 i13 : Nat} {f : Nat → Bool} {gh : Nat → Value}
theorem D2S.step (h : D2S w base bx g gx m H0 PP s SN bs i5 i6 i12 i13 f gh W) (j : Nat) (v : Value) (n5 : i5 ≠ j) (n6 : i6 ≠ j) (n12 : i12 ≠ j) (n13 : i13 ≠ j) : D2S w base bx g gx m H0 PP s SN bs i5 i6 i12 i13 (upd f j) (updN gh j v) W := by
  obtain ⟨st, wx, pp, o5, o12⟩ := h
  refine ⟨st, ?_, pp, ?_, ?_⟩ <;> simp only [ap_ne n5, ap_ne n6, ap_ne n12, ap_ne n13, apN_ne n5, apN_ne n12] <;> assumption
theorem D2S.s5 (h : D2S w base bx g gx m H0 PP s SN bs i5 i6 i12 i13 f gh W) {v : Value} (hf : f i5 = false) (h6 : f i6 = false) (n6 : i6 ≠ i5) (n12 : i12 ≠ i5) (n13 : i13 ≠ i5) (ho : Own W' W.heap.size 5 v bs.length bs) (hB : Below W.heap.size W W') :
    D2S w base bx g gx m H0 PP s SN bs i5 i6 i12 i13 (upd f i5) (updN gh i5 v) W' := by
  have hz := h.wx.bel.size
  refine ⟨h.st, ?_, h.st _ _ (held_below hB) h.pp, fun _ _ _ => by rw [apN_eq]; exact ho.lower hz, fun e e2 => ?_⟩
  · have hx := h.wx
    rw [if_neg (c := f i5 = true ∧ f i6 = false) (by rw [hf]; simp)] at hx
    rw [ap_eq, ap_ne n6, ap_ne n12, ap_ne n13, apN_eq, apN_ne n12, if_pos (c := true = true ∧ f i6 = false) ⟨rfl, h6⟩]
    refine hx.more hB (fun b hm => ?_)
    simp only [List.mem_append] at hm ⊢
    rcases hm with hm | hm | hm
    · exact .inl (.inl hm)
    · exact .inr (ho.block b (by simpa using hm))
    · exact .inl (.inr (.inr hm))
  · rw [ap_ne n12] at e; rw [ap_ne n13] at e2; rw [apN_ne n12]; exact (h.o12 e e2).keep hB
theorem D2S.s12 (h : D2S w base bx g gx m H0 PP s SN bs i5 i6 i12 i13 f gh W) {v : Value} (hf : f i12 = false) (h13 : f i13 = false) (n5 : i5 ≠ i12) (n6 : i6 ≠ i12) (n13 : i13 ≠ i12) (ho : Own W' W.heap.size 5 v bs.length bs) (hB : Below W.heap.size W W') :
    D2S w base bx g gx m H0 PP s SN bs i5 i6 i12 i13 (upd f i12) (updN gh i12 v) W' := by
  have hz := h.wx.bel.size
  refine ⟨h.st, ?_, h.st _ _ (held_below hB) h.pp, fun e0 e e2 => ?_, fun _ _ => by rw [apN_eq]; exact ho.lower hz⟩
  · have hx := h.wx
    rw [if_neg (c := f i12 = true ∧ f i13 = false) (by rw [hf]; simp)] at hx
    rw [ap_eq, ap_ne n5, ap_ne n6, ap_ne n13, apN_eq, apN_ne n5, if_pos (c := true = true ∧ f i13 = false) ⟨rfl, h13⟩]
    refine hx.more hB (fun b hm => ?_)
    simp only [List.mem_append] at hm ⊢
    rcases hm with hm | hm | hm
    · exact .inl (.inl hm)
    · exact .inl (.inr (.inl hm))
    · exact .inr (ho.block b (by simpa using hm))
  · rw [ap_ne n5] at e; rw [ap_ne n6] at e2; rw [apN_ne n5]; exact (h.o5 e0 e e2).keep hB
theorem D2S.pre6 (h : D2S w base bx g gx m H0 PP s SN bs i5 i6 i12 i13 f gh W) (h6 : f i6 = false) : DX w base bx g gx (if f i13 = true then m + 1 else m) (H0 ++ ((if f i5 = true ∧ f i6 = false then (gh i5).ownBlock.toList else []) ++ (if f i12 = true ∧ f i13 = false then (gh i12).ownBlock.toList else []))) s (if f i13 = true then SN else s) W := by
  have hx := h.wx
  rwa [if_neg (c := f i6 = true) (by rw [h6]; decide)] at hx
theorem D2S.s6 (h : D2S w base bx g gx m H0 PP s SN bs i5 i6 i12 i13 f gh W) {k : Value} (n5 : i5 ≠ i6) (n12 : i12 ≠ i6) (n13 : i13 ≠ i6)
    (hp : DX w base bx g gx (if f i13 = true then m + 1 else m) (H0 ++ ((if f i5 = true ∧ f i6 = false then (gh i5).ownBlock.toList else []) ++ (if f i12 = true ∧ f i13 = false then (gh i12).ownBlock.toList else []))) SN (if f i13 = true then SN else s) W')
    (hh : HeldW (H0 ++ ((if f i5 = true ∧ f i6 = false then (gh i5).ownBlock.toList else []) ++ (if f i12 = true ∧ f i13 = false then (gh i12).ownBlock.toList else []))) W W') : D2S w base bx g gx m H0 PP s SN bs i5 i6 i12 i13 (upd f i6) (updN gh i6 k) W' := by
  refine ⟨h.st, ?_, h.st _ _ (hh.less (fun b hb => by simp [hb])) h.pp, fun _ _ e => (by rw [ap_eq] at e; cases e), fun e e2 => ?_⟩
  · rw [ap_eq, ap_ne n5, ap_ne n12, ap_ne n13, apN_ne n5, apN_ne n12, if_neg (c := f i5 = true ∧ true = false) (by simp), if_pos (c := true = true) rfl]
    refine hp.less (fun b hm => ?_)
    simp only [List.mem_append] at hm ⊢
    rcases hm with hm | hm | hm
    · exact .inl hm
    · cases hm
    · exact .inr (.inr hm)
  · rw [ap_ne n12] at e; rw [ap_ne n13] at e2; rw [apN_ne n12]
    exact hh.own (h.o12 e e2) (fun b hb => by rw [if_pos (c := f i12 = true ∧ f i13 = false) ⟨e, e2⟩, hb]; simp)
theorem D2S.pre13 (h : D2S w base bx g gx m H0 PP s SN bs i5 i6 i12 i13 f gh W) (h13 : f i13 = false) : DX w base bx g gx m (H0 ++ ((if f i5 = true ∧ f i6 = false then (gh i5).ownBlock.toList else []) ++ (if f i12 = true ∧ f i13 = false then (gh i12).ownBlock.toList else []))) (if f i6 = true then SN else s) s W := by
  have hx := h.wx
  rwa [if_neg (c := f i13 = true) (by rw [h13]; decide), if_neg (c := f i13 = true) (by rw [h13]; decide)] at hx
theorem D2S.s13 (h : D2S w base bx g gx m H0 PP s SN bs i5 i6 i12 i13 f gh W) {k : Value} (n5 : i5 ≠ i13) (n6 : i6 ≠ i13) (n12 : i12 ≠ i13)
    (hp : DX w base bx g gx (m + 1) (H0 ++ ((if f i5 = true ∧ f i6 = false then (gh i5).ownBlock.toList else []) ++ (if f i12 = true ∧ f i13 = false then (gh i12).ownBlock.toList else []))) (if f i6 = true then SN else s) SN W')
    (hh : HeldW (H0 ++ ((if f i5 = true ∧ f i6 = false then (gh i5).ownBlock.toList else []) ++ (if f i12 = true ∧ f i13 = false then (gh i12).ownBlock.toList else []))) W W') : D2S w base bx g gx m H0 PP s SN bs i5 i6 i12 i13 (upd f i13) (updN gh i13 k) W' := by
  refine ⟨h.st, ?_, h.st _ _ (hh.less (fun b hb => by simp [hb])) h.pp, fun e0 e e2 => ?_, fun _ e => (by rw [ap_eq] at e; cases e)⟩
  · rw [ap_eq, ap_ne n5, ap_ne n6, ap_ne n12, apN_ne n5, apN_ne n12, if_neg (c := f i12 = true ∧ true = false) (by simp), if_pos (c := true = true) rfl, if_pos (c := true = true) rfl]
    refine hp.less (fun b hm => ?_)
    simp only [List.mem_append] at hm ⊢
    rcases hm with hm | hm | hm
    · exact .inl hm
    · exact .inr (.inl hm)
    · cases hm
  · rw [ap_ne n5] at e; rw [ap_ne n6] at e2; rw [apN_ne n5]
    exact hh.own (h.o5 e0 e e2) (fun b hb => by rw [if_pos (c := f i5 = true ∧ f i6 = false) ⟨e, e2⟩, hb]; simp)
theorem D2S.start {n : Nat} (hst : ∀ W W', HeldW H0 W W' → PP W → PP W') (hx : DX w base bx g gx m H0 s s W) (hp : PP W) (h5 : i5 < n ∨ 20 ≤ i5) (h6 : i6 < n) (h12 : i12 < n) (h13 : i13 < n) : D2S w base bx g gx m H0 PP s SN bs i5 i6 i12 i13 (fun j => decide (n ≤ j)) (fun _ => .pointer none) W.drew := by
  have e6 : decide (n ≤ i6) = false := by simp; omega
  have e12 : decide (n ≤ i12) = false := by simp; omega
  have e13 : decide (n ≤ i13) = false := by simp; omega
  refine ⟨hst, ?_, hst _ _ (held_below (Below.refl _ _).drew) hp, fun h e => ?_, fun e => ?_⟩
  · simp only [e6, e12, e13, Bool.false_eq_true, if_false, false_and]
    refine (hx.keep (Below.refl _ _).drew).less (fun b hb => ?_)
    have h0 : (Value.pointer none).ownBlock = none := rfl
    simpa [h0] using hb
  · have : n ≤ i5 := of_decide_eq_true e
    rcases h5 with h5 | h5 <;> omega
  · rw [e12] at e; cases e
theorem D2S.fin (h : D2S w base bx g gx m H0 PP s SN bs i5 i6 i12 i13 f gh W) (h6 : f i6 = true) (h13 : f i13 = true) : DX w base bx g gx (m + 1) H0 SN SN W := by
  have hx := h.wx
  rw [if_pos (c := f i6 = true) h6, if_pos (c := f i13 = true) h13, if_pos (c := f i13 = true) h13] at hx
  exact hx.less (fun b hb => by simp [hb])
end
theorem run_mkb (b : UInt8) (W : World) : ∃ W', (Instr.makeSlice 37 (.int .u8 (b.toNat : Int)) (.int .u8 (b.toNat : Int))).run Try.prog W = .ok (.slice (some ⟨W.heap.size, 0, none⟩) b.toNat b.toNat) W' ∧ Own W' W.heap.size 5 (.slice (some ⟨W.heap.size, 0, none⟩) b.toNat b.toNat) (List.replicate b.toNat (0 : UInt8)).length (List.replicate b.toNat 0) ∧ Below W.heap.size W W' := by
  obtain ⟨i, hi, hz, hsz, hby⟩ := info_parts info5'
  obtain ⟨W', hr, h1, h2⟩ := run_make_full (P := Try.prog) W W.heap.size 37 5 i _ 1 Try.underlying37 hi hz hsz .u8 .u8 b.toNat (by rw [hby]; have := b.toNat_lt; omega) (by have := b.toNat_lt; simp [maxLen]; omega) (Nat.le_refl _)
  refine ⟨W', hr, ?_, below_of_grown h2 (Nat.le_refl _) (fun g e => by cases e)⟩
  rw [show Value.cells (.int .u8 0) = #[Value.int .u8 0] from rfl, toList_madeCells_one, Nat.mul_one] at h1
  rw [Own, List.map_replicate, List.length_replicate]
  exact h1
theorem does_mkx {P : Program} {o : Oper} {a : Act} {w w' : World} {T : Value → World → Prop} (t : TypeId) (l c : Operand) (ho : o.op = .makeSlice t l c) {x y v : Value} (hl : a.eval l = x) (hc : a.eval c = y) (hr : (Instr.makeSlice t x y).run P w = .ok v w') (h : T v w') : OpDoes P o a w T := fun K Q hK => by
  unfold Oper.wp execOp
  simp only [ho, hl, hc, Sem.run_bind, hr, Result.andThen_ok]
  exact hK _ _ h
/-- what an act makes of a device -/
def actS (s : DS) (a : DAct) : DS :=
  if a.k = 0 then writeS s a.n (List.replicate 64 a.b) else if a.k = 1 then flushD s else if a.k = 2 then fuseS s a.n else if a.k = 3 then crashD s a.keep a.n else if a.k = 4 then writeS s a.n (List.replicate a.b.toNat 0) else s
def da2Val (g gx T : Nat) (ez nn : Int) : Nat → Unit → Value
  | 0, _ => .pointer (some ⟨g, 0, none⟩)
  | 1, _ => .pointer (some ⟨T, 1, none⟩)
  | 2, _ => .int .i64 nn
  | 3, _ => .int .i64 ez
  | 4, _ => .pointer (some ⟨gx, 0, none⟩)
  | 5, _ => .pointer (some ⟨T, 1, none⟩)
  | 6, _ => .int .i64 nn
  | 7, _ => .int .i64 ez
  | 8, _ => .bool true
  | 9, _ => .bool true
  | _, _ => undef
def da3Val (g gx T : Nat) (ez nn : Int) (AA : Option Addr) (kl cc : Nat) : Nat → Unit → Value
  | 0, _ => .pointer (some ⟨g, 0, none⟩)
  | 1, _ => .pointer (some ⟨T, 3, none⟩)
  | 2, _ => .slice AA kl cc
  | 3, _ => .pointer (some ⟨T, 1, none⟩)
  | 4, _ => .int .i64 nn
  | 5, _ => .int .i64 ez
  | 6, _ => .pointer (some ⟨gx, 0, none⟩)
  | 7, _ => .pointer (some ⟨T, 3, none⟩)
  | 8, _ => .slice AA kl cc
  | 9, _ => .pointer (some ⟨T, 1, none⟩)
  | 10, _ => .int .i64 nn
  | 11, _ => .int .i64 ez
  | 12, _ => .bool true
  | 13, _ => .bool true
  | _, _ => undef
def da0Val (g gx T K cK : Nat) (ez nn : Int) (bb : UInt8) : Nat → Value → Value
  | 0, _ => .pointer (some ⟨g, 0, none⟩)
  | 1, _ => .pointer (some ⟨T, 1, none⟩)
  | 2, _ => .int .i64 nn
  | 3, _ => .slice (some ⟨K, 0, none⟩) 64 cK
  | 4, _ => .int .i64 ez
  | 5, _ => .pointer (some ⟨gx, 0, none⟩)
  | 6, _ => .pointer (some ⟨T, 1, none⟩)
  | 7, _ => .int .i64 nn
  | 8, _ => .pointer (some ⟨T, 2, none⟩)
  | 9, _ => .int .u8 (bb.toNat : Int)
  | 10, k => k
  | 11, _ => .int .i64 ez
  | 12, _ => .bool true
  | 13, _ => .bool true
  | _, _ => undef
def da4Val (g gx T : Nat) (ez nn : Int) (bb : UInt8) : Nat → Value → Value
  | 0, _ => .pointer (some ⟨g, 0, none⟩)
  | 1, _ => .pointer (some ⟨T, 1, none⟩)
  | 2, _ => .int .i64 nn
  | 3, _ => .pointer (some ⟨T, 2, none⟩)
  | 4, _ => .int .u8 (bb.toNat : Int)
  | 5, k => k
  | 6, _ => .int .i64 ez
  | 7, _ => .pointer (some ⟨gx, 0, none⟩)
  | 8, _ => .pointer (some ⟨T, 1, none⟩)
  | 9, _ => .int .i64 nn
  | 10, _ => .pointer (some ⟨T, 2, none⟩)
  | 11, _ => .int .u8 (bb.toNat : Int)
  | 12, k => k
  | 13, _ => .int .i64 ez
  | 14, _ => .bool true
  | 15, _ => .bool true
  | _, _ => undef
section
variable (w : World) (base bx g gx m : Nat) (s : DS) (a : DAct) (W : World)
set_option maxHeartbeats 4000000 in
set_option maxRecDepth 20000 in
theorem acted_calls (h : DX w base bx g gx m [] s s W) (hm : m ≤ 900) (hlo : s.loose.length ≤ 1000) (hfz : ∀ k, s.fuse = some k → k < 9223372036854775808) (hok : AOK W a) (hk60 : a.keep.length ≤ 60) (hkb : 0 < a.keep.length → ∀ b off, a.A = some ⟨b, off, none⟩ → b < w.heap.size) (hkw : ∀ W', Below w.heap.size w W' → KB W' a.A a.keep.length a.keep) :
    Calls Try.prog 12 #[.pointer (some ⟨g, 0, none⟩), .pointer (some ⟨gx, 0, none⟩), .agg (AV a)] W fun e W' => e = .returned (.bool true) ∧ DX w base bx g gx (m + 1) [] (actS s a) (actS s a) W' := by
  obtain ⟨kd, nn, bb, AA, cc, keep⟩ := a
  obtain ⟨hkb1, hn63, -⟩ := hok
  simp only at hkb1 hn63 hk60 hkb
  have HH := hid h; have HLO := hid hlo; have HFZ := hid hfz; have HKB := hid hkb1; have HKN := hid hkb
  have HTB := hid (Blk.new W 35 (AV ⟨kd, nn, bb, AA, cc, keep⟩))
  have HB1 := hid (below_new W (.cells (AV ⟨kd, nn, bb, AA, cc, keep⟩) 35))
  clear h hlo hfz hkb1 hkb
  have hA : actS s ⟨kd, nn, bb, AA, cc, keep⟩ = if kd = 0 then writeS s nn (List.replicate 64 bb) else if kd = 1 then flushD s else if kd = 2 then fuseS s nn else if kd = 3 then crashD s keep nn else if kd = 4 then writeS s nn (List.replicate bb.toNat 0) else s := rfl
  have HA := hid hA
  clear hA
  generalize actS s ⟨kd, nn, bb, AA, cc, keep⟩ = SZ at HA ⊢
  have c0 := HTB.out.cell 0 (show _ = some (Value.int .i64 kd) from rfl)
  have c1 := HTB.out.cell 1 (show _ = some (Value.int .i64 nn) from rfl)
  have c2 := HTB.out.cell 2 (show _ = some (Value.int .u8 (bb.toNat : Int)) from rfl)
  have c3 := HTB.out.cell 3 (show _ = some (Value.slice AA keep.length cc) from rfl)
  have HX1 := hid (HH.out.more (H' := [W.heap.size]) HB1.out (fun b hb => .inr (by rw [List.mem_singleton.1 hb]; exact ⟨Nat.le_refl _, HTB.out.lt⟩)))
  have HC1 := hid (show (AV ⟨kd, nn, bb, AA, cc, keep⟩)[1]? = some (Value.int .i64 nn) from rfl)
  have HC2 := hid (show (AV ⟨kd, nn, bb, AA, cc, keep⟩)[2]? = some (Value.int .u8 (bb.toNat : Int)) from rfl)
  have HC3 := hid (show (AV ⟨kd, nn, bb, AA, cc, keep⟩)[3]? = some (Value.slice AA keep.length cc) from rfl)
  have HKB1 := hid (HKB.out.keep HB1.out)
  have HKW0 := hid (fun W' (hW' : Below w.heap.size w W') => hkw W' hW')
  generalize AV ⟨kd, nn, bb, AA, cc, keep⟩ = cs at HTB HB1 c0 c1 c2 c3 HX1 HC1 HC2 HC3 HKB1 ⊢
  go_enter Try.func12, Try.ntmps12
  by_cases k0 : kd = 0
  · have q0 : (kd == 0) = true := by simp [k0]
    have HSZ := hid (show SZ = writeS s nn (List.replicate 64 bb) from by rw [HA.out, if_pos k0])
    clear HA k0
    go_wp2_with fail
    generalize W.alloc (.cells cs 35) = W1 at c0 c1 c2 c3 HTB HB1 HX1 HKB1 ⊢
    generalize W.heap.size = T at c0 c1 c2 c3 HTB HX1 ⊢
    refine (full_calls bb 64 (by omega) W1).mono ?_
    rintro _ W2 ⟨v, rfl, ho, hb2⟩
    obtain ⟨K, cK, rfl⟩ := Go.Joins.ownsRow_form ho (by omega)
    have hKb := ho.block K rfl
    have HX2 := hid (HX1.out.more (H' := [T, K]) hb2 (fun b hb => by
      simp at hb
      rcases hb with rfl | rfl
      · exact .inl (by simp)
      · exact .inr hKb))
    have HKz := hid (show w.heap.size ≤ K from Nat.le_trans HX1.out.bel.size hKb.1)
    have HPP := hid (show Blk W2 T 35 cs ∧ Own W2 w.heap.size 5 (.slice (some ⟨K, 0, none⟩) 64 cK) 64 (List.replicate 64 bb) from ⟨HTB.out.keep hb2, ho.lower HX1.out.bel.size⟩)
    have HLN := hid (show (List.replicate 64 bb).length = 64 from List.length_replicate)
    have HK1 := hid (fun W S2 m' H (h : DX w base bx g gx m' H s S2 W) (hs : SB W W.heap.size (some ⟨K, 0, none⟩) 64 (List.replicate 64 bb)) (hK : K ∈ H) => h.own (v := .int .i64 (writeE s nn 64 : Int)) (s' := SZ) (fun F hd hF => by rw [HSZ.out]; exact dWrite_calls base g F s W nn _ 64 cK _ _ hd h.bb HFZ.out (by have := HLO.out; omega) hs (fun b off e => by cases e; exact hF K hK)))
    have HK2 := hid (fun W S1 H A5 c5 (h : DX w base bx g gx m H S1 s W) (hs : SB W W.heap.size A5 (List.replicate 64 bb).length (List.replicate 64 bb)) (hm : ∀ b off, A5 = some ⟨b, off, none⟩ → b ∈ H) => h.ref (v := .int .i64 (writeE s nn 64 : Int)) (s' := SZ) (m' := m + 1) (args := #[.pointer (some ⟨gx, 0, none⟩), .int .i64 nn, .slice A5 (List.replicate 64 bb).length c5]) (fun F hd hF => by
      rw [HSZ.out]
      have := rWrite_calls bx gx m F s W nn _ (List.replicate 64 bb).length c5 A5 _ (by omega) hd h.bxb (by have := HLO.out; omega) hs (fun b off e => hF b (hm b off e))
      rwa [HLN.out] at this))
    have HFU := hid (fun W => (show Calls Try.prog 33 #[.int .u8 (bb.toNat : Int), .int .i64 64] W fun e w' => ∃ v, e = .returned v ∧ Own w' W.heap.size 5 v (List.replicate 64 bb).length (List.replicate 64 bb) ∧ Below W.heap.size W w' from by rw [HLN.out]; exact full_calls bb 64 (by omega) W))
    generalize hbs : List.replicate 64 bb = bs at HPP HLN HK1 HK2 HFU ho
    generalize (writeE s nn 64 : Int) = ez at HK1 HK2
    clear hbs HSZ HTB HX1 HB1 HKB HKB1 HH HC3 HKN ho hb2 hKb c0 c1 c2 c3 HLO HFZ
    obtain ⟨PP, hPP⟩ : ∃ PP : World → Prop, ∀ W, PP W ↔ (Blk W T 35 cs ∧ Own W w.heap.size 5 (.slice (some ⟨K, 0, none⟩) 64 cK) 64 bs) := ⟨_, fun _ => Iff.rfl⟩
    have HPQ := hid hPP
    have HST := hid (D2S.start (SN := SZ) (bs := bs) (i5 := 30) (i6 := 4) (i12 := 10) (i13 := 11) (n := 14) (PP := PP) (fun X Y hh hp => (hPP _).2 ⟨hh.blk ((hPP _).1 hp).1 (by simp), hh.own ((hPP _).1 hp).2 (fun b e => by cases e; simp)⟩) HX2.out ((hPP _).2 HPP.out) (.inr (by decide)) (by decide) (by decide) (by decide))
    clear hPP HPP HX2
    go_wp2_with fail
    refine wp_region_invG 82 (.pointer none) (da0Val g gx T K cK ez nn bb) (D2S w base bx g gx m [T, K] PP s SZ bs 30 4 10 11) (by kernel_rfl) (by kernel_rfl) (by exact Nat.le_refl 82) ?_ ?_ ?_
    · exact HST.out
    · intro i o f gh a W hi hf hdep hsame hcl hval hS
      rcases i with _ | _ | _ | _ | _ | _ | _ | _ | _ | _ | _ | _ | _ | _ | i
      all_goals simp only [List.getElem?_cons_succ, List.getElem?_cons_zero, List.getElem?_nil, Option.some.injEq, reduceCtorEq] at hi
      all_goals subst hi
      · have E0 : a.tmps[0]? = some (.pointer (some ⟨g, 0, none⟩)) := (same_of hsame 0 (by rfl)).trans rfl
        refine g_plain rfl ?_
        exact does_value (w' := W) (v := .pointer (some ⟨g, 0, none⟩)) (by go_simp) ⟨.pointer none, .inr rfl, hS.step 0 (.pointer none) (by decide) (by decide) (by decide) (by decide)⟩
      · have E5 : a.tmps[5]? = some (.pointer (some ⟨T, 0, none⟩)) := (same_of hsame 5 (by rfl)).trans rfl
        refine g_plain rfl ?_
        exact does_value (w' := W) (v := .pointer (some ⟨T, 1, none⟩)) (by go_simp) ⟨.pointer none, .inr rfl, hS.step 1 (.pointer none) (by decide) (by decide) (by decide) (by decide)⟩
      · have E17 := hval 1 _ 17 rfl rfl (dep_of hdep 1 (by rfl))
        unfold da0Val at E17
        have c1 := ((HPQ.out W).1 hS.pp).1.cell 1 HC1.out
        refine g_plain rfl ?_
        exact does_value (w' := W) (v := .int .i64 nn) (by go_simp) ⟨.pointer none, .inr rfl, hS.step 2 (.pointer none) (by decide) (by decide) (by decide) (by decide)⟩
      · have E7 : a.tmps[7]? = some (.slice (some ⟨K, 0, none⟩) 64 cK) := (same_of hsame 7 (by rfl)).trans rfl
        refine g_plain rfl ?_
        exact does_value (w' := W) (v := .slice (some ⟨K, 0, none⟩) 64 cK) (by go_simp) ⟨.pointer none, .inr rfl, hS.step 3 (.pointer none) (by decide) (by decide) (by decide) (by decide)⟩
      · have E16 := hval 0 _ 16 rfl rfl (dep_of hdep 0 (by rfl))
        have E18 := hval 2 _ 18 rfl rfl (dep_of hdep 2 (by rfl))
        have E19 := hval 3 _ 19 rfl rfl (dep_of hdep 3 (by rfl))
        unfold da0Val at E16 E18 E19
        refine g_plain rfl ?_
        have hsb := (((HPQ.out W).1 hS.pp).2).sb
        obtain ⟨Ak, ck, ek, -, sk, -⟩ := hsb
        obtain ⟨rfl, rfl⟩ : some ⟨K, 0, none⟩ = Ak ∧ cK = ck := by injection ek with h1 _ h3; exact ⟨h1, h3⟩
        refine does_call 25 #[.pointer (some ⟨g, 0, none⟩), .int .i64 nn, .slice (some ⟨K, 0, none⟩) 64 cK] (by go_simp) ((HK1.out W _ _ _ (hS.pre6 hf) sk (by simp)).mono ?_)
        rintro _ W' ⟨rfl, hp, hh⟩
        exact ⟨_, rfl, .pointer none, .inr rfl, hS.s6 (by decide) (by decide) (by decide) hp hh⟩
      · have E1 : a.tmps[1]? = some (.pointer (some ⟨gx, 0, none⟩)) := (same_of hsame 1 (by rfl)).trans rfl
        refine g_plain rfl ?_
        exact does_value (w' := W) (v := .pointer (some ⟨gx, 0, none⟩)) (by go_simp) ⟨.pointer none, .inr rfl, hS.step 5 (.pointer none) (by decide) (by decide) (by decide) (by decide)⟩
      · have E5 : a.tmps[5]? = some (.pointer (some ⟨T, 0, none⟩)) := (same_of hsame 5 (by rfl)).trans rfl
        refine g_plain rfl ?_
        exact does_value (w' := W) (v := .pointer (some ⟨T, 1, none⟩)) (by go_simp) ⟨.pointer none, .inr rfl, hS.step 6 (.pointer none) (by decide) (by decide) (by decide) (by decide)⟩
      · have E22 := hval 6 _ 22 rfl rfl (dep_of hdep 6 (by rfl))
        unfold da0Val at E22
        have c1 := ((HPQ.out W).1 hS.pp).1.cell 1 HC1.out
        refine g_plain rfl ?_
        exact does_value (w' := W) (v := .int .i64 nn) (by go_simp) ⟨.pointer none, .inr rfl, hS.step 7 (.pointer none) (by decide) (by decide) (by decide) (by decide)⟩
      · have E5 : a.tmps[5]? = some (.pointer (some ⟨T, 0, none⟩)) := (same_of hsame 5 (by rfl)).trans rfl
        refine g_plain rfl ?_
        exact does_value (w' := W) (v := .pointer (some ⟨T, 2, none⟩)) (by go_simp) ⟨.pointer none, .inr rfl, hS.step 8 (.pointer none) (by decide) (by decide) (by decide) (by decide)⟩
      · have E24 := hval 8 _ 24 rfl rfl (dep_of hdep 8 (by rfl))
        unfold da0Val at E24
        have c1 := ((HPQ.out W).1 hS.pp).1.cell 2 HC2.out
        refine g_plain rfl ?_
        exact does_value (w' := W) (v := .int .u8 (bb.toNat : Int)) (by go_simp) ⟨.pointer none, .inr rfl, hS.step 9 (.pointer none) (by decide) (by decide) (by decide) (by decide)⟩
      · have E25 := hval 9 _ 25 rfl rfl (dep_of hdep 9 (by rfl))
        unfold da0Val at E25
        refine g_plain rfl ?_
        have n11 := not_yet hcl hf 11 (by rfl)
        refine does_call 33 #[.int .u8 (bb.toNat : Int), .int .i64 64] (by go_simp) ((HFU.out W).mono ?_)
        rintro _ W' ⟨v, rfl, ho, hB⟩
        exact ⟨v, rfl, v, .inr rfl, hS.s12 hf n11 (by decide) (by decide) (by decide) ho hB⟩
      · have E21 := hval 5 _ 21 rfl rfl (dep_of hdep 5 (by rfl))
        have E23 := hval 7 _ 23 rfl rfl (dep_of hdep 7 (by rfl))
        have E26 := hval 10 _ 26 rfl rfl (dep_of hdep 10 (by rfl))
        unfold da0Val at E21 E23 E26
        refine g_plain rfl ?_
        have ho := hS.o12 (dep_of hdep 10 (by rfl)) hf
        obtain ⟨A7, c7, ev7, -, sb7, -⟩ := ho.sb
        rw [ev7] at E26
        refine does_call 37 #[.pointer (some ⟨gx, 0, none⟩), .int .i64 nn, .slice A7 bs.length c7] (by go_simp) ((HK2.out W _ _ A7 c7 (hS.pre13 hf) sb7 (fun b off e => by rw [if_pos (c := _ = true ∧ _ = false) ⟨dep_of hdep 10 (by rfl), hf⟩, ev7, e]; simp [Value.ownBlock])).mono ?_)
        rintro _ W' ⟨rfl, hp, hh⟩
        exact ⟨_, rfl, .pointer none, .inr rfl, hS.s13 (by decide) (by decide) (by decide) hp hh⟩
      · have E20 := hval 4 _ 20 rfl rfl (dep_of hdep 4 (by rfl))
        have E27 := hval 11 _ 27 rfl rfl (dep_of hdep 11 (by rfl))
        unfold da0Val at E20 E27
        refine g_plain rfl ?_
        exact does_value (w' := W) (v := .bool true) (by go_simp) ⟨.pointer none, .inr rfl, hS.step 12 (.pointer none) (by decide) (by decide) (by decide) (by decide)⟩
      · have E28 := hval 12 _ 28 rfl rfl (dep_of hdep 12 (by rfl))
        unfold da0Val at E28
        refine g_plain rfl ?_
        exact does_value (w' := W) (v := .bool true) (by go_simp) ⟨.pointer none, .inr rfl, hS.step 13 (.pointer none) (by decide) (by decide) (by decide) (by decide)⟩
    · intro gh w8 hS
      have HX8 := hid (hS.fin rfl rfl)
      have HP8 := hid ((HPQ.out w8).1 hS.pp)
      clear hS HST HK1 HK2 HFU HPQ
      simp only [putAll, da0Val, Nat.reduceAdd, Nat.zero_add, Act.put, List.setIfInBounds_toArray, List.set_cons_zero, List.set_cons_succ]
      go_wp2_with fail
      refine (overBytes_calls _ 64 cK _ bs w8 HP8.out.2 (by omega)).mono ?_
      rintro _ w9 ⟨rfl, hg⟩
      have HX9 := hid ((HX8.out.high (Chg.of_grown (L := [K]) hg (fun b e => by cases e; simp)) (fun b hb => by rw [List.mem_singleton.1 hb]; exact ⟨by simp, HKz.out⟩)).less (H' := []) (fun b hb => by cases hb))
      clear hg HX8 HP8
      go_wp2_with fail
      go_ret
      exact ⟨rfl, HX9.out⟩
  have q0 : (kd == 0) = false := by simp [k0]
  by_cases k1 : kd = 1
  · have q1 : (kd == 1) = true := by simp [k1]
    have HSZ := hid (show SZ = flushD s from by rw [HA.out, if_neg k0, if_pos k1])
    clear HA k0 k1
    have HK1 := hid ((HX1.out.less (H' := []) (fun b hb => by cases hb)).own (v := .int .i64 (flushE s : Int)) (s' := SZ) (fun F hd hF => by rw [HSZ.out]; exact dFlush_calls base g F s _ hd HFZ.out (by have := HLO.out; omega)))
    have HK2 := hid (fun W (h : DX w base bx g gx m [] SZ s W) => h.ref (v := .int .i64 (flushE s : Int)) (s' := SZ) (m' := m + 1) (fun F hd hF => by rw [HSZ.out]; exact rFlush_calls bx gx m F s W (by omega) hd (by have := HLO.out; omega)))
    generalize (flushE s : Int) = ez at HK1 HK2
    clear HSZ HTB HB1 HKB HKB1 HH HC1 HC2 HC3 HKN c1 c2 c3
    go_wp2_with fail
    refine HK1.out.mono ?_
    rintro _ W2 ⟨rfl, h2, -⟩
    have HK3 := hid (HK2.out _ h2)
    clear h2 HK1 HK2 HX1
    go_wp2_with fail
    refine HK3.out.mono ?_
    rintro _ W3 ⟨rfl, h3, -⟩
    have HX3 := hid h3
    clear h3 HK3
    go_wp2_with fail
    go_ret
    exact ⟨by simp, HX3.out⟩
  have q1 : (kd == 1) = false := by simp [k1]
  by_cases k2 : kd = 2
  · have q2 : (kd == 2) = true := by simp [k2]
    have HSZ := hid (show SZ = fuseS s nn from by rw [HA.out, if_neg k0, if_neg k1, if_pos k2])
    clear HA k0 k1 k2
    go_wp2_with fail
    generalize W.alloc (.cells cs 35) = W1 at c0 c1 c2 c3 HTB HB1 HX1 HKB1 ⊢
    generalize W.heap.size = T at c0 c1 c2 c3 HTB HX1 ⊢
    have HK1 := hid (fun W S2 m' (h : DX w base bx g gx m' [T] s S2 W) => h.own (v := .int .i64 (fuseE s nn : Int)) (s' := SZ) (fun F hd hF => by rw [HSZ.out]; exact dFuse_calls base g F s W nn h.bb hd))
    have HK2 := hid (fun W S1 (h : DX w base bx g gx m [T] S1 s W) => h.ref (v := .int .i64 (fuseE s nn : Int)) (s' := SZ) (m' := m + 1) (fun F hd hF => by rw [HSZ.out]; exact (rFuse_calls bx gx m F s W nn hn63 hd).mono (fun e W' hp => hp.up (by omega))))
    generalize (fuseE s nn : Int) = ez at HK1 HK2
    have HST := hid (show DwS w base bx g gx m T cs s SZ 3 7 (fun j => decide (10 ≤ j)) (fun _ => ()) W1.drew from ⟨HX1.out.keep (Below.refl _ _).drew, HTB.out.keep (Below.refl _ _).drew⟩)
    clear HSZ HTB HB1 HKB HKB1 HH HC2 HC3 HKN c0 c1 c2 c3 HX1
    refine wp_region_invG 82 () (da2Val g gx T ez nn) (DwS w base bx g gx m T cs s SZ 3 7) (by kernel_rfl) (by kernel_rfl) (by exact Nat.le_refl 82) ?_ ?_ ?_
    · exact HST.out
    · intro i o f gh a W hi hf hdep hsame hcl hval hS
      rcases i with _ | _ | _ | _ | _ | _ | _ | _ | _ | _ | i
      all_goals simp only [List.getElem?_cons_succ, List.getElem?_cons_zero, List.getElem?_nil, Option.some.injEq, reduceCtorEq] at hi
      all_goals subst hi
      · have E0 : a.tmps[0]? = some (.pointer (some ⟨g, 0, none⟩)) := (same_of hsame 0 (by rfl)).trans rfl
        refine g_plain rfl ?_
        exact does_value (w' := W) (v := .pointer (some ⟨g, 0, none⟩)) (by go_simp) ⟨(), .inr rfl, hS.step 0 (by decide) (by decide)⟩
      · have E5 : a.tmps[5]? = some (.pointer (some ⟨T, 0, none⟩)) := (same_of hsame 5 (by rfl)).trans rfl
        refine g_plain rfl ?_
        exact does_value (w' := W) (v := .pointer (some ⟨T, 1, none⟩)) (by go_simp) ⟨(), .inr rfl, hS.step 1 (by decide) (by decide)⟩
      · have E42 := hval 1 _ 42 rfl rfl (dep_of hdep 1 (by rfl))
        unfold da2Val at E42
        have c1 := hS.tb.cell 1 HC1.out
        refine g_plain rfl ?_
        exact does_value (w' := W) (v := .int .i64 nn) (by go_simp) ⟨(), .inr rfl, hS.step 2 (by decide) (by decide)⟩
      · have E41 := hval 0 _ 41 rfl rfl (dep_of hdep 0 (by rfl))
        have E43 := hval 2 _ 43 rfl rfl (dep_of hdep 2 (by rfl))
        unfold da2Val at E41 E43
        refine g_plain rfl ?_
        refine does_call 27 #[.pointer (some ⟨g, 0, none⟩), .int .i64 nn] (by go_simp) ((HK1.out W _ _ (hS.pre1 hf)).mono ?_)
        rintro _ W' ⟨rfl, hp, hh⟩
        exact ⟨_, rfl, (), .inr rfl, hS.s1 hp hh (by decide)⟩
      · have E1 : a.tmps[1]? = some (.pointer (some ⟨gx, 0, none⟩)) := (same_of hsame 1 (by rfl)).trans rfl
        refine g_plain rfl ?_
        exact does_value (w' := W) (v := .pointer (some ⟨gx, 0, none⟩)) (by go_simp) ⟨(), .inr rfl, hS.step 4 (by decide) (by decide)⟩
      · have E5 : a.tmps[5]? = some (.pointer (some ⟨T, 0, none⟩)) := (same_of hsame 5 (by rfl)).trans rfl
        refine g_plain rfl ?_
        exact does_value (w' := W) (v := .pointer (some ⟨T, 1, none⟩)) (by go_simp) ⟨(), .inr rfl, hS.step 5 (by decide) (by decide)⟩
      · have E46 := hval 5 _ 46 rfl rfl (dep_of hdep 5 (by rfl))
        unfold da2Val at E46
        have c1 := hS.tb.cell 1 HC1.out
        refine g_plain rfl ?_
        exact does_value (w' := W) (v := .int .i64 nn) (by go_simp) ⟨(), .inr rfl, hS.step 6 (by decide) (by decide)⟩
      · have E45 := hval 4 _ 45 rfl rfl (dep_of hdep 4 (by rfl))
        have E47 := hval 6 _ 47 rfl rfl (dep_of hdep 6 (by rfl))
        unfold da2Val at E45 E47
        refine g_plain rfl ?_
        refine does_call 39 #[.pointer (some ⟨gx, 0, none⟩), .int .i64 nn] (by go_simp) ((HK2.out W _ (hS.pre2 hf)).mono ?_)
        rintro _ W' ⟨rfl, hp, hh⟩
        exact ⟨_, rfl, (), .inr rfl, hS.s2 hp hh (by decide)⟩
      · have E44 := hval 3 _ 44 rfl rfl (dep_of hdep 3 (by rfl))
        have E48 := hval 7 _ 48 rfl rfl (dep_of hdep 7 (by rfl))
        unfold da2Val at E44 E48
        refine g_plain rfl ?_
        exact does_value (w' := W) (v := .bool true) (by go_simp) ⟨(), .inr rfl, hS.step 8 (by decide) (by decide)⟩
      · have E49 := hval 8 _ 49 rfl rfl (dep_of hdep 8 (by rfl))
        unfold da2Val at E49
        refine g_plain rfl ?_
        exact does_value (w' := W) (v := .bool true) (by go_simp) ⟨(), .inr rfl, hS.step 9 (by decide) (by decide)⟩
    · intro gh w8 hS
      have HX8 := hid ((hS.fin rfl rfl).less (H' := []) (fun b hb => by cases hb))
      clear hS HST HK1 HK2
      simp only [putAll, da2Val, Nat.reduceAdd, Nat.zero_add, Act.put, List.setIfInBounds_toArray, List.set_cons_zero, List.set_cons_succ]
      go_wp2_with fail
      go_ret
      exact ⟨rfl, HX8.out⟩
  have q2 : (kd == 2) = false := by simp [k2]
  by_cases k3 : kd = 3
  · have q3 : (kd == 3) = true := by simp [k3]
    have HSZ := hid (show SZ = crashD s keep nn from by rw [HA.out, if_neg k0, if_neg k1, if_neg k2, if_pos k3])
    clear HA k0 k1 k2 k3
    go_wp2_with fail
    generalize W.alloc (.cells cs 35) = W1 at c0 c1 c2 c3 HTB HB1 HX1 HKB1 ⊢
    generalize W.heap.size = T at c0 c1 c2 c3 HTB HX1 ⊢
    have HKW := hid (fun W1 S1 S2 m' (h : DX w base bx g gx m' [T] S1 S2 W1) => (show KB W1 AA keep.length keep from HKW0.out W1 h.bel))
    have HK1 := hid (fun W S2 m' (h : DX w base bx g gx m' [T] s S2 W) => h.own (v := .int .i64 (crashE nn : Int)) (s' := SZ) (fun F hd hF => by rw [HSZ.out]; exact dCrash_calls base g F s W keep.length cc AA keep nn hd (by have := HLO.out; omega) (HKW.out W s S2 m' h) (fun hp b off e hb => by have := HKN.out hp b off e; have := (hd.lt b hb).1; have := h.hb; omega) (by omega)))
    have HK2 := hid (fun W S1 (h : DX w base bx g gx m [T] S1 s W) => h.ref (v := .int .i64 (crashE nn : Int)) (s' := SZ) (m' := m + 1) (fun F hd hF => by rw [HSZ.out]; exact (rCrash_calls bx gx m F s W keep.length cc AA keep nn hd (by have := HLO.out; omega) (HKW.out W S1 s m h) (fun hp b off e hb => by have := HKN.out hp b off e; have := (hd.lt b hb).1; have := h.hx; omega) (by omega)).mono (fun e W' hp => hp.up (by omega))))
    generalize (crashE nn : Int) = ez at HK1 HK2
    have HST := hid (show DwS w base bx g gx m T cs s SZ 5 11 (fun j => decide (14 ≤ j)) (fun _ => ()) W1.drew from ⟨HX1.out.keep (Below.refl _ _).drew, HTB.out.keep (Below.refl _ _).drew⟩)
    clear HSZ HTB HB1 HKB HKB1 HH HC2 HKW c0 c1 c2 c3 HX1
    generalize keep.length = kl at HK1 HK2 HC3 ⊢
    refine wp_region_invG 82 () (da3Val g gx T ez nn AA kl cc) (DwS w base bx g gx m T cs s SZ 5 11) (by kernel_rfl) (by kernel_rfl) (by exact Nat.le_refl 82) ?_ ?_ ?_
    · exact HST.out
    · intro i o f gh a W hi hf hdep hsame hcl hval hS
      rcases i with _ | _ | _ | _ | _ | _ | _ | _ | _ | _ | _ | _ | _ | _ | i
      all_goals simp only [List.getElem?_cons_succ, List.getElem?_cons_zero, List.getElem?_nil, Option.some.injEq, reduceCtorEq] at hi
      all_goals subst hi
      · have E0 : a.tmps[0]? = some (.pointer (some ⟨g, 0, none⟩)) := (same_of hsame 0 (by rfl)).trans rfl
        refine g_plain rfl ?_
        exact does_value (w' := W) (v := .pointer (some ⟨g, 0, none⟩)) (by go_simp) ⟨(), .inr rfl, hS.step 0 (by decide) (by decide)⟩
      · have E5 : a.tmps[5]? = some (.pointer (some ⟨T, 0, none⟩)) := (same_of hsame 5 (by rfl)).trans rfl
        refine g_plain rfl ?_
        exact does_value (w' := W) (v := .pointer (some ⟨T, 3, none⟩)) (by go_simp) ⟨(), .inr rfl, hS.step 1 (by decide) (by decide)⟩
      · have E53 := hval 1 _ 53 rfl rfl (dep_of hdep 1 (by rfl))
        unfold da3Val at E53
        have c1 := hS.tb.cell 3 HC3.out
        refine g_plain rfl ?_
        exact does_value (w' := W) (v := .slice AA kl cc) (by go_simp) ⟨(), .inr rfl, hS.step 2 (by decide) (by decide)⟩
      · have E5 : a.tmps[5]? = some (.pointer (some ⟨T, 0, none⟩)) := (same_of hsame 5 (by rfl)).trans rfl
        refine g_plain rfl ?_
        exact does_value (w' := W) (v := .pointer (some ⟨T, 1, none⟩)) (by go_simp) ⟨(), .inr rfl, hS.step 3 (by decide) (by decide)⟩
      · have E55 := hval 3 _ 55 rfl rfl (dep_of hdep 3 (by rfl))
        unfold da3Val at E55
        have c1 := hS.tb.cell 1 HC1.out
        refine g_plain rfl ?_
        exact does_value (w' := W) (v := .int .i64 nn) (by go_simp) ⟨(), .inr rfl, hS.step 4 (by decide) (by decide)⟩
      · have E52 := hval 0 _ 52 rfl rfl (dep_of hdep 0 (by rfl))
        have E54 := hval 2 _ 54 rfl rfl (dep_of hdep 2 (by rfl))
        have E56 := hval 4 _ 56 rfl rfl (dep_of hdep 4 (by rfl))
        unfold da3Val at E52 E54 E56
        refine g_plain rfl ?_
        refine does_call 28 #[.pointer (some ⟨g, 0, none⟩), .slice AA kl cc, .int .i64 nn] (by go_simp) ((HK1.out W _ _ (hS.pre1 hf)).mono ?_)
        rintro _ W' ⟨rfl, hp, hh⟩
        exact ⟨_, rfl, (), .inr rfl, hS.s1 hp hh (by decide)⟩
      · have E1 : a.tmps[1]? = some (.pointer (some ⟨gx, 0, none⟩)) := (same_of hsame 1 (by rfl)).trans rfl
        refine g_plain rfl ?_
        exact does_value (w' := W) (v := .pointer (some ⟨gx, 0, none⟩)) (by go_simp) ⟨(), .inr rfl, hS.step 6 (by decide) (by decide)⟩
      · have E5 : a.tmps[5]? = some (.pointer (some ⟨T, 0, none⟩)) := (same_of hsame 5 (by rfl)).trans rfl
        refine g_plain rfl ?_
        exact does_value (w' := W) (v := .pointer (some ⟨T, 3, none⟩)) (by go_simp) ⟨(), .inr rfl, hS.step 7 (by decide) (by decide)⟩
      · have E59 := hval 7 _ 59 rfl rfl (dep_of hdep 7 (by rfl))
        unfold da3Val at E59
        have c1 := hS.tb.cell 3 HC3.out
        refine g_plain rfl ?_
        exact does_value (w' := W) (v := .slice AA kl cc) (by go_simp) ⟨(), .inr rfl, hS.step 8 (by decide) (by decide)⟩
      · have E5 : a.tmps[5]? = some (.pointer (some ⟨T, 0, none⟩)) := (same_of hsame 5 (by rfl)).trans rfl
        refine g_plain rfl ?_
        exact does_value (w' := W) (v := .pointer (some ⟨T, 1, none⟩)) (by go_simp) ⟨(), .inr rfl, hS.step 9 (by decide) (by decide)⟩
      · have E61 := hval 9 _ 61 rfl rfl (dep_of hdep 9 (by rfl))
        unfold da3Val at E61
        have c1 := hS.tb.cell 1 HC1.out
        refine g_plain rfl ?_
        exact does_value (w' := W) (v := .int .i64 nn) (by go_simp) ⟨(), .inr rfl, hS.step 10 (by decide) (by decide)⟩
      · have E58 := hval 6 _ 58 rfl rfl (dep_of hdep 6 (by rfl))
        have E60 := hval 8 _ 60 rfl rfl (dep_of hdep 8 (by rfl))
        have E62 := hval 10 _ 62 rfl rfl (dep_of hdep 10 (by rfl))
        unfold da3Val at E58 E60 E62
        refine g_plain rfl ?_
        refine does_call 40 #[.pointer (some ⟨gx, 0, none⟩), .slice AA kl cc, .int .i64 nn] (by go_simp) ((HK2.out W _ (hS.pre2 hf)).mono ?_)
        rintro _ W' ⟨rfl, hp, hh⟩
        exact ⟨_, rfl, (), .inr rfl, hS.s2 hp hh (by decide)⟩
      · have E57 := hval 5 _ 57 rfl rfl (dep_of hdep 5 (by rfl))
        have E63 := hval 11 _ 63 rfl rfl (dep_of hdep 11 (by rfl))
        unfold da3Val at E57 E63
        refine g_plain rfl ?_
        exact does_value (w' := W) (v := .bool true) (by go_simp) ⟨(), .inr rfl, hS.step 12 (by decide) (by decide)⟩
      · have E64 := hval 12 _ 64 rfl rfl (dep_of hdep 12 (by rfl))
        unfold da3Val at E64
        refine g_plain rfl ?_
        exact does_value (w' := W) (v := .bool true) (by go_simp) ⟨(), .inr rfl, hS.step 13 (by decide) (by decide)⟩
    · intro gh w8 hS
      have HX8 := hid ((hS.fin rfl rfl).less (H' := []) (fun b hb => by cases hb))
      clear hS HST HK1 HK2
      simp only [putAll, da3Val, Nat.reduceAdd, Nat.zero_add, Act.put, List.setIfInBounds_toArray, List.set_cons_zero, List.set_cons_succ]
      go_wp2_with fail
      go_ret
      exact ⟨rfl, HX8.out⟩
  have q3 : (kd == 3) = false := by simp [k3]
  by_cases k4 : kd = 4
  · have q4 : (kd == 4) = true := by simp [k4]
    have HSZ := hid (show SZ = writeS s nn (List.replicate bb.toNat 0) from by rw [HA.out, if_neg k0, if_neg k1, if_neg k2, if_neg k3, if_pos k4])
    clear HA k0 k1 k2 k3 k4
    go_wp2_with fail
    generalize W.alloc (.cells cs 35) = W1 at c0 c1 c2 c3 HTB HB1 HX1 HKB1 ⊢
    generalize W.heap.size = T at c0 c1 c2 c3 HTB HX1 ⊢
    have HMK := hid (fun W => run_mkb bb W)
    have HK1 := hid (fun W S2 m' H A5 c5 (h : DX w base bx g gx m' H s S2 W) (hs : SB W W.heap.size A5 (List.replicate bb.toNat (0 : UInt8)).length (List.replicate bb.toNat 0)) (hm : ∀ b off, A5 = some ⟨b, off, none⟩ → b ∈ H) => h.own (v := .int .i64 (writeE s nn (List.replicate bb.toNat (0 : UInt8)).length : Int)) (s' := SZ) (args := #[.pointer (some ⟨g, 0, none⟩), .int .i64 nn, .slice A5 (List.replicate bb.toNat (0 : UInt8)).length c5]) (fun F hd hF => by rw [HSZ.out]; exact dWrite_calls base g F s W nn _ _ c5 A5 _ hd h.bb HFZ.out (by have := HLO.out; omega) hs (fun b off e => hF b (hm b off e))))
    have HK2 := hid (fun W S1 H A5 c5 (h : DX w base bx g gx m H S1 s W) (hs : SB W W.heap.size A5 (List.replicate bb.toNat (0 : UInt8)).length (List.replicate bb.toNat 0)) (hm : ∀ b off, A5 = some ⟨b, off, none⟩ → b ∈ H) => h.ref (v := .int .i64 (writeE s nn (List.replicate bb.toNat (0 : UInt8)).length : Int)) (s' := SZ) (m' := m + 1) (args := #[.pointer (some ⟨gx, 0, none⟩), .int .i64 nn, .slice A5 (List.replicate bb.toNat (0 : UInt8)).length c5]) (fun F hd hF => by rw [HSZ.out]; exact rWrite_calls bx gx m F s W nn _ _ c5 A5 _ (by omega) hd h.bxb (by have := HLO.out; omega) hs (fun b off e => hF b (hm b off e))))
    generalize hbs : List.replicate bb.toNat (0 : UInt8) = bs at HMK HK1 HK2
    generalize (writeE s nn bs.length : Int) = ez at HK1 HK2
    have HST := hid (D2S.start (SN := SZ) (bs := bs) (i5 := 5) (i6 := 6) (i12 := 12) (i13 := 13) (n := 16) (PP := fun W => Blk W T 35 cs) (fun X Y hh hp => hh.blk hp (by simp)) HX1.out HTB.out (.inl (by decide)) (by decide) (by decide) (by decide))
    clear hbs HSZ HTB HX1 HB1 HKB HKB1 HH HC3 HKN c0 c1 c2 c3 HLO HFZ
    refine wp_region_invG 82 (.pointer none) (da4Val g gx T ez nn bb) (D2S w base bx g gx m [T] (fun W => Blk W T 35 cs) s SZ bs 5 6 12 13) (by kernel_rfl) (by kernel_rfl) (by exact Nat.le_refl 82) ?_ ?_ ?_
    · exact HST.out
    · intro i o f gh a W hi hf hdep hsame hcl hval hS
      rcases i with _ | _ | _ | _ | _ | _ | _ | _ | _ | _ | _ | _ | _ | _ | _ | _ | i
      all_goals simp only [List.getElem?_cons_succ, List.getElem?_cons_zero, List.getElem?_nil, Option.some.injEq, reduceCtorEq] at hi
      all_goals subst hi
      · have E0 : a.tmps[0]? = some (.pointer (some ⟨g, 0, none⟩)) := (same_of hsame 0 (by rfl)).trans rfl
        refine g_plain rfl ?_
        exact does_value (w' := W) (v := .pointer (some ⟨g, 0, none⟩)) (by go_simp) ⟨.pointer none, .inr rfl, hS.step 0 (.pointer none) (by decide) (by decide) (by decide) (by decide)⟩
      · have E5 : a.tmps[5]? = some (.pointer (some ⟨T, 0, none⟩)) := (same_of hsame 5 (by rfl)).trans rfl
        refine g_plain rfl ?_
        exact does_value (w' := W) (v := .pointer (some ⟨T, 1, none⟩)) (by go_simp) ⟨.pointer none, .inr rfl, hS.step 1 (.pointer none) (by decide) (by decide) (by decide) (by decide)⟩
      · have E68 := hval 1 _ 68 rfl rfl (dep_of hdep 1 (by rfl))
        unfold da4Val at E68
        have c1 := hS.pp.cell 1 HC1.out
        refine g_plain rfl ?_
        exact does_value (w' := W) (v := .int .i64 nn) (by go_simp) ⟨.pointer none, .inr rfl, hS.step 2 (.pointer none) (by decide) (by decide) (by decide) (by decide)⟩
      · have E5 : a.tmps[5]? = some (.pointer (some ⟨T, 0, none⟩)) := (same_of hsame 5 (by rfl)).trans rfl
        refine g_plain rfl ?_
        exact does_value (w' := W) (v := .pointer (some ⟨T, 2, none⟩)) (by go_simp) ⟨.pointer none, .inr rfl, hS.step 3 (.pointer none) (by decide) (by decide) (by decide) (by decide)⟩
      · have E70 := hval 3 _ 70 rfl rfl (dep_of hdep 3 (by rfl))
        unfold da4Val at E70
        have c1 := hS.pp.cell 2 HC2.out
        refine g_plain rfl ?_
        exact does_value (w' := W) (v := .int .u8 (bb.toNat : Int)) (by go_simp) ⟨.pointer none, .inr rfl, hS.step 4 (.pointer none) (by decide) (by decide) (by decide) (by decide)⟩
      · have E71 := hval 4 _ 71 rfl rfl (dep_of hdep 4 (by rfl))
        unfold da4Val at E71
        refine g_plain rfl ?_
        have n6 := not_yet hcl hf 6 (by rfl)
        obtain ⟨W', hr, ho, hB⟩ := HMK.out W
        exact does_mkx _ _ _ rfl (by rw [eval_getD, E71]; rfl) (by rw [eval_getD, E71]; rfl) hr ⟨_, .inr rfl, hS.s5 hf n6 (by decide) (by decide) (by decide) ho hB⟩
      · have E67 := hval 0 _ 67 rfl rfl (dep_of hdep 0 (by rfl))
        have E69 := hval 2 _ 69 rfl rfl (dep_of hdep 2 (by rfl))
        have E72 := hval 5 _ 72 rfl rfl (dep_of hdep 5 (by rfl))
        unfold da4Val at E67 E69 E72
        refine g_plain rfl ?_
        have ho := hS.o5 (by decide) (dep_of hdep 5 (by rfl)) hf
        obtain ⟨A7, c7, ev7, -, sb7, -⟩ := ho.sb
        rw [ev7] at E72
        refine does_call 25 #[.pointer (some ⟨g, 0, none⟩), .int .i64 nn, .slice A7 bs.length c7] (by go_simp) ((HK1.out W _ _ _ A7 c7 (hS.pre6 hf) sb7 (fun b off e => by rw [if_pos (c := f 5 = true ∧ f 6 = false) ⟨dep_of hdep 5 (by rfl), hf⟩, ev7, e]; simp [Value.ownBlock])).mono ?_)
        rintro _ W' ⟨rfl, hp, hh⟩
        exact ⟨_, rfl, .pointer none, .inr rfl, hS.s6 (by decide) (by decide) (by decide) hp hh⟩
      · have E1 : a.tmps[1]? = some (.pointer (some ⟨gx, 0, none⟩)) := (same_of hsame 1 (by rfl)).trans rfl
        refine g_plain rfl ?_
        exact does_value (w' := W) (v := .pointer (some ⟨gx, 0, none⟩)) (by go_simp) ⟨.pointer none, .inr rfl, hS.step 7 (.pointer none) (by decide) (by decide) (by decide) (by decide)⟩
      · have E5 : a.tmps[5]? = some (.pointer (some ⟨T, 0, none⟩)) := (same_of hsame 5 (by rfl)).trans rfl
        refine g_plain rfl ?_
        exact does_value (w' := W) (v := .pointer (some ⟨T, 1, none⟩)) (by go_simp) ⟨.pointer none, .inr rfl, hS.step 8 (.pointer none) (by decide) (by decide) (by decide) (by decide)⟩
      · have E75 := hval 8 _ 75 rfl rfl (dep_of hdep 8 (by rfl))
        unfold da4Val at E75
        have c1 := hS.pp.cell 1 HC1.out
        refine g_plain rfl ?_
        exact does_value (w' := W) (v := .int .i64 nn) (by go_simp) ⟨.pointer none, .inr rfl, hS.step 9 (.pointer none) (by decide) (by decide) (by decide) (by decide)⟩
      · have E5 : a.tmps[5]? = some (.pointer (some ⟨T, 0, none⟩)) := (same_of hsame 5 (by rfl)).trans rfl
        refine g_plain rfl ?_
        exact does_value (w' := W) (v := .pointer (some ⟨T, 2, none⟩)) (by go_simp) ⟨.pointer none, .inr rfl, hS.step 10 (.pointer none) (by decide) (by decide) (by decide) (by decide)⟩
      · have E77 := hval 10 _ 77 rfl rfl (dep_of hdep 10 (by rfl))
        unfold da4Val at E77
        have c1 := hS.pp.cell 2 HC2.out
        refine g_plain rfl ?_
        exact does_value (w' := W) (v := .int .u8 (bb.toNat : Int)) (by go_simp) ⟨.pointer none, .inr rfl, hS.step 11 (.pointer none) (by decide) (by decide) (by decide) (by decide)⟩
      · have E78 := hval 11 _ 78 rfl rfl (dep_of hdep 11 (by rfl))
        unfold da4Val at E78
        refine g_plain rfl ?_
        have n13 := not_yet hcl hf 13 (by rfl)
        obtain ⟨W', hr, ho, hB⟩ := HMK.out W
        exact does_mkx _ _ _ rfl (by rw [eval_getD, E78]; rfl) (by rw [eval_getD, E78]; rfl) hr ⟨_, .inr rfl, hS.s12 hf n13 (by decide) (by decide) (by decide) ho hB⟩
      · have E74 := hval 7 _ 74 rfl rfl (dep_of hdep 7 (by rfl))
        have E76 := hval 9 _ 76 rfl rfl (dep_of hdep 9 (by rfl))
        have E79 := hval 12 _ 79 rfl rfl (dep_of hdep 12 (by rfl))
        unfold da4Val at E74 E76 E79
        refine g_plain rfl ?_
        have ho := hS.o12 (dep_of hdep 12 (by rfl)) hf
        obtain ⟨A7, c7, ev7, -, sb7, -⟩ := ho.sb
        rw [ev7] at E79
        refine does_call 37 #[.pointer (some ⟨gx, 0, none⟩), .int .i64 nn, .slice A7 bs.length c7] (by go_simp) ((HK2.out W _ _ A7 c7 (hS.pre13 hf) sb7 (fun b off e => by rw [if_pos (c := f 12 = true ∧ f 13 = false) ⟨dep_of hdep 12 (by rfl), hf⟩, ev7, e]; simp [Value.ownBlock])).mono ?_)
        rintro _ W' ⟨rfl, hp, hh⟩
        exact ⟨_, rfl, .pointer none, .inr rfl, hS.s13 (by decide) (by decide) (by decide) hp hh⟩
      · have E73 := hval 6 _ 73 rfl rfl (dep_of hdep 6 (by rfl))
        have E80 := hval 13 _ 80 rfl rfl (dep_of hdep 13 (by rfl))
        unfold da4Val at E73 E80
        refine g_plain rfl ?_
        exact does_value (w' := W) (v := .bool true) (by go_simp) ⟨.pointer none, .inr rfl, hS.step 14 (.pointer none) (by decide) (by decide) (by decide) (by decide)⟩
      · have E81 := hval 14 _ 81 rfl rfl (dep_of hdep 14 (by rfl))
        unfold da4Val at E81
        refine g_plain rfl ?_
        exact does_value (w' := W) (v := .bool true) (by go_simp) ⟨.pointer none, .inr rfl, hS.step 15 (.pointer none) (by decide) (by decide) (by decide) (by decide)⟩
    · intro gh w8 hS
      have HX8 := hid ((hS.fin rfl rfl).less (H' := []) (fun b hb => by cases hb))
      clear hS HST HK1 HK2 HMK
      simp only [putAll, da4Val, Nat.reduceAdd, Nat.zero_add, Act.put, List.setIfInBounds_toArray, List.set_cons_zero, List.set_cons_succ]
      go_wp2_with fail
      go_ret
      exact ⟨rfl, HX8.out⟩
  have q4 : (kd == 4) = false := by simp [k4]
  have HSZ := hid (show SZ = s from by rw [HA.out, if_neg k0, if_neg k1, if_neg k2, if_neg k3, if_neg k4])
  rw [HSZ.out]
  have HX3 := hid (HX1.out.less (H' := []) (fun b hb => by cases hb))
  clear HA k0 k1 k2 k3 k4 HSZ HTB HB1 HKB HKB1 HH HC1 HC2 HC3 HKN c1 c2 c3 HX1
  go_wp2_with fail
  go_ret
  refine ⟨rfl, ?_⟩
  obtain ⟨⟨F, Fx, h1, h2, h3⟩, h4, h5, h6, h7, h8⟩ := HX3.out
  exact ⟨⟨F, Fx, h1, h2.up (by omega), h3⟩, h4, h5, h6, h7, h8⟩
end
end Go.Proofs.Ytoajnabdflikfaa
