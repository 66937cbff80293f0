/- Contract of clouds: the iterator that merges two lists of dots. Written by tools/mkoc8.py. -/
import Derived.Shelf.Abstract
import Derived.WalkKit
import Derived.OwnWalkIn
import Derived.TacticsInMore
import Derived.LoopNIn
import Derived.LoopIn
import Derived.Test.YthjflgnoeenenaaOcEach
namespace Go.Proofs.Ythjflgnoeenenaa
open Go Go.RowKit Go.Shelf Cl
attribute [local go_sem] Oper.semAt_some vc_mkf

theorem info_sides : (Try.prog.info? 80).map (fun i => (i.zero, i.size)) = some (some (.agg #[.bool false, .bool false]), 2) := by kernel_rfl
def mEnc (it : Mi) : Array Value := #[dvv it.1, .agg #[.bool it.2.1, .bool it.2.2]]
def dcell (d : Dt) : Array Value := #[.int .i64 d.1, .int .i64 d.2]
def srcV (x : Nat) : Value := .func (.func 81) #[] #[.pointer (some ⟨x, 0, none⟩)]
theorem oc_wide {n : Nat} : Fence.wide.depth.isSome = true → 1 ≤ n := fun h => (by simp [Fence.wide] at h)
/-- what the iterator's call was handed: boxes q1, q2 of two iterators with boxes xa, xb over lists whose cells lie in Aa, Ab -/
structure MgP (base q1 q2 xa xb : Nat) (Aa Ab : Nat → Prop) (m : Nat) : Prop where
  ne : xa ≠ xb
  b1 : base ≤ xa
  b2 : base ≤ xb
  b3 : base ≤ m
  lq1 : q1 < m ∧ q1 ≠ xa ∧ q1 ≠ xb
  lq2 : q2 < m ∧ q2 ≠ xa ∧ q2 ≠ xb
  lxa : xa < m
  lxb : xb < m
  aa : ∀ b, Aa b → b < m ∧ b ≠ xa ∧ b ≠ xb
  ab : ∀ b, Ab b → b < m ∧ b ≠ xa ∧ b ≠ xb
theorem MgP.mono {base q1 q2 xa xb : Nat} {Aa Ab : Nat → Prop} {m m' : Nat} (h : MgP base q1 q2 xa xb Aa Ab m) (hm : m ≤ m') : MgP base q1 q2 xa xb Aa Ab m' :=
  ⟨h.ne, h.b1, h.b2, Nat.le_trans h.b3 hm, ⟨Nat.lt_of_lt_of_le h.lq1.1 hm, h.lq1.2⟩, ⟨Nat.lt_of_lt_of_le h.lq2.1 hm, h.lq2.2⟩, Nat.lt_of_lt_of_le h.lxa hm, Nat.lt_of_lt_of_le h.lxb hm, fun b hb => ⟨Nat.lt_of_lt_of_le (h.aa b hb).1 hm, (h.aa b hb).2⟩, fun b hb => ⟨Nat.lt_of_lt_of_le (h.ab b hb).1 hm, (h.ab b hb).2⟩⟩
def mgG (q1 q2 xa xb : Nat) (Aa Ab : Nat → Prop) (b : Nat) : Prop := b = q1 ∨ b = q2 ∨ b = xa ∨ b = xb ∨ Aa b ∨ Ab b
/-- the iterators' part of a world -/
structure MgW (q1 q2 xa xb : Nat) (Aa Ab : Nat → Prop) (la lb : List Dt) (W : World) : Prop where
  q1 : Blk W q1 77 #[srcV xa]
  q2 : Blk W q2 77 #[srcV xb]
  ea : EaB W xa Aa la
  eb : EaB W xb Ab lb
section
variable {base q1 q2 xa xb : Nat} {Aa Ab : Nat → Prop} {la lb : List Dt} {W W' : World}
theorem MgW.keep (h : MgW q1 q2 xa xb Aa Ab la lb W) (hg : ∀ b, mgG q1 q2 xa xb Aa Ab b → W'.heap[b]? = W.heap[b]?) : MgW q1 q2 xa xb Aa Ab la lb W' where
  q1 := (hg _ (.inl rfl)).trans h.q1
  q2 := (hg _ (.inr (.inl rfl))).trans h.q2
  ea := h.ea.keep (hg _ (.inr (.inr (.inl rfl)))) (fun b hb => hg b (.inr (.inr (.inr (.inr (.inl hb))))))
  eb := h.eb.keep (hg _ (.inr (.inr (.inr (.inl rfl))))) (fun b hb => hg b (.inr (.inr (.inr (.inr (.inr hb))))))
theorem mg_low {m : Nat} (p : MgP base q1 q2 xa xb Aa Ab m) {b : Nat} (h : mgG q1 q2 xa xb Aa Ab b) : b < m := by
  rcases h with rfl | rfl | rfl | rfl | h | h
  · exact p.lq1.1
  · exact p.lq2.1
  · exact p.lxa
  · exact p.lxb
  · exact (p.aa b h).1
  · exact (p.ab b h).1
theorem MgW.below {m : Nat} (h : MgW q1 q2 xa xb Aa Ab la lb W) (p : MgP base q1 q2 xa xb Aa Ab m) (hb : Below m W W') : MgW q1 q2 xa xb Aa Ab la lb W' := h.keep fun b hg => hb.block b (mg_low p hg)
theorem MgW.takeA {m : Nat} {la2 : List Dt} (h : MgW q1 q2 xa xb Aa Ab la lb W) (p : MgP base q1 q2 xa xb Aa Ab m) (hm : m ≤ W.heap.size) (hg : W.grownBy W' (some xa)) (he : EaB W' xa Aa la2) : MgW q1 q2 xa xb Aa Ab la2 lb W' := by
  have hk : ∀ b, b < m → b ≠ xa → W'.heap[b]? = W.heap[b]? := fun b h1 h2 => hg.block b (by omega) (fun e => h2 (by injection e))
  exact { q1 := (hk _ p.lq1.1 p.lq1.2.1).trans h.q1, q2 := (hk _ p.lq2.1 p.lq2.2.1).trans h.q2, ea := he, eb := h.eb.keep (hk _ p.lxb (fun e => p.ne e.symm)) (fun b hb => hk b (p.ab b hb).1 (p.ab b hb).2.1) }
theorem MgW.takeB {m : Nat} {lb2 : List Dt} (h : MgW q1 q2 xa xb Aa Ab la lb W) (p : MgP base q1 q2 xa xb Aa Ab m) (hm : m ≤ W.heap.size) (hg : W.grownBy W' (some xb)) (he : EaB W' xb Ab lb2) : MgW q1 q2 xa xb Aa Ab la lb2 W' := by
  have hk : ∀ b, b < m → b ≠ xb → W'.heap[b]? = W.heap[b]? := fun b h1 h2 => hg.block b (by omega) (fun e => h2 (by injection e))
  exact { q1 := (hk _ p.lq1.1 p.lq1.2.2).trans h.q1, q2 := (hk _ p.lq2.1 p.lq2.2.2).trans h.q2, eb := he, ea := h.ea.keep (hk _ p.lxa p.ne) (fun b hb => hk b (p.aa b hb).1 (p.aa b hb).2.2) }
end
def b2d (b : Bool) (l : List Dt) : List Dt := if b then l.tail else l
/-- the start: both iterators are asked once, both dots are laid -/
structure Mg0 (base q1 q2 xa xb : Nat) (Aa Ab : Nat → Prop) (la lb : List Dt) (C : Nat → Prop) (W0 : World) (f : Nat → Bool) (gh : Nat → Value) (W : World) : Prop where
  mv : MvC base C W0 W
  mw : MgW q1 q2 xa xb Aa Ab (b2d (f 1) la) (b2d (f 3) lb) W
  px : f 4 = true → ∃ p, gh 4 = .pointer (some ⟨p, 0, none⟩) ∧ W0.heap.size ≤ p ∧ Blk W p 27 (if f 6 then dcell (la.headD endD) else dcell (0, 0))
  py : f 5 = true → ∃ p, gh 5 = .pointer (some ⟨p, 0, none⟩) ∧ W0.heap.size ≤ p ∧ Blk W p 27 (if f 7 then dcell (lb.headD endD) else dcell (0, 0))
  ne : f 4 = true → f 5 = true → gh 4 ≠ gh 5
section
variable {base q1 q2 xa xb : Nat} {Aa Ab : Nat → Prop} {la lb : List Dt} {C : Nat → Prop} {W0 W W' : World} {f : Nat → Bool} {gh : Nat → Value}
theorem Mg0.start (h : MgW q1 q2 xa xb Aa Ab la lb W0) (gh : Nat → Value) : Mg0 base q1 q2 xa xb Aa Ab la lb C W0 (fun j => decide (8 ≤ j)) gh W0.drew where
  mv := MvC.of_below (Below.refl _ _).drew
  mw := h.keep fun _ _ => rfl
  px := fun e => by simp at e
  py := fun e => by simp at e
  ne := fun e => by simp at e
theorem Mg0.same (h : Mg0 base q1 q2 xa xb Aa Ab la lb C W0 f gh W) (i : Nat) (v : Value) (n1 : 1 ≠ i) (n3 : 3 ≠ i) (n4 : 4 ≠ i) (n5 : 5 ≠ i) (n6 : 6 ≠ i) (n7 : 7 ≠ i) : Mg0 base q1 q2 xa xb Aa Ab la lb C W0 (upd f i) (updN gh i v) W where
  mv := h.mv
  mw := by rw [un_ne n1, un_ne n3]; exact h.mw
  px := fun e => by rw [un_ne n4] at e; rw [unN_ne n4, un_ne n6]; exact h.px e
  py := fun e => by rw [un_ne n5] at e; rw [unN_ne n5, un_ne n7]; exact h.py e
  ne := fun e e2 => by rw [un_ne n4] at e; rw [un_ne n5] at e2; rw [unN_ne n4, unN_ne n5]; exact h.ne e e2
theorem Mg0.blkP {p : Nat} {cs : Array Value} (hk : Blk W p 27 cs) {x : Nat} (hg : W.grownBy W' (some x)) (hx : x ≠ p) : Blk W' p 27 cs := hk.grown hg (fun e => hx (by injection e))
theorem Mg0.callA {m : Nat} (h : Mg0 base q1 q2 xa xb Aa Ab la lb C W0 f gh W) (p : MgP base q1 q2 xa xb Aa Ab m) (hm : m ≤ W0.heap.size) (hc : ∀ b, C b → ¬ mgG q1 q2 xa xb Aa Ab b) (hf : f 1 = false) (v : Value) (hg : W.grownBy W' (some xa)) (he : EaB W' xa Aa la.tail) : Mg0 base q1 q2 xa xb Aa Ab la lb C W0 (upd f 1) (updN gh 1 v) W' := by
  have hmw := h.mw
  rw [hf] at hmw
  have hsz := h.mv.size
  exact {
    mv := h.mv.trans (MvC.of_grown hg (fun g e => by cases e; exact ⟨fun k => hc _ k (.inr (.inr (.inl rfl))), p.b1⟩))
    mw := by rw [un_eq, un_ne (by decide)]; exact hmw.takeA p (by omega) hg he
    px := fun e => by
      rw [un_ne (by decide)] at e
      rw [unN_ne (by decide), un_ne (by decide)]
      obtain ⟨q, e1, e2, e3⟩ := h.px e
      exact ⟨q, e1, e2, Mg0.blkP e3 hg (by have := p.lxa; omega)⟩
    py := fun e => by
      rw [un_ne (by decide)] at e
      rw [unN_ne (by decide), un_ne (by decide)]
      obtain ⟨q, e1, e2, e3⟩ := h.py e
      exact ⟨q, e1, e2, Mg0.blkP e3 hg (by have := p.lxa; omega)⟩
    ne := fun e e2 => by rw [un_ne (by decide)] at e e2; rw [unN_ne (by decide), unN_ne (by decide)]; exact h.ne e e2 }
theorem Mg0.callB {m : Nat} (h : Mg0 base q1 q2 xa xb Aa Ab la lb C W0 f gh W) (p : MgP base q1 q2 xa xb Aa Ab m) (hm : m ≤ W0.heap.size) (hc : ∀ b, C b → ¬ mgG q1 q2 xa xb Aa Ab b) (hf : f 3 = false) (v : Value) (hg : W.grownBy W' (some xb)) (he : EaB W' xb Ab lb.tail) : Mg0 base q1 q2 xa xb Aa Ab la lb C W0 (upd f 3) (updN gh 3 v) W' := by
  have hmw := h.mw
  rw [hf] at hmw
  have hsz := h.mv.size
  exact {
    mv := h.mv.trans (MvC.of_grown hg (fun g e => by cases e; exact ⟨fun k => hc _ k (.inr (.inr (.inr (.inl rfl)))), p.b2⟩))
    mw := by rw [un_eq, un_ne (by decide)]; exact hmw.takeB p (by omega) hg he
    px := fun e => by
      rw [un_ne (by decide)] at e
      rw [unN_ne (by decide), un_ne (by decide)]
      obtain ⟨q, e1, e2, e3⟩ := h.px e
      exact ⟨q, e1, e2, Mg0.blkP e3 hg (by have := p.lxb; omega)⟩
    py := fun e => by
      rw [un_ne (by decide)] at e
      rw [unN_ne (by decide), un_ne (by decide)]
      obtain ⟨q, e1, e2, e3⟩ := h.py e
      exact ⟨q, e1, e2, Mg0.blkP e3 hg (by have := p.lxb; omega)⟩
    ne := fun e e2 => by rw [un_ne (by decide)] at e e2; rw [unN_ne (by decide), unN_ne (by decide)]; exact h.ne e e2 }
theorem Mg0.allocX {m : Nat} (h : Mg0 base q1 q2 xa xb Aa Ab la lb C W0 f gh W) (p : MgP base q1 q2 xa xb Aa Ab m) (hm : m ≤ W0.heap.size) (hf : f 6 = false) : Mg0 base q1 q2 xa xb Aa Ab la lb C W0 (upd f 4) (updN gh 4 (.pointer (some ⟨W.heap.size, 0, none⟩))) (W.alloc (.cells (dcell (0, 0)) 27)) := by
  have hb := below_new W (.cells (dcell (0, 0)) 27)
  have hsz := h.mv.size
  exact {
    mv := h.mv.trans (MvC.of_below hb)
    mw := by rw [un_ne (by decide), un_ne (by decide)]; exact h.mw.below (p.mono (by omega)) hb
    px := fun _ => by
      rw [unN_eq, un_ne (by decide), hf]
      exact ⟨_, rfl, hsz, Blk.new _ _ _⟩
    py := fun e => by
      rw [un_ne (by decide)] at e
      rw [unN_ne (by decide), un_ne (by decide)]
      obtain ⟨q, e1, e2, e3⟩ := h.py e
      exact ⟨q, e1, e2, e3.keep hb⟩
    ne := fun e e2 => by
      rw [un_ne (by decide)] at e2
      rw [unN_eq, unN_ne (by decide)]
      obtain ⟨q, e1, _, e3⟩ := h.py e2
      rw [e1]
      intro k
      injection k with k
      injection k with k
      injection k with k
      have := e3.lt
      omega }
theorem Mg0.allocY {m : Nat} (h : Mg0 base q1 q2 xa xb Aa Ab la lb C W0 f gh W) (p : MgP base q1 q2 xa xb Aa Ab m) (hm : m ≤ W0.heap.size) (hf : f 7 = false) : Mg0 base q1 q2 xa xb Aa Ab la lb C W0 (upd f 5) (updN gh 5 (.pointer (some ⟨W.heap.size, 0, none⟩))) (W.alloc (.cells (dcell (0, 0)) 27)) := by
  have hb := below_new W (.cells (dcell (0, 0)) 27)
  have hsz := h.mv.size
  exact {
    mv := h.mv.trans (MvC.of_below hb)
    mw := by rw [un_ne (by decide), un_ne (by decide)]; exact h.mw.below (p.mono (by omega)) hb
    py := fun _ => by
      rw [unN_eq, un_ne (by decide), hf]
      exact ⟨_, rfl, hsz, Blk.new _ _ _⟩
    px := fun e => by
      rw [un_ne (by decide)] at e
      rw [unN_ne (by decide), un_ne (by decide)]
      obtain ⟨q, e1, e2, e3⟩ := h.px e
      exact ⟨q, e1, e2, e3.keep hb⟩
    ne := fun e e2 => by
      rw [un_ne (by decide)] at e
      rw [unN_eq, unN_ne (by decide)]
      obtain ⟨q, e1, _, e3⟩ := h.px e
      rw [e1]
      intro k
      injection k with k
      injection k with k
      injection k with k
      have := e3.lt
      omega }
theorem Mg0.storeX {m : Nat} (h : Mg0 base q1 q2 xa xb Aa Ab la lb C W0 f gh W) (p : MgP base q1 q2 xa xb Aa Ab m) (hm : m ≤ W0.heap.size) (hc : ∀ b, C b → b < W0.heap.size) (hi : f 4 = true) (hf : f 6 = false) (v : Value) : ∃ g, gh 4 = .pointer (some ⟨g, 0, none⟩) ∧ Blk W g 27 (dcell (0, 0)) ∧ Mg0 base q1 q2 xa xb Aa Ab la lb C W0 (upd f 6) (updN gh 6 v) (W.setRow g (dcell (la.headD endD))) := by
  obtain ⟨g, e1, e2, e3⟩ := h.px hi
  rw [hf] at e3
  refine ⟨g, e1, e3, ?_⟩
  have hg := grown_setRow W g (dcell (la.headD endD))
  have hsz := h.mv.size
  have hgl := e3.lt
  exact {
    mv := h.mv.trans (MvC.of_grown hg (fun b e => by cases e; exact ⟨fun k => by have := hc _ k; omega, by have := p.b3; omega⟩))
    mw := by
      rw [un_ne (by decide), un_ne (by decide)]
      exact h.mw.keep fun b hb => hg.block b (by have := mg_low p hb; omega) (fun e => by injection e with e; have := mg_low p hb; omega)
    px := fun _ => by
      rw [unN_ne (by decide), un_eq]
      exact ⟨g, e1, e2, e3.setRow _⟩
    py := fun e => by
      rw [un_ne (by decide)] at e
      rw [unN_ne (by decide), un_ne (by decide)]
      obtain ⟨q, k1, k2, k3⟩ := h.py e
      refine ⟨q, k1, k2, k3.grown hg (fun k => ?_)⟩
      injection k with k
      have := h.ne hi e
      exact this (by rw [e1, k1, k])
    ne := fun e e2 => by rw [un_ne (by decide)] at e e2; rw [unN_ne (by decide), unN_ne (by decide)]; exact h.ne e e2 }
theorem Mg0.storeY {m : Nat} (h : Mg0 base q1 q2 xa xb Aa Ab la lb C W0 f gh W) (p : MgP base q1 q2 xa xb Aa Ab m) (hm : m ≤ W0.heap.size) (hc : ∀ b, C b → b < W0.heap.size) (hi : f 5 = true) (hf : f 7 = false) (v : Value) : ∃ g, gh 5 = .pointer (some ⟨g, 0, none⟩) ∧ Blk W g 27 (dcell (0, 0)) ∧ Mg0 base q1 q2 xa xb Aa Ab la lb C W0 (upd f 7) (updN gh 7 v) (W.setRow g (dcell (lb.headD endD))) := by
  obtain ⟨g, e1, e2, e3⟩ := h.py hi
  rw [hf] at e3
  refine ⟨g, e1, e3, ?_⟩
  have hg := grown_setRow W g (dcell (lb.headD endD))
  have hsz := h.mv.size
  have hgl := e3.lt
  exact {
    mv := h.mv.trans (MvC.of_grown hg (fun b e => by cases e; exact ⟨fun k => by have := hc _ k; omega, by have := p.b3; omega⟩))
    mw := by
      rw [un_ne (by decide), un_ne (by decide)]
      exact h.mw.keep fun b hb => hg.block b (by have := mg_low p hb; omega) (fun e => by injection e with e; have := mg_low p hb; omega)
    py := fun _ => by
      rw [unN_ne (by decide), un_eq]
      exact ⟨g, e1, e2, e3.setRow _⟩
    px := fun e => by
      rw [un_ne (by decide)] at e
      rw [unN_ne (by decide), un_ne (by decide)]
      obtain ⟨q, k1, k2, k3⟩ := h.px e
      refine ⟨q, k1, k2, k3.grown hg (fun k => ?_)⟩
      injection k with k
      have := h.ne e hi
      exact this (by rw [e1, k1, k])
    ne := fun e e2 => by rw [un_ne (by decide)] at e e2; rw [unN_ne (by decide), unN_ne (by decide)]; exact h.ne e e2 }
end
theorem set_two {W : World} {p : Nat} {t : TypeId} {u v : Value} (h : Blk W p t #[u, v]) (a b : Value) : (W.setCell ⟨p, 0, none⟩ a).setCell ⟨p, 1, none⟩ b = W.setRow p #[a, b] := by
  have hh : ((W.setCell ⟨p, 0, none⟩ a).setCell ⟨p, 1, none⟩ b).heap = (W.setRow p #[a, b]).heap := by
    refine Array.ext_getElem? fun i => ?_
    by_cases e : i = p
    · subst e
      have k1 := (h.set_ 0 a).set_ 1 b
      have k2 := h.setRow #[a, b]
      unfold Blk at k1 k2
      rw [k1, k2]
      simp
    · rw [setRow_other _ _ _ _ e, Below.heap_setCell _ _ _ _ e, Below.heap_setCell _ _ _ _ e]
  have e1 : (W.setCell ⟨p, 0, none⟩ a).setCell ⟨p, 1, none⟩ b = { W with heap := ((W.setCell ⟨p, 0, none⟩ a).setCell ⟨p, 1, none⟩ b).heap } := rfl
  have e2 : W.setRow p #[a, b] = { W with heap := (W.setRow p #[a, b]).heap } := rfl
  rw [e1, e2, hh]
/-- how much is left, out of the boxes -/
def mLen (W : World) (x : Nat) : Nat := match W.cell? ⟨x, 0, none⟩ with
  | some (.slice _ n _) => n
  | _ => 0
def mHead (W : World) (p : Nat) : Nat := match W.cell? ⟨p, 0, none⟩ with
  | some (.int _ r) => if r = 17 then 0 else 1
  | _ => 0
def mz (W : World) (px py xa xb : Nat) : Nat := mLen W xa + mHead W px + (mLen W xb + mHead W py)
theorem mz_one {W : World} {x p : Nat} {Ab : Nat → Prop} {ds : List Dt} (h : EaB W x Ab ds.tail) (k : Blk W p 27 (dcell (ds.headD endD))) (hd : dots ds) : mLen W x + mHead W p = ds.length := by
  obtain ⟨A, c, hk, _⟩ := h.ex
  have e1 : mLen W x = ds.tail.length := by unfold mLen; rw [hk.cell 0 rfl]; rfl
  have e2 : mHead W p = if (ds.headD endD).1 = 17 then 0 else 1 := by unfold mHead; rw [k.cell 0 rfl]; rfl
  rw [e1, e2]
  cases ds with
  | nil => rfl
  | cons d r =>
    have := (hd d List.mem_cons_self).2.1
    have h17 : ¬ ((d :: r).headD endD).1 = 17 := by show ¬ d.1 = 17; omega
    rw [if_neg h17]
    simp
/-- what holds between two rounds -/
structure MgI (base q1 q2 xa xb px py : Nat) (Aa Ab : Nat → Prop) (m : Nat) (la lb : List Dt) (C : Nat → Prop) (W : World) : Prop where
  sz : m ≤ W.heap.size
  mw : MgW q1 q2 xa xb Aa Ab la.tail lb.tail W
  bx : Blk W px 27 (dcell (la.headD endD))
  bY : Blk W py 27 (dcell (lb.headD endD))
  nc : ∀ b, (b = px ∨ b = py ∨ mgG q1 q2 xa xb Aa Ab b) → ¬ C b
  lo : ∀ b, C b → b < W.heap.size
section
variable {base q1 q2 xa xb px py m : Nat} {Aa Ab : Nat → Prop} {la lb : List Dt} {C : Nat → Prop} {W W' : World}
theorem MgI.keep (h : MgI base q1 q2 xa xb px py Aa Ab m la lb C W) (hb : Below W.heap.size W W') (p : MgP base q1 q2 xa xb Aa Ab m) : MgI base q1 q2 xa xb px py Aa Ab m la lb C W' where
  sz := Nat.le_trans h.sz hb.size
  mw := h.mw.below (p.mono h.sz) hb
  bx := h.bx.keep hb
  bY := h.bY.keep hb
  nc := h.nc
  lo := fun b hc => Nat.lt_of_lt_of_le (h.lo b hc) hb.size
theorem MgI.round {C' : Nat → Prop} (h : MgI base q1 q2 xa xb px py Aa Ab m la lb C W) (hk : KpC C C' W W') (p : MgP base q1 q2 xa xb Aa Ab m) : MgI base q1 q2 xa xb px py Aa Ab m la lb C' W' where
  sz := Nat.le_trans h.sz hk.size
  mw := h.mw.keep fun b hb => hk.block b (Nat.lt_of_lt_of_le (mg_low p hb) h.sz) (h.nc b (.inr (.inr hb)))
  bx := (hk.block px h.bx.lt (h.nc px (.inl rfl))).trans h.bx
  bY := (hk.block py h.bY.lt (h.nc py (.inr (.inl rfl)))).trans h.bY
  nc := fun b hb hc => by
    rcases hk.more b hc with h1 | h1
    · exact h.nc b hb h1
    · rcases hb with rfl | rfl | hb
      · have := h.bx.lt; omega
      · have := h.bY.lt; omega
      · have := mg_low p hb; have := h.sz; omega
  lo := hk.low
theorem mrg_b2d {la lb : List Dt} (ha : dots la) (hb : dots lb) (h : ¬ (la = [] ∧ lb = [])) {d : Dt} {b1 b2 : Bool} (hd : lessD (la.headD endD) (lb.headD endD) = d) (h1 : decide (la.headD endD = d) = b1) (h2 : decide (lb.headD endD = d) = b2) :
    mrg la lb = (d, b1, b2) :: mrg (b2d b1 la) (b2d b2 lb) ∧ dots (b2d b1 la) ∧ dots (b2d b2 lb) ∧ (b2d b1 la).length + (b2d b2 lb).length + 1 ≤ la.length + lb.length ∧ (b2d b1 la).length ≤ la.length ∧ (b2d b2 lb).length ≤ lb.length ∧ (b1 = true ∨ b2 = true) := by
  have e1 : (if la.headD endD = d then la.tail else la) = b2d b1 la := by subst h1; unfold b2d; simp
  have e2 : (if lb.headD endD = d then lb.tail else lb) = b2d b2 lb := by subst h2; unfold b2d; simp
  have g1 := mrg_step ha hb h
  have g2 := take_less ha hb h
  have g3 := less_cases ha hb h
  rw [hd] at g1 g2 g3
  rw [h1, h2, e1, e2] at g1
  rw [e1, e2] at g2
  have l1 : ∀ (b : Bool) (l : List Dt), (b2d b l).length ≤ l.length := fun b l => by cases b <;> simp [b2d]
  have l2 : ∀ (b : Bool) (l : List Dt), dots l → dots (b2d b l) := fun b l hl => by cases b; exact hl; exact dots_tail hl
  refine ⟨g1, l2 _ _ ha, l2 _ _ hb, g2, l1 _ _, l1 _ _, ?_⟩
  rcases g3 with ⟨g3, _⟩ | ⟨g3, _⟩
  · exact .inl (h1.symm.trans (decide_eq_true g3))
  · exact .inr (h2.symm.trans (decide_eq_true g3))
theorem MgI.meas (h : MgI base q1 q2 xa xb px py Aa Ab m la lb C W) (ha : dots la) (hb : dots lb) : mz W px py xa xb = la.length + lb.length := by
  unfold mz
  rw [mz_one h.mw.ea h.bx ha, mz_one h.mw.eb h.bY hb]
theorem MgI.takeA {W2 : World} (h : MgI base q1 q2 xa xb px py Aa Ab m la lb C W) (p : MgP base q1 q2 xa xb Aa Ab m) (hp : m ≤ px ∧ m ≤ py ∧ px ≠ py) (hg : W.grownBy W2 (some xa)) (he : EaB W2 xa Aa la.tail.tail) :
    Blk W2 px 27 (dcell (la.headD endD)) ∧ MgI base q1 q2 xa xb px py Aa Ab m la.tail lb C (W2.setRow px (dcell (la.tail.headD endD))) ∧ MvC base C W (W2.setRow px (dcell (la.tail.headD endD))) := by
  have hxa := p.lxa
  have bx2 := h.bx.grown hg (fun e => by injection e with e; omega)
  have by2 := h.bY.grown hg (fun e => by injection e with e; omega)
  have g2 := grown_setRow W2 px (dcell (la.tail.headD endD))
  have mw2 := h.mw.takeA p h.sz hg he
  have hs := hg.size
  refine ⟨bx2, ⟨by simp; have := h.sz; omega, mw2.keep (fun b hb => g2.block b (by have := mg_low p hb; have := h.sz; omega) (fun e => by injection e with e; have := mg_low p hb; omega)), bx2.setRow _, by2.grown g2 (fun e => by injection e with e; omega), h.nc, fun b hc => by simp; have := h.lo b hc; omega⟩, ?_⟩
  exact (MvC.of_grown hg (fun g e => by cases e; exact ⟨h.nc _ (.inr (.inr (.inr (.inr (.inl rfl))))), p.b1⟩)).trans (MvC.of_grown g2 (fun g e => by cases e; exact ⟨h.nc _ (.inl rfl), by have := p.b3; omega⟩))
theorem MgI.takeB {W2 : World} (h : MgI base q1 q2 xa xb px py Aa Ab m la lb C W) (p : MgP base q1 q2 xa xb Aa Ab m) (hp : m ≤ px ∧ m ≤ py ∧ px ≠ py) (hg : W.grownBy W2 (some xb)) (he : EaB W2 xb Ab lb.tail.tail) :
    Blk W2 py 27 (dcell (lb.headD endD)) ∧ MgI base q1 q2 xa xb px py Aa Ab m la lb.tail C (W2.setRow py (dcell (lb.tail.headD endD))) ∧ MvC base C W (W2.setRow py (dcell (lb.tail.headD endD))) := by
  have hxb := p.lxb
  have bx2 := h.bx.grown hg (fun e => by injection e with e; omega)
  have by2 := h.bY.grown hg (fun e => by injection e with e; omega)
  have g2 := grown_setRow W2 py (dcell (lb.tail.headD endD))
  have mw2 := h.mw.takeB p h.sz hg he
  have hs := hg.size
  refine ⟨by2, ⟨by simp; have := h.sz; omega, mw2.keep (fun b hb => g2.block b (by have := mg_low p hb; have := h.sz; omega) (fun e => by injection e with e; have := mg_low p hb; omega)), bx2.grown g2 (fun e => by injection e with e; omega), by2.setRow _, h.nc, fun b hc => by simp; have := h.lo b hc; omega⟩, ?_⟩
  exact (MvC.of_grown hg (fun g e => by cases e; exact ⟨h.nc _ (.inr (.inr (.inr (.inr (.inr (.inl rfl)))))), p.b2⟩)).trans (MvC.of_grown g2 (fun g e => by cases e; exact ⟨h.nc _ (.inr (.inl rfl)), by have := p.b3; omega⟩))
end
theorem moc_store {P : Program} {o : Oper} {a : Act} {w : World} {T : Value → World → Prop} (t : TypeId) (x y : Operand) (ho : o.op = .store t x y) (g : Nat) (cs : Array Value) (hx : a.eval x = .pointer (some ⟨g, 0, none⟩)) (hy : a.eval y = .agg cs)
    (t' : TypeId) (old : Array Value) (hb : Blk w g t' old) (hi : (P.info? t).map (·.size) = some cs.size) (hold : old.size = cs.size) (h1 : cs.toList.all (·.oneCell') = true) (h : T undef (w.setRow g cs)) : OpDoes P o a w T :=
  fun _ _ hK => wp_store_row t x y ho g cs hx hy t' old hb hi hold (by rw [← Array.all_toList]; exact h1) (hK _ _ h)
def vMgA (xa : Nat) (xb : Nat) (la : List Dt) (lb : List Dt) : Nat → Value → Value
  | 0, _ => .func (.func 81) #[] #[.pointer (some ⟨xa, 0, none⟩)]
  | 1, _ => dvv (la.headD endD)
  | 2, _ => .func (.func 81) #[] #[.pointer (some ⟨xb, 0, none⟩)]
  | 3, _ => dvv (lb.headD endD)
  | 4, k => k
  | 5, k => k
  | _, _ => undef
def vMgB  : Nat → Unit → Value
  | 0, _ => dvv endD
  | 1, _ => dvv endD
  | 2, _ => .bool false
  | 3, _ => .bool false
  | 4, _ => dvv endD
  | 5, _ => dvv endD
  | 6, _ => .bool false
  | 7, _ => .bool false
  | _, _ => undef
def vMgC (x : Dt) : Nat → Unit → Value
  | 0, _ => dvv x
  | 1, _ => dvv endD
  | 2, _ => .bool true
  | 3, _ => .bool true
  | 4, _ => undef
  | 5, _ => undef
  | 6, _ => undef
  | 7, _ => .bool true
  | _, _ => undef
def vMgD (x : Dt) (y : Dt) : Nat → Unit → Value
  | 0, _ => dvv x
  | 1, _ => dvv endD
  | 2, _ => .bool false
  | 3, _ => .bool false
  | 4, _ => dvv y
  | 5, _ => dvv endD
  | 6, _ => .bool true
  | 7, _ => .bool true
  | _, _ => undef
def vMgE (x : Dt) (d : Dt) (y : Dt) (b1 : Bool) (b2 : Bool) : Nat → Value → Value
  | 0, _ => dvv x
  | 1, _ => dvv d
  | 2, _ => .bool b1
  | 3, _ => dvv y
  | 4, _ => dvv d
  | 5, _ => .bool b2
  | 6, _ => .agg #[.bool b1, .bool b2]
  | 7, k => k
  | _, _ => undef
set_option maxRecDepth 100000 in
set_option maxHeartbeats 16000000 in
theorem ocMrg_seq (n base q1 q2 xa xb : Nat) (Aa Ab : Nat → Prop) (la lb : List Dt) (w0 : World) (hp : MgP base q1 q2 xa xb Aa Ab w0.heap.size) (hw : MgW q1 q2 xa xb Aa Ab la lb w0) (ha : dots la) (hb : dots lb) (hla : la.length ≤ 900000) (hlb : lb.length ≤ 900000) :
    SeqC n Try.prog 78 #[.pointer (some ⟨q1, 0, none⟩), .pointer (some ⟨q2, 0, none⟩)] mEnc base (mrg la lb) (mgG q1 q2 xa xb Aa Ab) w0 := by
  intro l C0 J Jx W hW hC0 hJ hJx hY h0
  have hzd := (zero_of_info info_dot0).1
  have hzs := (zero_of_info info_sides).1
  have P1 := hp.mono hW.size
  have M1 := hw.below hp hW
  have HY := hid hY; have HP := hid P1; have HM := hid M1; have HJ := hid hJ; have HJX := hid hJx; have HC0 := hid hC0; have HDA := hid ha; have HDB := hid hb; have H0 := hid h0
  have HLA := hid hla; have HLB := hid hlb
  have HEE := hid (enters_of Try.func81 (by kernel_rfl) rfl)
  clear hp hw ha hb hW hC0 hJ hJx hY h0 P1 M1 hla hlb
  refine callsIn_of_wp Try.func78 rfl trivial ?_ rfl
  simp only [Try.ntmps78, List.size_toArray, List.length_cons, List.length_nil, Nat.reduceAdd, Nat.reduceSub, Array.replicate_succ, Array.replicate_zero, List.push_toArray, List.append_toArray, List.nil_append, List.cons_append]
  gi_wp2_with fail
  refine wpIn_region_invG 43 (.pointer none) (vMgA xa xb la lb) (Mg0 base q1 q2 xa xb Aa Ab la lb C0 W) (by kernel_rfl) (by kernel_rfl) (by exact Nat.le_refl 43) ?_ ?_ ?_
  · exact Mg0.start HM.out _
  · intro i o f gh a W' hi hf hdep hsame hcl hval hS
    rcases i with _ | _ | _ | _ | _ | _ | _ | _ | i
    all_goals simp only [List.getElem?_cons_succ, List.getElem?_cons_zero, List.getElem?_nil, Option.some.injEq, reduceCtorEq] at hi
    all_goals subst hi
    · have E1 : a.tmps[1]? = some (.pointer (some ⟨q1, 0, none⟩)) := (same_of hsame 1 (by rfl)).trans rfl
      have z1 := hS.mw.q1.cell 0 rfl
      have z2 := hS.mw.q2.cell 0 rfl
      unfold srcV at z1 z2
      refine gin_of (l2 := 0) (.inl rfl) rfl (g_plain rfl ?_)
      exact does_value (w' := W') (v := .func (.func 81) #[] #[.pointer (some ⟨xa, 0, none⟩)]) (by go_simp) ⟨(.pointer none), .inr rfl, hS.same 0 _ (by decide) (by decide) (by decide) (by decide) (by decide) (by decide)⟩
    · have E8 := hval 0 _ 8 rfl rfl (dep_of hdep 0 (by rfl))
      unfold vMgA at E8
      refine gin_of (l2 := 0) (.inl rfl) rfl (g_plain rfl ?_)
      have hmw := hS.mw
      rw [hf] at hmw
      have hE := HEE.out
      refine does_call 81 #[.pointer (some ⟨xa, 0, none⟩)] (by go_simp) ((ocTake_calls xa _ la W' hmw.ea (fun h => (HP.out.aa _ h).2.1 rfl) (by have := HLA.out; omega)).mono ?_)
      rintro _ W'' ⟨rfl, he, hg⟩
      exact ⟨_, rfl, .pointer none, .inr rfl, hS.callA HP.out (Nat.le_refl _) (fun b hb => (HC0.out b hb).1) hf _ hg he⟩
    · have E2 : a.tmps[2]? = some (.pointer (some ⟨q2, 0, none⟩)) := (same_of hsame 2 (by rfl)).trans rfl
      have z1 := hS.mw.q1.cell 0 rfl
      have z2 := hS.mw.q2.cell 0 rfl
      unfold srcV at z1 z2
      refine gin_of (l2 := 0) (.inl rfl) rfl (g_plain rfl ?_)
      exact does_value (w' := W') (v := .func (.func 81) #[] #[.pointer (some ⟨xb, 0, none⟩)]) (by go_simp) ⟨(.pointer none), .inr rfl, hS.same 2 _ (by decide) (by decide) (by decide) (by decide) (by decide) (by decide)⟩
    · have E10 := hval 2 _ 10 rfl rfl (dep_of hdep 2 (by rfl))
      unfold vMgA at E10
      refine gin_of (l2 := 0) (.inl rfl) rfl (g_plain rfl ?_)
      have hmw := hS.mw
      rw [hf] at hmw
      have hE := HEE.out
      refine does_call 81 #[.pointer (some ⟨xb, 0, none⟩)] (by go_simp) ((ocTake_calls xb _ lb W' hmw.eb (fun h => (HP.out.ab _ h).2.2 rfl) (by have := HLB.out; omega)).mono ?_)
      rintro _ W'' ⟨rfl, he, hg⟩
      exact ⟨_, rfl, .pointer none, .inr rfl, hS.callB HP.out (Nat.le_refl _) (fun b hb => (HC0.out b hb).1) hf _ hg he⟩
    · refine gin_of (l2 := 0) (.inl rfl) rfl (g_plain rfl ?_)
      have n := not_yet hcl hf 6 (by rfl)
      have hz := hzd
      exact does_value (w' := W'.alloc (.cells (dcell (0, 0)) 27)) (v := .pointer (some ⟨W'.heap.size, 0, none⟩)) (by unfold dcell; go_simp) ⟨_, .inr rfl, hS.allocX HP.out (Nat.le_refl _) n⟩
    · refine gin_of (l2 := 0) (.inl rfl) rfl (g_plain rfl ?_)
      have n := not_yet hcl hf 7 (by rfl)
      have hz := hzd
      exact does_value (w' := W'.alloc (.cells (dcell (0, 0)) 27)) (v := .pointer (some ⟨W'.heap.size, 0, none⟩)) (by unfold dcell; go_simp) ⟨_, .inr rfl, hS.allocY HP.out (Nat.le_refl _) n⟩
    · have E4 := hval 4 _ 4 rfl rfl (dep_of hdep 4 (by rfl))
      have E9 := hval 1 _ 9 rfl rfl (dep_of hdep 1 (by rfl))
      unfold vMgA at E4 E9
      refine gin_of (l2 := 0) (.inl rfl) rfl (g_plain rfl ?_)
      obtain ⟨g, eg, hk, hS2⟩ := hS.storeX HP.out (Nat.le_refl _) (fun b hb => (HC0.out b hb).2) (dep_of hdep 4 (by rfl)) hf undef
      rw [eg] at E4
      exact moc_store 27 _ _ rfl g (dcell (la.headD endD)) (by rw [eval_getD, E4]; rfl) (by rw [eval_getD, E9]; rfl) 27 _ hk (by kernel_rfl) rfl (by rfl) ⟨_, .inl rfl, hS2⟩
    · have E5 := hval 5 _ 5 rfl rfl (dep_of hdep 5 (by rfl))
      have E11 := hval 3 _ 11 rfl rfl (dep_of hdep 3 (by rfl))
      unfold vMgA at E5 E11
      refine gin_of (l2 := 0) (.inl rfl) rfl (g_plain rfl ?_)
      obtain ⟨g, eg, hk, hS2⟩ := hS.storeY HP.out (Nat.le_refl _) (fun b hb => (HC0.out b hb).2) (dep_of hdep 5 (by rfl)) hf undef
      rw [eg] at E5
      exact moc_store 27 _ _ rfl g (dcell (lb.headD endD)) (by rw [eval_getD, E5]; rfl) (by rw [eval_getD, E11]; rfl) 27 _ hk (by kernel_rfl) rfl (by rfl) ⟨_, .inl rfl, hS2⟩
  · intro gh W2 hS
    obtain ⟨px, e4, hpx, hbx⟩ := hS.px rfl
    obtain ⟨py, e5, hpy, hby⟩ := hS.py rfl
    have hne := hS.ne rfl rfl
    have HS := hid (show MgI base q1 q2 xa xb px py Aa Ab W.heap.size la lb C0 W2 from {
      sz := hS.mv.size
      mw := hS.mw
      bx := hbx
      bY := hby
      nc := fun b hb hc => by
        have h1 := HC0.out b hc
        rcases hb with rfl | rfl | hb
        · omega
        · omega
        · exact h1.1 hb
      lo := fun b hc => Nat.lt_of_lt_of_le (HC0.out b hc).2 hS.mv.size })
    have HPX := hid (show W.heap.size ≤ px ∧ W.heap.size ≤ py ∧ px ≠ py from ⟨hpx, hpy, fun e => hne (by rw [e4, e5, e])⟩)
    have HJ0 := hid (HJ.out _ _ _ _ H0.out hS.mv)
    clear hS hbx hby hpx hpy hne
    simp only [putAll, vMgA, Nat.reduceAdd, Nat.zero_add, Act.put, List.setIfInBounds_toArray, List.set_cons_zero, List.set_cons_succ]
    generalize gh 4 = g4 at e4 ⊢
    generalize gh 5 = g5 at e5 ⊢
    subst e4 e5
    generalize dvv (la.headD endD) = vx0
    generalize dvv (lb.headD endD) = vy0
    gi_wp2_with fail
    gi_loopw [6] (fun _ wr => ∃ (C : Nat → Prop) (la2 lb2 : List Dt) (pre : List Mi), Hid (mrg la lb = pre ++ mrg la2 lb2 ∧ dots la2 ∧ dots lb2 ∧ la2.length ≤ la.length ∧ lb2.length ≤ lb.length) ∧ Hid (MgI base q1 q2 xa xb px py Aa Ab W.heap.size la2 lb2 C wr) ∧ Hid (J C pre wr)) (fun _ wr => mz wr px py xa xb)
    case atStart => exact ⟨C0, la, lb, [], hid ⟨rfl, HDA.out, HDB.out, Nat.le_refl _, Nat.le_refl _⟩, HS, HJ0⟩
    case round =>
      clear HS HJ0 H0
      obtain ⟨C, la2, lb2, pre, HT, HI, HJJ⟩ := hrel
      have HMZ := hid (HI.out.meas HT.out.2.1 HT.out.2.2.1)
      by_cases hem : la2 = [] ∧ lb2 = []
      · obtain ⟨rfl, rfl⟩ := hem
        have HJE := hid (show J C (mrg la lb) wr from by
          have e := HT.out.1
          rw [mrg_nil, List.append_nil] at e
          rw [e]
          exact HJJ.out)
        clear HJJ HT HMZ
        gi_wp2_with fail
        refine wpIn_region_invG 43 () (vMgB ) (fun _ _ W' => Below wr.heap.size wr W') (by kernel_rfl) (by kernel_rfl) (by exact Nat.le_refl 43) ?_ ?_ ?_
        · exact (Below.refl _ _).drew
        · intro i o f gh a W' hi hf hdep hsame hcl hval hS
          rcases i with _ | _ | _ | _ | _ | _ | _ | _ | i
          all_goals simp only [List.getElem?_cons_succ, List.getElem?_cons_zero, List.getElem?_nil, Option.some.injEq, reduceCtorEq] at hi
          all_goals subst hi
          · have E4 : a.tmps[4]? = some (.pointer (some ⟨px, 0, none⟩)) := (same_of hsame 4 (by rfl)).trans rfl
            refine gin_of (l2 := 0) (.inl rfl) rfl (g_plain rfl ?_)
            exact does_load_dotB _ rfl px (by rw [eval_getD, E4]; rfl) (HI.out.keep hS HP.out).bx ⟨(), .inr rfl, hS⟩
          · refine gin_of (l2 := 0) (.inl rfl) rfl (g_plain rfl ?_)
            refine does_call 79 #[] (by go_simp) ((ocEnd_calls W').mono ?_)
            rintro _ W'' ⟨rfl, hb⟩
            exact ⟨_, rfl, (), .inr rfl, hS.trans (hb.mono hS.size)⟩
          · have E12 := hval 0 _ 12 rfl rfl (dep_of hdep 0 (by rfl))
            have E13 := hval 1 _ 13 rfl rfl (dep_of hdep 1 (by rfl))
            unfold vMgB at E12 E13
            refine gin_of (l2 := 0) (.inl rfl) rfl (g_plain rfl ?_)
            exact does_value (w' := W') (v := .bool false) (by unfold dvv endD at *; go_simp) ⟨(), .inr rfl, hS⟩
          · have E14 := hval 2 _ 14 rfl rfl (dep_of hdep 2 (by rfl))
            unfold vMgB at E14
            refine gin_of (l2 := 0) (.inl rfl) rfl (g_plain rfl ?_)
            exact does_value (w' := W') (v := .bool false) (by go_simp) ⟨(), .inr rfl, hS⟩
          · have EG := hval 3 _ 15 rfl rfl (dep_of hdep 3 (by rfl))
            have E5 : a.tmps[5]? = some (.pointer (some ⟨py, 0, none⟩)) := (same_of hsame 5 (by rfl)).trans rfl
            unfold vMgB at EG
            refine gin_of (l2 := 0) (.inl rfl) rfl (g_want rfl rfl rfl EG ?_)
            exact does_load_dotB _ rfl py (by rw [eval_getD, E5]; rfl) (HI.out.keep hS HP.out).bY ⟨(), .inr rfl, hS⟩
          · have EG := hval 3 _ 15 rfl rfl (dep_of hdep 3 (by rfl))
            unfold vMgB at EG
            refine gin_of (l2 := 0) (.inl rfl) rfl (g_want rfl rfl rfl EG ?_)
            refine does_call 79 #[] (by go_simp) ((ocEnd_calls W').mono ?_)
            rintro _ W'' ⟨rfl, hb⟩
            exact ⟨_, rfl, (), .inr rfl, hS.trans (hb.mono hS.size)⟩
          · have EG := hval 3 _ 15 rfl rfl (dep_of hdep 3 (by rfl))
            have E16 := hval 4 _ 16 rfl rfl (dep_of hdep 4 (by rfl))
            have E17 := hval 5 _ 17 rfl rfl (dep_of hdep 5 (by rfl))
            unfold vMgB at EG E16 E17
            refine gin_of (l2 := 0) (.inl rfl) rfl (g_want rfl rfl rfl EG ?_)
            exact does_value (w' := W') (v := .bool false) (by unfold dvv endD at *; go_simp) ⟨(), .inr rfl, hS⟩
          · have E15 := hval 3 _ 15 rfl rfl (dep_of hdep 3 (by rfl))
            have E18 := hval 6 _ 18 rfl rfl (dep_of hdep 6 (by rfl))
            unfold vMgB at E15 E18
            refine gin_of (l2 := 0) (.inl rfl) rfl (g_plain rfl ?_)
            exact does_value (w' := W') (v := .bool false) (by go_simp) ⟨(), .inr rfl, hS⟩
        · intro gh W2 hS
          have HJF := hid (HJ.out _ _ _ _ HJE.out (MvC.of_below hS))
          clear hS HJE
          simp only [putAll, vMgB, Nat.reduceAdd, Nat.zero_add, Act.put, List.setIfInBounds_toArray, List.set_cons_zero, List.set_cons_succ]
          gi_wp2_with fail
          go_end0
          exact ⟨⟨_, rfl⟩, .inl ⟨C, HJF.out⟩⟩
      · obtain ⟨x, hx⟩ : ∃ x, la2.headD endD = x := ⟨_, rfl⟩
        obtain ⟨y, hy⟩ : ∃ y, lb2.headD endD = y := ⟨_, rfl⟩
        obtain ⟨d, hd⟩ : ∃ d, lessD x y = d := ⟨_, rfl⟩
        obtain ⟨b1, hb1⟩ : ∃ b1, decide (x = d) = b1 := ⟨_, rfl⟩
        obtain ⟨b2, hb2⟩ : ∃ b2, decide (y = d) = b2 := ⟨_, rfl⟩
        have HM := hid (mrg_b2d HT.out.2.1 HT.out.2.2.1 hem (d := d) (b1 := b1) (b2 := b2) (by rw [hx, hy]; exact hd) (by rw [hx]; exact hb1) (by rw [hy]; exact hb2))
        have hxy : ¬ x = endD ∨ (x = endD ∧ ¬ y = endD) := by
          rcases Classical.em (x = endD) with h | h
          · refine .inr ⟨h, fun h2 => hem ⟨?_, ?_⟩⟩
            · exact (head_end HT.out.2.1).1 (hx.trans h)
            · exact (head_end HT.out.2.2.1).1 (hy.trans h2)
          · exact .inl h
        have HB1 := hid hb1; have HB2 := hid hb2; have HXX := hid hx; have HYY := hid hy
        have HLS := hid (fun W => show Calls Try.prog 80 #[.agg #[.int .i64 x.1, .int .i64 x.2], .agg #[.int .i64 y.1, .int .i64 y.2]] W fun e w' => e = .returned (.agg #[.int .i64 d.1, .int .i64 d.2]) ∧ Below W.heap.size W w' from by
          have := ocLesser_calls x y W
          rw [hd] at this
          exact this)
        have HKX := hid (show ∀ W', MgI base q1 q2 xa xb px py Aa Ab W.heap.size la2 lb2 C W' → Blk W' px 27 #[.int .i64 x.1, .int .i64 x.2] ∧ Blk W' py 27 #[.int .i64 y.1, .int .i64 y.2] from fun W' h => ⟨by have := h.bx; rw [hx] at this; exact this, by have := h.bY; rw [hy] at this; exact this⟩)
        clear hx hy hd hb1 hb2 hem
        rcases hxy with hxe | ⟨hxe, hye⟩
        · have hxe2 : ¬ x.1 = 17 ∨ (x.1 = 17 ∧ ¬ x.2 = 0) := by
            by_cases h : x.1 = 17
            · exact .inr ⟨h, fun h2 => hxe (Prod.ext h h2)⟩
            · exact .inl h
          have HNX := hid hxe
          clear hxe hxe2
          gi_wp2_with fail
          refine wpIn_region_invG 43 () (vMgC x) (fun _ _ W' => Below wr.heap.size wr W') (by kernel_rfl) (by kernel_rfl) (by exact Nat.le_refl 43) ?_ ?_ ?_
          · exact (Below.refl _ _).drew
          · intro i o f gh a W' hi hf hdep hsame hcl hval hS
            rcases i with _ | _ | _ | _ | _ | _ | _ | _ | i
            all_goals simp only [List.getElem?_cons_succ, List.getElem?_cons_zero, List.getElem?_nil, Option.some.injEq, reduceCtorEq] at hi
            all_goals subst hi
            · have E4 : a.tmps[4]? = some (.pointer (some ⟨px, 0, none⟩)) := (same_of hsame 4 (by rfl)).trans rfl
              refine gin_of (l2 := 0) (.inl rfl) rfl (g_plain rfl ?_)
              exact does_load_dotB _ rfl px (by rw [eval_getD, E4]; rfl) (HKX.out _ (HI.out.keep hS HP.out)).1 ⟨(), .inr rfl, hS⟩
            · refine gin_of (l2 := 0) (.inl rfl) rfl (g_plain rfl ?_)
              refine does_call 79 #[] (by go_simp) ((ocEnd_calls W').mono ?_)
              rintro _ W'' ⟨rfl, hb⟩
              exact ⟨_, rfl, (), .inr rfl, hS.trans (hb.mono hS.size)⟩
            · have E12 := hval 0 _ 12 rfl rfl (dep_of hdep 0 (by rfl))
              have E13 := hval 1 _ 13 rfl rfl (dep_of hdep 1 (by rfl))
              unfold vMgC at E12 E13
              refine gin_of (l2 := 0) (.inl rfl) rfl (g_plain rfl ?_)
              exact does_value (w' := W') (v := .bool true) (by unfold dvv endD at *; go_simp; have h := HNX.out; by_cases h1 : x.1 = 17 <;> by_cases h2 : x.2 = 0 <;> simp [h1, h2] <;> exact absurd (Prod.ext h1 h2) h) ⟨(), .inr rfl, hS⟩
            · have E14 := hval 2 _ 14 rfl rfl (dep_of hdep 2 (by rfl))
              unfold vMgC at E14
              refine gin_of (l2 := 0) (.inl rfl) rfl (g_plain rfl ?_)
              exact does_value (w' := W') (v := .bool true) (by go_simp) ⟨(), .inr rfl, hS⟩
            · have EG := hval 3 _ 15 rfl rfl (dep_of hdep 3 (by rfl))
              unfold vMgC at EG
              exact gin_of (l2 := 0) (.inl rfl) rfl (g_skip rfl rfl rfl EG rfl ⟨(), .inr rfl, hS⟩)
            · have EG := hval 3 _ 15 rfl rfl (dep_of hdep 3 (by rfl))
              unfold vMgC at EG
              exact gin_of (l2 := 0) (.inl rfl) rfl (g_skip rfl rfl rfl EG rfl ⟨(), .inr rfl, hS⟩)
            · have EG := hval 3 _ 15 rfl rfl (dep_of hdep 3 (by rfl))
              unfold vMgC at EG
              exact gin_of (l2 := 0) (.inl rfl) rfl (g_skip rfl rfl rfl EG rfl ⟨(), .inr rfl, hS⟩)
            · have E15 := hval 3 _ 15 rfl rfl (dep_of hdep 3 (by rfl))
              have E18 := hval 6 _ 18 rfl rfl (dep_of hdep 6 (by rfl))
              unfold vMgC at E15 E18
              refine gin_of (l2 := 0) (.inl rfl) rfl (g_plain rfl ?_)
              exact does_value (w' := W') (v := .bool true) (by go_simp) ⟨(), .inr rfl, hS⟩
          · intro gh W2 hS
            have HI2 := hid (HI.out.keep hS HP.out)
            have HJ2 := hid (HJ.out _ _ _ _ HJJ.out (MvC.of_below hS))
            have HW2 := hid hS.size
            clear hS
            simp only [putAll, vMgC, Nat.reduceAdd, Nat.zero_add, Act.put, List.setIfInBounds_toArray, List.set_cons_zero, List.set_cons_succ]
            have kx := (HKX.out _ HI2.out).1; have ky := (HKX.out _ HI2.out).2
            have cx0 := kx.cell 0 rfl; have cx1 := kx.cell 1 rfl; have cy0 := ky.cell 0 rfl; have cy1 := ky.cell 1 rfl
            clear kx ky
            gi_wp2_with fail
            refine ⟨trivial, oc_wide, callsIn_any (l2 := 0) (.inl rfl) ((HLS.out W2).mono ?_)⟩
            rintro e W3 ⟨rfl, hb3⟩
            have HI3 := hid (HI2.out.keep hb3 HP.out)
            have HJ3 := hid (HJ.out _ _ _ _ HJ2.out (MvC.of_below hb3))
            have HW3 := hid (Nat.le_trans HW2.out hb3.size)
            clear hb3 cx0 cx1 cy0 cy1
            gi_wp2_with fail
            obtain ⟨pd, hpd⟩ : ∃ pd, W3.heap.size = pd := ⟨_, rfl⟩
            have hb4 := below_new W3 (.cells #[.int .i64 d.1, .int .i64 d.2] 27)
            have hk4 := Blk.new W3 27 #[.int .i64 d.1, .int .i64 d.2]
            have hs4 := size_new W3 (.cells #[.int .i64 d.1, .int .i64 d.2] 27)
            obtain ⟨W4, hW4⟩ : ∃ W4, W3.alloc (.cells #[.int .i64 d.1, .int .i64 d.2] 27) = W4 := ⟨_, rfl⟩
            rw [hW4] at hb4 hk4 hs4
            rw [hpd] at hk4
            rw [hW4, hpd]
            have HI4 := hid (HI3.out.keep hb4 HP.out); have KD4 := hid hk4
            have HJ4 := hid (HJ.out _ _ _ _ HJ3.out (MvC.of_below hb4))
            have HPD := hid (show wr.heap.size ≤ pd ∧ pd < W4.heap.size from ⟨by have := HW3.out; omega, by omega⟩)
            clear hb4 hk4 hs4 hW4 hpd
            refine wpIn_region_invG 43 (.pointer none) (vMgE x d y b1 b2) (fun f gh W' => Below W4.heap.size W4 W' ∧ (f 7 = true → ∃ p, gh 7 = .pointer (some ⟨p, 0, none⟩) ∧ W4.heap.size ≤ p ∧ Blk W' p 80 (if f 8 then #[.bool b1, .bool b2] else #[.bool false, .bool false]))) (by kernel_rfl) (by kernel_rfl) (by exact Nat.le_refl 43) ?_ ?_ ?_
            · exact ⟨(Below.refl _ _).drew, fun e => by simp at e⟩
            · intro i o f gh a W' hi hf hdep hsame hcl hval hS
              rcases i with _ | _ | _ | _ | _ | _ | _ | _ | _ | i
              all_goals simp only [List.getElem?_cons_succ, List.getElem?_cons_zero, List.getElem?_nil, Option.some.injEq, reduceCtorEq] at hi
              all_goals subst hi
              · have E4 : a.tmps[4]? = some (.pointer (some ⟨px, 0, none⟩)) := (same_of hsame 4 (by rfl)).trans rfl
                refine gin_of (l2 := 0) (.inl rfl) rfl (g_plain rfl ?_)
                exact does_load_dotB _ rfl px (by rw [eval_getD, E4]; rfl) ((HKX.out _ (HI4.out.keep hS.1 HP.out)).1) ⟨.pointer none, .inr rfl, ⟨hS.1, fun e => by rw [un_ne (by decide)] at e; rw [unN_ne (by decide), un_ne (by decide)]; exact hS.2 e⟩⟩
              · have E6 : a.tmps[6]? = some (.pointer (some ⟨pd, 0, none⟩)) := (same_of hsame 6 (by rfl)).trans rfl
                refine gin_of (l2 := 0) (.inl rfl) rfl (g_plain rfl ?_)
                exact does_load_dotB _ rfl pd (by rw [eval_getD, E6]; rfl) (KD4.out.keep hS.1) ⟨.pointer none, .inr rfl, ⟨hS.1, fun e => by rw [un_ne (by decide)] at e; rw [unN_ne (by decide), un_ne (by decide)]; exact hS.2 e⟩⟩
              · have E23 := hval 0 _ 23 rfl rfl (dep_of hdep 0 (by rfl))
                have E24 := hval 1 _ 24 rfl rfl (dep_of hdep 1 (by rfl))
                unfold vMgE at E23 E24
                refine gin_of (l2 := 0) (.inl rfl) rfl (g_plain rfl ?_)
                exact does_value (w' := W') (v := .bool b1) (by unfold dvv at *; go_simp; rw [← HB1.out]; by_cases h1 : x.1 = d.1 <;> by_cases h2 : x.2 = d.2 <;> simp [Prod.ext_iff, h1, h2]) ⟨(.pointer none), .inr rfl, ⟨hS.1, fun e => by rw [un_ne (by decide)] at e; rw [unN_ne (by decide), un_ne (by decide)]; exact hS.2 e⟩⟩
              · have E5 : a.tmps[5]? = some (.pointer (some ⟨py, 0, none⟩)) := (same_of hsame 5 (by rfl)).trans rfl
                refine gin_of (l2 := 0) (.inl rfl) rfl (g_plain rfl ?_)
                exact does_load_dotB _ rfl py (by rw [eval_getD, E5]; rfl) ((HKX.out _ (HI4.out.keep hS.1 HP.out)).2) ⟨.pointer none, .inr rfl, ⟨hS.1, fun e => by rw [un_ne (by decide)] at e; rw [unN_ne (by decide), un_ne (by decide)]; exact hS.2 e⟩⟩
              · have E6 : a.tmps[6]? = some (.pointer (some ⟨pd, 0, none⟩)) := (same_of hsame 6 (by rfl)).trans rfl
                refine gin_of (l2 := 0) (.inl rfl) rfl (g_plain rfl ?_)
                exact does_load_dotB _ rfl pd (by rw [eval_getD, E6]; rfl) (KD4.out.keep hS.1) ⟨.pointer none, .inr rfl, ⟨hS.1, fun e => by rw [un_ne (by decide)] at e; rw [unN_ne (by decide), un_ne (by decide)]; exact hS.2 e⟩⟩
              · have E26 := hval 3 _ 26 rfl rfl (dep_of hdep 3 (by rfl))
                have E27 := hval 4 _ 27 rfl rfl (dep_of hdep 4 (by rfl))
                unfold vMgE at E26 E27
                refine gin_of (l2 := 0) (.inl rfl) rfl (g_plain rfl ?_)
                exact does_value (w' := W') (v := .bool b2) (by unfold dvv at *; go_simp; rw [← HB2.out]; by_cases h1 : y.1 = d.1 <;> by_cases h2 : y.2 = d.2 <;> simp [Prod.ext_iff, h1, h2]) ⟨(.pointer none), .inr rfl, ⟨hS.1, fun e => by rw [un_ne (by decide)] at e; rw [unN_ne (by decide), un_ne (by decide)]; exact hS.2 e⟩⟩
              · have E25 := hval 2 _ 25 rfl rfl (dep_of hdep 2 (by rfl))
                have E28 := hval 5 _ 28 rfl rfl (dep_of hdep 5 (by rfl))
                unfold vMgE at E25 E28
                refine gin_of (l2 := 0) (.inl rfl) rfl (g_plain rfl ?_)
                exact does_value (w' := W') (v := .agg #[.bool b1, .bool b2]) (by go_simp) ⟨(.pointer none), .inr rfl, ⟨hS.1, fun e => by rw [un_ne (by decide)] at e; rw [unN_ne (by decide), un_ne (by decide)]; exact hS.2 e⟩⟩
              · refine gin_of (l2 := 0) (.inl rfl) rfl (g_plain rfl ?_)
                have n8 := not_yet hcl hf 8 (by rfl)
                have hz := hzs
                exact does_value (w' := W'.alloc (.cells #[.bool false, .bool false] 80)) (v := .pointer (some ⟨W'.heap.size, 0, none⟩)) (by go_simp) ⟨.pointer (some ⟨W'.heap.size, 0, none⟩), .inr rfl, hS.1.trans ((below_new W' _).mono hS.1.size), fun _ => ⟨W'.heap.size, by rw [unN_eq], hS.1.size, by rw [un_ne (by decide), n8]; exact Blk.new _ _ _⟩⟩
              · have E7 := hval 7 _ 7 rfl rfl (dep_of hdep 7 (by rfl))
                have E29 := hval 6 _ 29 rfl rfl (dep_of hdep 6 (by rfl))
                unfold vMgE at E7 E29
                refine gin_of (l2 := 0) (.inl rfl) rfl (g_plain rfl ?_)
                obtain ⟨g, eg, hgl, hk⟩ := hS.2 (dep_of hdep 7 (by rfl))
                rw [hf] at hk
                rw [eg] at E7
                exact moc_store 80 _ _ rfl g #[.bool b1, .bool b2] (by rw [eval_getD, E7]; rfl) (by rw [eval_getD, E29]; rfl) 80 _ hk (by kernel_rfl) rfl (by rfl) ⟨.pointer none, .inl rfl, hS.1.trans (below_of_grown (grown_setRow _ _ _) hS.1.size (fun b e => by injection e with e; omega)), fun _ => ⟨g, by rw [unN_ne (by decide)]; exact eg, hgl, by rw [un_eq]; exact hk.setRow _⟩⟩
            · intro gh W5 hS
              obtain ⟨ps, e7, hps, hks⟩ := hS.2 rfl
              have HI5 := hid (HI4.out.keep hS.1 HP.out); have KD5 := hid (KD4.out.keep hS.1)
              have HJ5 := hid (HJ.out _ _ _ _ HJ4.out (MvC.of_below hS.1))
              have KS5 := hid (show Blk W5 ps 80 #[.bool b1, .bool b2] from hks)
              have HPS := hid (show W4.heap.size ≤ ps from hps)
              clear hS hks hps
              simp only [putAll, vMgE, Nat.reduceAdd, Nat.zero_add, Act.put, List.setIfInBounds_toArray, List.set_cons_zero, List.set_cons_succ]
              generalize gh 7 = g7 at e7 ⊢
              subst e7
              have HNC := hid (show ¬ C pd ∧ ¬ C ps from ⟨fun h => by have := HI.out.lo _ h; have := HPD.out; omega, fun h => by have := HI.out.lo _ h; have := HPD.out; have := HPS.out; omega⟩)
              have hyt := HY.out C pre (d, b1, b2) (mrg (b2d b1 la2) (b2d b2 lb2)) W5 (by rw [HT.out.1, HM.out.1]) HJ5.out
              obtain ⟨fn, tmps, assign, body, hyl, hR⟩ := hyt
              have HR := hid hR
              have hyl2 : (Instr.yield l #[.agg #[.int .i64 d.1, .int .i64 d.2], .agg #[.bool b1, .bool b2]]).run Try.prog W5 = .ok (.round l fn tmps assign body) W5 := hyl
              have kd0 := KD5.out.cell 0 rfl; have kd1 := KD5.out.cell 1 rfl; have ks0 := KS5.out.cell 0 rfl; have ks1 := KS5.out.cell 1 rfl
              clear hyl hR
              gi_wp2_with fail
              refine ⟨oc_wide, HR.out.mono ?_⟩
              rintro e W6 ⟨C2, hk6, (⟨rfl, hj6⟩ | ⟨rfl, hj6⟩)⟩
              · have HI6 := hid (HI5.out.round hk6 HP.out)
                have HJ6 := hid hj6
                have KS6 := hid (show Blk W6 ps 80 #[.bool b1, .bool b2] from (hk6.block ps KS5.out.lt HNC.out.2).trans KS5.out)
                have HPZ := hid (show ps ≠ px ∧ ps ≠ py ∧ ps ≠ xa ∧ ps ≠ xb from by
                  have h1 := HPD.out; have h2 := HPS.out; have h3 := HI.out.bx.lt; have h4 := HI.out.bY.lt; have h5 := HI.out.sz; have h6 := HP.out.lxa; have h7 := HP.out.lxb
                  exact ⟨by omega, by omega, by omega, by omega⟩)
                have HTA := hid (show ∀ W', MgI base q1 q2 xa xb px py Aa Ab W.heap.size la2 lb2 C2 W' → Calls Try.prog 81 #[.pointer (some ⟨xa, 0, none⟩)] W' fun e W'' => e = .returned (dvv (la2.tail.headD endD)) ∧ EaB W'' xa Aa la2.tail.tail ∧ W'.grownBy W'' (some xa) from fun W' h => ocTake_calls xa Aa la2.tail W' h.mw.ea (fun k => (HP.out.aa _ k).2.1 rfl) (by have := HLA.out; have := HT.out.2.2.2.1; simp; omega))
                have HTB := hid (show ∀ (l2 : List Dt) W', MgI base q1 q2 xa xb px py Aa Ab W.heap.size l2 lb2 C2 W' → Calls Try.prog 81 #[.pointer (some ⟨xb, 0, none⟩)] W' fun e W'' => e = .returned (dvv (lb2.tail.headD endD)) ∧ EaB W'' xb Ab lb2.tail.tail ∧ W'.grownBy W'' (some xb) from fun l2 W' h => ocTake_calls xb Ab lb2.tail W' h.mw.eb (fun k => (HP.out.ab _ k).2.2 rfl) (by have := HLB.out; have := HT.out.2.2.2.2; simp; omega))
                have hE := HEE.out
                have zq1 := HI6.out.mw.q1.cell 0 rfl; have zq2 := HI6.out.mw.q2.cell 0 rfl
                have zs0 := KS6.out.cell 0 rfl; have zs1 := KS6.out.cell 1 rfl
                unfold srcV at zq1 zq2
                have HJN := hid (show (mrg la lb = (pre ++ [(d, b1, b2)]) ++ mrg (b2d b1 la2) (b2d b2 lb2) ∧ dots (b2d b1 la2) ∧ dots (b2d b2 lb2) ∧ (b2d b1 la2).length ≤ la.length ∧ (b2d b2 lb2).length ≤ lb.length) from by
                  obtain ⟨m1, m2, m3, m4, m5, m6, m7⟩ := HM.out
                  obtain ⟨t1, t2, t3, t4, t5⟩ := HT.out
                  exact ⟨by rw [t1, m1]; simp, m2, m3, by omega, by omega⟩)
                have HLE := hid (show (b2d b1 la2).length + (b2d b2 lb2).length < mz wr px py xa xb from by
                  obtain ⟨m1, m2, m3, m4, m5, m6, m7⟩ := HM.out
                  rw [HMZ.out]; omega)
                have HBT := hid HM.out.2.2.2.2.2.2
                clear hk6 hj6 kd0 kd1 ks0 ks1 hyl2 HJ5 HJ4 HJ3 HJ2 HJJ HI5 HI4 HI3 HI2 KD5 KD4 HKX HLS HT HM HMZ HR
                cases b1 with
                | true =>
                  cases b2 with
                  | true =>
                    gi_wp2_with fail
                    refine ⟨trivial, oc_wide, callsIn_any (l2 := 0) (.inl rfl) ((HTA.out W6 HI6.out).mono ?_)⟩
                    rintro e W7 ⟨rfl, he7, hg7⟩
                    obtain ⟨bx7, mi7, mv7⟩ := HI6.out.takeA HP.out HPX.out hg7 he7
                    have HJ7 := hid (HJ.out _ _ _ _ HJ6.out mv7)
                    have KS7 := hid (show Blk (W7.setRow px (dcell (la2.tail.headD endD))) ps 80 #[.bool true, .bool true] from (KS6.out.grown hg7 (fun e => HPZ.out.2.2.1 (by injection e with e; exact e.symm))).grown (grown_setRow _ _ _) (fun e => HPZ.out.1 (by injection e with e; exact e.symm)))
                    rw [HXX.out] at bx7
                    obtain ⟨x7, hx7⟩ : ∃ x7, la2.tail.headD endD = x7 := ⟨_, rfl⟩
                    rw [hx7] at mi7 HJ7 KS7 ⊢
                    have HST := hid (set_two bx7 (.int .i64 x7.1) (.int .i64 x7.2))
                    have HX7 := hid hx7
                    obtain ⟨W8, hW8⟩ : ∃ W8, W7.setRow px (dcell x7) = W8 := ⟨_, rfl⟩
                    rw [hW8] at mi7 HJ7 KS7
                    have MI7 := hid mi7
                    have HW8 := hid hW8
                    have fx0 := bx7.frozen 0; have fx1 := bx7.frozen 1
                    have gx0 : W7.cell? ⟨px, 0, none⟩ = some (.int .i64 x.1) := bx7.cell 0 rfl
                    have gx1 : W7.cell? ⟨px, 1, none⟩ = some (.int .i64 x.2) := bx7.cell 1 rfl
                    clear bx7 mi7 mv7 he7 hg7 zq1 zq2 zs0 zs1 hx7 hW8 HTA
                    have zq2 : ((W7.setCell ⟨px, 0, none⟩ (.int .i64 x7.1)).setCell ⟨px, 1, none⟩ (.int .i64 x7.2)).cell? ⟨q2, 0, none⟩ = some (.func (.func 81) #[] #[.pointer (some ⟨xb, 0, none⟩)]) := by
                      rw [HST.out, show W7.setRow px #[.int .i64 x7.1, .int .i64 x7.2] = W8 from HW8.out]; exact MI7.out.mw.q2.cell 0 rfl
                    have zs1 : ((W7.setCell ⟨px, 0, none⟩ (.int .i64 x7.1)).setCell ⟨px, 1, none⟩ (.int .i64 x7.2)).cell? ⟨ps, 1, none⟩ = some (.bool true) := by
                      rw [HST.out, show W7.setRow px #[.int .i64 x7.1, .int .i64 x7.2] = W8 from HW8.out]; exact KS7.out.cell 1 rfl
                    unfold dvv
                    gi_wp2_with fail
                    rw [HST.out, show W7.setRow px #[.int .i64 x7.1, .int .i64 x7.2] = W8 from HW8.out]
                    clear fx0 fx1 gx0 gx1 HST HW8
                    gi_wp2_with fail
                    refine ⟨trivial, oc_wide, callsIn_any (l2 := 0) (.inl rfl) ((HTB.out _ W8 (MI7.out)).mono ?_)⟩
                    rintro e W9 ⟨rfl, he9, hg9⟩
                    obtain ⟨bx9, mi9, mv9⟩ := MI7.out.takeB HP.out HPX.out hg9 he9
                    have HJ9 := hid (HJ.out _ _ _ _ HJ7.out mv9)
                    rw [HYY.out] at bx9
                    obtain ⟨x9, hx9⟩ : ∃ x9, lb2.tail.headD endD = x9 := ⟨_, rfl⟩
                    rw [hx9] at mi9 HJ9 ⊢
                    have HSS := hid (set_two bx9 (.int .i64 x9.1) (.int .i64 x9.2))
                    obtain ⟨WA, hWA⟩ : ∃ WA, W9.setRow py (dcell x9) = WA := ⟨_, rfl⟩
                    rw [hWA] at mi9 HJ9
                    have MI9 := hid mi9
                    have HWA := hid hWA
                    have HMA := hid (mi9.meas HJN.out.2.1 HJN.out.2.2.1)
                    have fx0 := bx9.frozen 0; have fx1 := bx9.frozen 1
                    have gx0 : W9.cell? ⟨py, 0, none⟩ = some (.int .i64 y.1) := bx9.cell 0 rfl
                    have gx1 : W9.cell? ⟨py, 1, none⟩ = some (.int .i64 y.2) := bx9.cell 1 rfl
                    clear bx9 mi9 mv9 he9 hg9 zq2 zs1 hx9 hWA HTB
                    unfold dvv
                    gi_wp2_with fail
                    rw [HSS.out, show W9.setRow py #[.int .i64 x9.1, .int .i64 x9.2] = WA from HWA.out]
                    clear fx0 fx1 gx0 gx1 HSS HWA
                    go_roundw
                    case rel => exact ⟨C2, _, _, pre ++ [(d, true, true)], HJN, MI9, HJ9⟩
                    case measure => have h1 := HMA.out; have h2 := HLE.out; simp only [b2d, if_true] at h2 ⊢; omega
                  | false =>
                    gi_wp2_with fail
                    refine ⟨trivial, oc_wide, callsIn_any (l2 := 0) (.inl rfl) ((HTA.out W6 HI6.out).mono ?_)⟩
                    rintro e W7 ⟨rfl, he7, hg7⟩
                    obtain ⟨bx7, mi7, mv7⟩ := HI6.out.takeA HP.out HPX.out hg7 he7
                    have HJ7 := hid (HJ.out _ _ _ _ HJ6.out mv7)
                    have KS7 := hid (show Blk (W7.setRow px (dcell (la2.tail.headD endD))) ps 80 #[.bool true, .bool false] from (KS6.out.grown hg7 (fun e => HPZ.out.2.2.1 (by injection e with e; exact e.symm))).grown (grown_setRow _ _ _) (fun e => HPZ.out.1 (by injection e with e; exact e.symm)))
                    rw [HXX.out] at bx7
                    obtain ⟨x7, hx7⟩ : ∃ x7, la2.tail.headD endD = x7 := ⟨_, rfl⟩
                    rw [hx7] at mi7 HJ7 KS7 ⊢
                    have HST := hid (set_two bx7 (.int .i64 x7.1) (.int .i64 x7.2))
                    have HX7 := hid hx7
                    obtain ⟨W8, hW8⟩ : ∃ W8, W7.setRow px (dcell x7) = W8 := ⟨_, rfl⟩
                    rw [hW8] at mi7 HJ7 KS7
                    have MI7 := hid mi7
                    have HW8 := hid hW8
                    have fx0 := bx7.frozen 0; have fx1 := bx7.frozen 1
                    have gx0 : W7.cell? ⟨px, 0, none⟩ = some (.int .i64 x.1) := bx7.cell 0 rfl
                    have gx1 : W7.cell? ⟨px, 1, none⟩ = some (.int .i64 x.2) := bx7.cell 1 rfl
                    clear bx7 mi7 mv7 he7 hg7 zq1 zq2 zs0 zs1 hx7 hW8 HTA
                    have zq2 : ((W7.setCell ⟨px, 0, none⟩ (.int .i64 x7.1)).setCell ⟨px, 1, none⟩ (.int .i64 x7.2)).cell? ⟨q2, 0, none⟩ = some (.func (.func 81) #[] #[.pointer (some ⟨xb, 0, none⟩)]) := by
                      rw [HST.out, show W7.setRow px #[.int .i64 x7.1, .int .i64 x7.2] = W8 from HW8.out]; exact MI7.out.mw.q2.cell 0 rfl
                    have zs1 : ((W7.setCell ⟨px, 0, none⟩ (.int .i64 x7.1)).setCell ⟨px, 1, none⟩ (.int .i64 x7.2)).cell? ⟨ps, 1, none⟩ = some (.bool false) := by
                      rw [HST.out, show W7.setRow px #[.int .i64 x7.1, .int .i64 x7.2] = W8 from HW8.out]; exact KS7.out.cell 1 rfl
                    unfold dvv
                    gi_wp2_with fail
                    rw [HST.out, show W7.setRow px #[.int .i64 x7.1, .int .i64 x7.2] = W8 from HW8.out]
                    clear fx0 fx1 gx0 gx1 HST HW8
                    gi_wp2_with fail
                    have HMA := hid (MI7.out.meas HJN.out.2.1 HJN.out.2.2.1)
                    go_roundw
                    case rel => exact ⟨C2, _, _, pre ++ [(d, true, false)], HJN, MI7, HJ7⟩
                    case measure => have h1 := HMA.out; have h2 := HLE.out; simp only [b2d, if_true, if_false, Bool.false_eq_true] at h2 ⊢; omega
                | false =>
                  cases b2 with
                  | true =>
                    gi_wp2_with fail
                    refine ⟨trivial, oc_wide, callsIn_any (l2 := 0) (.inl rfl) ((HTB.out _ W6 (HI6.out)).mono ?_)⟩
                    rintro e W9 ⟨rfl, he9, hg9⟩
                    obtain ⟨bx9, mi9, mv9⟩ := HI6.out.takeB HP.out HPX.out hg9 he9
                    have HJ9 := hid (HJ.out _ _ _ _ HJ6.out mv9)
                    rw [HYY.out] at bx9
                    obtain ⟨x9, hx9⟩ : ∃ x9, lb2.tail.headD endD = x9 := ⟨_, rfl⟩
                    rw [hx9] at mi9 HJ9 ⊢
                    have HSS := hid (set_two bx9 (.int .i64 x9.1) (.int .i64 x9.2))
                    obtain ⟨WA, hWA⟩ : ∃ WA, W9.setRow py (dcell x9) = WA := ⟨_, rfl⟩
                    rw [hWA] at mi9 HJ9
                    have MI9 := hid mi9
                    have HWA := hid hWA
                    have HMA := hid (mi9.meas HJN.out.2.1 HJN.out.2.2.1)
                    have fx0 := bx9.frozen 0; have fx1 := bx9.frozen 1
                    have gx0 : W9.cell? ⟨py, 0, none⟩ = some (.int .i64 y.1) := bx9.cell 0 rfl
                    have gx1 : W9.cell? ⟨py, 1, none⟩ = some (.int .i64 y.2) := bx9.cell 1 rfl
                    clear bx9 mi9 mv9 he9 hg9 zq1 zq2 zs0 zs1 hx9 hWA HTB
                    unfold dvv
                    gi_wp2_with fail
                    rw [HSS.out, show W9.setRow py #[.int .i64 x9.1, .int .i64 x9.2] = WA from HWA.out]
                    clear fx0 fx1 gx0 gx1 HSS HWA
                    go_roundw
                    case rel => exact ⟨C2, _, _, pre ++ [(d, false, true)], HJN, MI9, HJ9⟩
                    case measure => have h1 := HMA.out; have h2 := HLE.out; simp only [b2d, if_true, if_false, Bool.false_eq_true] at h2 ⊢; omega
                  | false => exact absurd HBT.out (by simp)
              · have HJX6 := hid hj6
                clear hk6 hj6
                gi_wp2_with fail
                refine bodyPost_ret (results_none rfl _ _ _) rfl ?_
                exact ⟨⟨_, rfl⟩, .inr ⟨C2, pre, _, _, by rw [HT.out.1, HM.out.1], HJX6.out⟩⟩
        · have HNX := hid hxe; have HNY := hid hye
          clear hxe hye
          gi_wp2_with fail
          refine wpIn_region_invG 43 () (vMgD x y) (fun _ _ W' => Below wr.heap.size wr W') (by kernel_rfl) (by kernel_rfl) (by exact Nat.le_refl 43) ?_ ?_ ?_
          · exact (Below.refl _ _).drew
          · intro i o f gh a W' hi hf hdep hsame hcl hval hS
            rcases i with _ | _ | _ | _ | _ | _ | _ | _ | i
            all_goals simp only [List.getElem?_cons_succ, List.getElem?_cons_zero, List.getElem?_nil, Option.some.injEq, reduceCtorEq] at hi
            all_goals subst hi
            · have E4 : a.tmps[4]? = some (.pointer (some ⟨px, 0, none⟩)) := (same_of hsame 4 (by rfl)).trans rfl
              refine gin_of (l2 := 0) (.inl rfl) rfl (g_plain rfl ?_)
              exact does_load_dotB _ rfl px (by rw [eval_getD, E4]; rfl) (HKX.out _ (HI.out.keep hS HP.out)).1 ⟨(), .inr rfl, hS⟩
            · refine gin_of (l2 := 0) (.inl rfl) rfl (g_plain rfl ?_)
              refine does_call 79 #[] (by go_simp) ((ocEnd_calls W').mono ?_)
              rintro _ W'' ⟨rfl, hb⟩
              exact ⟨_, rfl, (), .inr rfl, hS.trans (hb.mono hS.size)⟩
            · have E12 := hval 0 _ 12 rfl rfl (dep_of hdep 0 (by rfl))
              have E13 := hval 1 _ 13 rfl rfl (dep_of hdep 1 (by rfl))
              unfold vMgD at E12 E13
              refine gin_of (l2 := 0) (.inl rfl) rfl (g_plain rfl ?_)
              exact does_value (w' := W') (v := .bool false) (by have h := HNX.out; subst h; unfold dvv endD at *; go_simp) ⟨(), .inr rfl, hS⟩
            · have E14 := hval 2 _ 14 rfl rfl (dep_of hdep 2 (by rfl))
              unfold vMgD at E14
              refine gin_of (l2 := 0) (.inl rfl) rfl (g_plain rfl ?_)
              exact does_value (w' := W') (v := .bool false) (by go_simp) ⟨(), .inr rfl, hS⟩
            · have EG := hval 3 _ 15 rfl rfl (dep_of hdep 3 (by rfl))
              have E5 : a.tmps[5]? = some (.pointer (some ⟨py, 0, none⟩)) := (same_of hsame 5 (by rfl)).trans rfl
              unfold vMgD at EG
              refine gin_of (l2 := 0) (.inl rfl) rfl (g_want rfl rfl rfl EG ?_)
              exact does_load_dotB _ rfl py (by rw [eval_getD, E5]; rfl) (HKX.out _ (HI.out.keep hS HP.out)).2 ⟨(), .inr rfl, hS⟩
            · have EG := hval 3 _ 15 rfl rfl (dep_of hdep 3 (by rfl))
              unfold vMgD at EG
              refine gin_of (l2 := 0) (.inl rfl) rfl (g_want rfl rfl rfl EG ?_)
              refine does_call 79 #[] (by go_simp) ((ocEnd_calls W').mono ?_)
              rintro _ W'' ⟨rfl, hb⟩
              exact ⟨_, rfl, (), .inr rfl, hS.trans (hb.mono hS.size)⟩
            · have EG := hval 3 _ 15 rfl rfl (dep_of hdep 3 (by rfl))
              have E16 := hval 4 _ 16 rfl rfl (dep_of hdep 4 (by rfl))
              have E17 := hval 5 _ 17 rfl rfl (dep_of hdep 5 (by rfl))
              unfold vMgD at EG E16 E17
              refine gin_of (l2 := 0) (.inl rfl) rfl (g_want rfl rfl rfl EG ?_)
              exact does_value (w' := W') (v := .bool true) (by unfold dvv endD at *; go_simp; have h := HNY.out; by_cases h1 : y.1 = 17 <;> by_cases h2 : y.2 = 0 <;> simp [h1, h2] <;> exact absurd (Prod.ext h1 h2) h) ⟨(), .inr rfl, hS⟩
            · have E15 := hval 3 _ 15 rfl rfl (dep_of hdep 3 (by rfl))
              have E18 := hval 6 _ 18 rfl rfl (dep_of hdep 6 (by rfl))
              unfold vMgD at E15 E18
              refine gin_of (l2 := 0) (.inl rfl) rfl (g_plain rfl ?_)
              exact does_value (w' := W') (v := .bool true) (by go_simp) ⟨(), .inr rfl, hS⟩
          · intro gh W2 hS
            have HI2 := hid (HI.out.keep hS HP.out)
            have HJ2 := hid (HJ.out _ _ _ _ HJJ.out (MvC.of_below hS))
            have HW2 := hid hS.size
            clear hS
            simp only [putAll, vMgD, Nat.reduceAdd, Nat.zero_add, Act.put, List.setIfInBounds_toArray, List.set_cons_zero, List.set_cons_succ]
            have kx := (HKX.out _ HI2.out).1; have ky := (HKX.out _ HI2.out).2
            have cx0 := kx.cell 0 rfl; have cx1 := kx.cell 1 rfl; have cy0 := ky.cell 0 rfl; have cy1 := ky.cell 1 rfl
            clear kx ky
            gi_wp2_with fail
            refine ⟨trivial, oc_wide, callsIn_any (l2 := 0) (.inl rfl) ((HLS.out W2).mono ?_)⟩
            rintro e W3 ⟨rfl, hb3⟩
            have HI3 := hid (HI2.out.keep hb3 HP.out)
            have HJ3 := hid (HJ.out _ _ _ _ HJ2.out (MvC.of_below hb3))
            have HW3 := hid (Nat.le_trans HW2.out hb3.size)
            clear hb3 cx0 cx1 cy0 cy1
            gi_wp2_with fail
            obtain ⟨pd, hpd⟩ : ∃ pd, W3.heap.size = pd := ⟨_, rfl⟩
            have hb4 := below_new W3 (.cells #[.int .i64 d.1, .int .i64 d.2] 27)
            have hk4 := Blk.new W3 27 #[.int .i64 d.1, .int .i64 d.2]
            have hs4 := size_new W3 (.cells #[.int .i64 d.1, .int .i64 d.2] 27)
            obtain ⟨W4, hW4⟩ : ∃ W4, W3.alloc (.cells #[.int .i64 d.1, .int .i64 d.2] 27) = W4 := ⟨_, rfl⟩
            rw [hW4] at hb4 hk4 hs4
            rw [hpd] at hk4
            rw [hW4, hpd]
            have HI4 := hid (HI3.out.keep hb4 HP.out); have KD4 := hid hk4
            have HJ4 := hid (HJ.out _ _ _ _ HJ3.out (MvC.of_below hb4))
            have HPD := hid (show wr.heap.size ≤ pd ∧ pd < W4.heap.size from ⟨by have := HW3.out; omega, by omega⟩)
            clear hb4 hk4 hs4 hW4 hpd
            refine wpIn_region_invG 43 (.pointer none) (vMgE x d y b1 b2) (fun f gh W' => Below W4.heap.size W4 W' ∧ (f 7 = true → ∃ p, gh 7 = .pointer (some ⟨p, 0, none⟩) ∧ W4.heap.size ≤ p ∧ Blk W' p 80 (if f 8 then #[.bool b1, .bool b2] else #[.bool false, .bool false]))) (by kernel_rfl) (by kernel_rfl) (by exact Nat.le_refl 43) ?_ ?_ ?_
            · exact ⟨(Below.refl _ _).drew, fun e => by simp at e⟩
            · intro i o f gh a W' hi hf hdep hsame hcl hval hS
              rcases i with _ | _ | _ | _ | _ | _ | _ | _ | _ | i
              all_goals simp only [List.getElem?_cons_succ, List.getElem?_cons_zero, List.getElem?_nil, Option.some.injEq, reduceCtorEq] at hi
              all_goals subst hi
              · have E4 : a.tmps[4]? = some (.pointer (some ⟨px, 0, none⟩)) := (same_of hsame 4 (by rfl)).trans rfl
                refine gin_of (l2 := 0) (.inl rfl) rfl (g_plain rfl ?_)
                exact does_load_dotB _ rfl px (by rw [eval_getD, E4]; rfl) ((HKX.out _ (HI4.out.keep hS.1 HP.out)).1) ⟨.pointer none, .inr rfl, ⟨hS.1, fun e => by rw [un_ne (by decide)] at e; rw [unN_ne (by decide), un_ne (by decide)]; exact hS.2 e⟩⟩
              · have E6 : a.tmps[6]? = some (.pointer (some ⟨pd, 0, none⟩)) := (same_of hsame 6 (by rfl)).trans rfl
                refine gin_of (l2 := 0) (.inl rfl) rfl (g_plain rfl ?_)
                exact does_load_dotB _ rfl pd (by rw [eval_getD, E6]; rfl) (KD4.out.keep hS.1) ⟨.pointer none, .inr rfl, ⟨hS.1, fun e => by rw [un_ne (by decide)] at e; rw [unN_ne (by decide), un_ne (by decide)]; exact hS.2 e⟩⟩
              · have E23 := hval 0 _ 23 rfl rfl (dep_of hdep 0 (by rfl))
                have E24 := hval 1 _ 24 rfl rfl (dep_of hdep 1 (by rfl))
                unfold vMgE at E23 E24
                refine gin_of (l2 := 0) (.inl rfl) rfl (g_plain rfl ?_)
                exact does_value (w' := W') (v := .bool b1) (by unfold dvv at *; go_simp; rw [← HB1.out]; by_cases h1 : x.1 = d.1 <;> by_cases h2 : x.2 = d.2 <;> simp [Prod.ext_iff, h1, h2]) ⟨(.pointer none), .inr rfl, ⟨hS.1, fun e => by rw [un_ne (by decide)] at e; rw [unN_ne (by decide), un_ne (by decide)]; exact hS.2 e⟩⟩
              · have E5 : a.tmps[5]? = some (.pointer (some ⟨py, 0, none⟩)) := (same_of hsame 5 (by rfl)).trans rfl
                refine gin_of (l2 := 0) (.inl rfl) rfl (g_plain rfl ?_)
                exact does_load_dotB _ rfl py (by rw [eval_getD, E5]; rfl) ((HKX.out _ (HI4.out.keep hS.1 HP.out)).2) ⟨.pointer none, .inr rfl, ⟨hS.1, fun e => by rw [un_ne (by decide)] at e; rw [unN_ne (by decide), un_ne (by decide)]; exact hS.2 e⟩⟩
              · have E6 : a.tmps[6]? = some (.pointer (some ⟨pd, 0, none⟩)) := (same_of hsame 6 (by rfl)).trans rfl
                refine gin_of (l2 := 0) (.inl rfl) rfl (g_plain rfl ?_)
                exact does_load_dotB _ rfl pd (by rw [eval_getD, E6]; rfl) (KD4.out.keep hS.1) ⟨.pointer none, .inr rfl, ⟨hS.1, fun e => by rw [un_ne (by decide)] at e; rw [unN_ne (by decide), un_ne (by decide)]; exact hS.2 e⟩⟩
              · have E26 := hval 3 _ 26 rfl rfl (dep_of hdep 3 (by rfl))
                have E27 := hval 4 _ 27 rfl rfl (dep_of hdep 4 (by rfl))
                unfold vMgE at E26 E27
                refine gin_of (l2 := 0) (.inl rfl) rfl (g_plain rfl ?_)
                exact does_value (w' := W') (v := .bool b2) (by unfold dvv at *; go_simp; rw [← HB2.out]; by_cases h1 : y.1 = d.1 <;> by_cases h2 : y.2 = d.2 <;> simp [Prod.ext_iff, h1, h2]) ⟨(.pointer none), .inr rfl, ⟨hS.1, fun e => by rw [un_ne (by decide)] at e; rw [unN_ne (by decide), un_ne (by decide)]; exact hS.2 e⟩⟩
              · have E25 := hval 2 _ 25 rfl rfl (dep_of hdep 2 (by rfl))
                have E28 := hval 5 _ 28 rfl rfl (dep_of hdep 5 (by rfl))
                unfold vMgE at E25 E28
                refine gin_of (l2 := 0) (.inl rfl) rfl (g_plain rfl ?_)
                exact does_value (w' := W') (v := .agg #[.bool b1, .bool b2]) (by go_simp) ⟨(.pointer none), .inr rfl, ⟨hS.1, fun e => by rw [un_ne (by decide)] at e; rw [unN_ne (by decide), un_ne (by decide)]; exact hS.2 e⟩⟩
              · refine gin_of (l2 := 0) (.inl rfl) rfl (g_plain rfl ?_)
                have n8 := not_yet hcl hf 8 (by rfl)
                have hz := hzs
                exact does_value (w' := W'.alloc (.cells #[.bool false, .bool false] 80)) (v := .pointer (some ⟨W'.heap.size, 0, none⟩)) (by go_simp) ⟨.pointer (some ⟨W'.heap.size, 0, none⟩), .inr rfl, hS.1.trans ((below_new W' _).mono hS.1.size), fun _ => ⟨W'.heap.size, by rw [unN_eq], hS.1.size, by rw [un_ne (by decide), n8]; exact Blk.new _ _ _⟩⟩
              · have E7 := hval 7 _ 7 rfl rfl (dep_of hdep 7 (by rfl))
                have E29 := hval 6 _ 29 rfl rfl (dep_of hdep 6 (by rfl))
                unfold vMgE at E7 E29
                refine gin_of (l2 := 0) (.inl rfl) rfl (g_plain rfl ?_)
                obtain ⟨g, eg, hgl, hk⟩ := hS.2 (dep_of hdep 7 (by rfl))
                rw [hf] at hk
                rw [eg] at E7
                exact moc_store 80 _ _ rfl g #[.bool b1, .bool b2] (by rw [eval_getD, E7]; rfl) (by rw [eval_getD, E29]; rfl) 80 _ hk (by kernel_rfl) rfl (by rfl) ⟨.pointer none, .inl rfl, hS.1.trans (below_of_grown (grown_setRow _ _ _) hS.1.size (fun b e => by injection e with e; omega)), fun _ => ⟨g, by rw [unN_ne (by decide)]; exact eg, hgl, by rw [un_eq]; exact hk.setRow _⟩⟩
            · intro gh W5 hS
              obtain ⟨ps, e7, hps, hks⟩ := hS.2 rfl
              have HI5 := hid (HI4.out.keep hS.1 HP.out); have KD5 := hid (KD4.out.keep hS.1)
              have HJ5 := hid (HJ.out _ _ _ _ HJ4.out (MvC.of_below hS.1))
              have KS5 := hid (show Blk W5 ps 80 #[.bool b1, .bool b2] from hks)
              have HPS := hid (show W4.heap.size ≤ ps from hps)
              clear hS hks hps
              simp only [putAll, vMgE, Nat.reduceAdd, Nat.zero_add, Act.put, List.setIfInBounds_toArray, List.set_cons_zero, List.set_cons_succ]
              generalize gh 7 = g7 at e7 ⊢
              subst e7
              have HNC := hid (show ¬ C pd ∧ ¬ C ps from ⟨fun h => by have := HI.out.lo _ h; have := HPD.out; omega, fun h => by have := HI.out.lo _ h; have := HPD.out; have := HPS.out; omega⟩)
              have hyt := HY.out C pre (d, b1, b2) (mrg (b2d b1 la2) (b2d b2 lb2)) W5 (by rw [HT.out.1, HM.out.1]) HJ5.out
              obtain ⟨fn, tmps, assign, body, hyl, hR⟩ := hyt
              have HR := hid hR
              have hyl2 : (Instr.yield l #[.agg #[.int .i64 d.1, .int .i64 d.2], .agg #[.bool b1, .bool b2]]).run Try.prog W5 = .ok (.round l fn tmps assign body) W5 := hyl
              have kd0 := KD5.out.cell 0 rfl; have kd1 := KD5.out.cell 1 rfl; have ks0 := KS5.out.cell 0 rfl; have ks1 := KS5.out.cell 1 rfl
              clear hyl hR
              gi_wp2_with fail
              refine ⟨oc_wide, HR.out.mono ?_⟩
              rintro e W6 ⟨C2, hk6, (⟨rfl, hj6⟩ | ⟨rfl, hj6⟩)⟩
              · have HI6 := hid (HI5.out.round hk6 HP.out)
                have HJ6 := hid hj6
                have KS6 := hid (show Blk W6 ps 80 #[.bool b1, .bool b2] from (hk6.block ps KS5.out.lt HNC.out.2).trans KS5.out)
                have HPZ := hid (show ps ≠ px ∧ ps ≠ py ∧ ps ≠ xa ∧ ps ≠ xb from by
                  have h1 := HPD.out; have h2 := HPS.out; have h3 := HI.out.bx.lt; have h4 := HI.out.bY.lt; have h5 := HI.out.sz; have h6 := HP.out.lxa; have h7 := HP.out.lxb
                  exact ⟨by omega, by omega, by omega, by omega⟩)
                have HTA := hid (show ∀ W', MgI base q1 q2 xa xb px py Aa Ab W.heap.size la2 lb2 C2 W' → Calls Try.prog 81 #[.pointer (some ⟨xa, 0, none⟩)] W' fun e W'' => e = .returned (dvv (la2.tail.headD endD)) ∧ EaB W'' xa Aa la2.tail.tail ∧ W'.grownBy W'' (some xa) from fun W' h => ocTake_calls xa Aa la2.tail W' h.mw.ea (fun k => (HP.out.aa _ k).2.1 rfl) (by have := HLA.out; have := HT.out.2.2.2.1; simp; omega))
                have HTB := hid (show ∀ (l2 : List Dt) W', MgI base q1 q2 xa xb px py Aa Ab W.heap.size l2 lb2 C2 W' → Calls Try.prog 81 #[.pointer (some ⟨xb, 0, none⟩)] W' fun e W'' => e = .returned (dvv (lb2.tail.headD endD)) ∧ EaB W'' xb Ab lb2.tail.tail ∧ W'.grownBy W'' (some xb) from fun l2 W' h => ocTake_calls xb Ab lb2.tail W' h.mw.eb (fun k => (HP.out.ab _ k).2.2 rfl) (by have := HLB.out; have := HT.out.2.2.2.2; simp; omega))
                have hE := HEE.out
                have zq1 := HI6.out.mw.q1.cell 0 rfl; have zq2 := HI6.out.mw.q2.cell 0 rfl
                have zs0 := KS6.out.cell 0 rfl; have zs1 := KS6.out.cell 1 rfl
                unfold srcV at zq1 zq2
                have HJN := hid (show (mrg la lb = (pre ++ [(d, b1, b2)]) ++ mrg (b2d b1 la2) (b2d b2 lb2) ∧ dots (b2d b1 la2) ∧ dots (b2d b2 lb2) ∧ (b2d b1 la2).length ≤ la.length ∧ (b2d b2 lb2).length ≤ lb.length) from by
                  obtain ⟨m1, m2, m3, m4, m5, m6, m7⟩ := HM.out
                  obtain ⟨t1, t2, t3, t4, t5⟩ := HT.out
                  exact ⟨by rw [t1, m1]; simp, m2, m3, by omega, by omega⟩)
                have HLE := hid (show (b2d b1 la2).length + (b2d b2 lb2).length < mz wr px py xa xb from by
                  obtain ⟨m1, m2, m3, m4, m5, m6, m7⟩ := HM.out
                  rw [HMZ.out]; omega)
                have HBT := hid HM.out.2.2.2.2.2.2
                clear hk6 hj6 kd0 kd1 ks0 ks1 hyl2 HJ5 HJ4 HJ3 HJ2 HJJ HI5 HI4 HI3 HI2 KD5 KD4 HKX HLS HT HM HMZ HR
                cases b1 with
                | true =>
                  cases b2 with
                  | true =>
                    gi_wp2_with fail
                    refine ⟨trivial, oc_wide, callsIn_any (l2 := 0) (.inl rfl) ((HTA.out W6 HI6.out).mono ?_)⟩
                    rintro e W7 ⟨rfl, he7, hg7⟩
                    obtain ⟨bx7, mi7, mv7⟩ := HI6.out.takeA HP.out HPX.out hg7 he7
                    have HJ7 := hid (HJ.out _ _ _ _ HJ6.out mv7)
                    have KS7 := hid (show Blk (W7.setRow px (dcell (la2.tail.headD endD))) ps 80 #[.bool true, .bool true] from (KS6.out.grown hg7 (fun e => HPZ.out.2.2.1 (by injection e with e; exact e.symm))).grown (grown_setRow _ _ _) (fun e => HPZ.out.1 (by injection e with e; exact e.symm)))
                    rw [HXX.out] at bx7
                    obtain ⟨x7, hx7⟩ : ∃ x7, la2.tail.headD endD = x7 := ⟨_, rfl⟩
                    rw [hx7] at mi7 HJ7 KS7 ⊢
                    have HST := hid (set_two bx7 (.int .i64 x7.1) (.int .i64 x7.2))
                    have HX7 := hid hx7
                    obtain ⟨W8, hW8⟩ : ∃ W8, W7.setRow px (dcell x7) = W8 := ⟨_, rfl⟩
                    rw [hW8] at mi7 HJ7 KS7
                    have MI7 := hid mi7
                    have HW8 := hid hW8
                    have fx0 := bx7.frozen 0; have fx1 := bx7.frozen 1
                    have gx0 : W7.cell? ⟨px, 0, none⟩ = some (.int .i64 x.1) := bx7.cell 0 rfl
                    have gx1 : W7.cell? ⟨px, 1, none⟩ = some (.int .i64 x.2) := bx7.cell 1 rfl
                    clear bx7 mi7 mv7 he7 hg7 zq1 zq2 zs0 zs1 hx7 hW8 HTA
                    have zq2 : ((W7.setCell ⟨px, 0, none⟩ (.int .i64 x7.1)).setCell ⟨px, 1, none⟩ (.int .i64 x7.2)).cell? ⟨q2, 0, none⟩ = some (.func (.func 81) #[] #[.pointer (some ⟨xb, 0, none⟩)]) := by
                      rw [HST.out, show W7.setRow px #[.int .i64 x7.1, .int .i64 x7.2] = W8 from HW8.out]; exact MI7.out.mw.q2.cell 0 rfl
                    have zs1 : ((W7.setCell ⟨px, 0, none⟩ (.int .i64 x7.1)).setCell ⟨px, 1, none⟩ (.int .i64 x7.2)).cell? ⟨ps, 1, none⟩ = some (.bool true) := by
                      rw [HST.out, show W7.setRow px #[.int .i64 x7.1, .int .i64 x7.2] = W8 from HW8.out]; exact KS7.out.cell 1 rfl
                    unfold dvv
                    gi_wp2_with fail
                    rw [HST.out, show W7.setRow px #[.int .i64 x7.1, .int .i64 x7.2] = W8 from HW8.out]
                    clear fx0 fx1 gx0 gx1 HST HW8
                    gi_wp2_with fail
                    refine ⟨trivial, oc_wide, callsIn_any (l2 := 0) (.inl rfl) ((HTB.out _ W8 (MI7.out)).mono ?_)⟩
                    rintro e W9 ⟨rfl, he9, hg9⟩
                    obtain ⟨bx9, mi9, mv9⟩ := MI7.out.takeB HP.out HPX.out hg9 he9
                    have HJ9 := hid (HJ.out _ _ _ _ HJ7.out mv9)
                    rw [HYY.out] at bx9
                    obtain ⟨x9, hx9⟩ : ∃ x9, lb2.tail.headD endD = x9 := ⟨_, rfl⟩
                    rw [hx9] at mi9 HJ9 ⊢
                    have HSS := hid (set_two bx9 (.int .i64 x9.1) (.int .i64 x9.2))
                    obtain ⟨WA, hWA⟩ : ∃ WA, W9.setRow py (dcell x9) = WA := ⟨_, rfl⟩
                    rw [hWA] at mi9 HJ9
                    have MI9 := hid mi9
                    have HWA := hid hWA
                    have HMA := hid (mi9.meas HJN.out.2.1 HJN.out.2.2.1)
                    have fx0 := bx9.frozen 0; have fx1 := bx9.frozen 1
                    have gx0 : W9.cell? ⟨py, 0, none⟩ = some (.int .i64 y.1) := bx9.cell 0 rfl
                    have gx1 : W9.cell? ⟨py, 1, none⟩ = some (.int .i64 y.2) := bx9.cell 1 rfl
                    clear bx9 mi9 mv9 he9 hg9 zq2 zs1 hx9 hWA HTB
                    unfold dvv
                    gi_wp2_with fail
                    rw [HSS.out, show W9.setRow py #[.int .i64 x9.1, .int .i64 x9.2] = WA from HWA.out]
                    clear fx0 fx1 gx0 gx1 HSS HWA
                    go_roundw
                    case rel => exact ⟨C2, _, _, pre ++ [(d, true, true)], HJN, MI9, HJ9⟩
                    case measure => have h1 := HMA.out; have h2 := HLE.out; simp only [b2d, if_true] at h2 ⊢; omega
                  | false =>
                    gi_wp2_with fail
                    refine ⟨trivial, oc_wide, callsIn_any (l2 := 0) (.inl rfl) ((HTA.out W6 HI6.out).mono ?_)⟩
                    rintro e W7 ⟨rfl, he7, hg7⟩
                    obtain ⟨bx7, mi7, mv7⟩ := HI6.out.takeA HP.out HPX.out hg7 he7
                    have HJ7 := hid (HJ.out _ _ _ _ HJ6.out mv7)
                    have KS7 := hid (show Blk (W7.setRow px (dcell (la2.tail.headD endD))) ps 80 #[.bool true, .bool false] from (KS6.out.grown hg7 (fun e => HPZ.out.2.2.1 (by injection e with e; exact e.symm))).grown (grown_setRow _ _ _) (fun e => HPZ.out.1 (by injection e with e; exact e.symm)))
                    rw [HXX.out] at bx7
                    obtain ⟨x7, hx7⟩ : ∃ x7, la2.tail.headD endD = x7 := ⟨_, rfl⟩
                    rw [hx7] at mi7 HJ7 KS7 ⊢
                    have HST := hid (set_two bx7 (.int .i64 x7.1) (.int .i64 x7.2))
                    have HX7 := hid hx7
                    obtain ⟨W8, hW8⟩ : ∃ W8, W7.setRow px (dcell x7) = W8 := ⟨_, rfl⟩
                    rw [hW8] at mi7 HJ7 KS7
                    have MI7 := hid mi7
                    have HW8 := hid hW8
                    have fx0 := bx7.frozen 0; have fx1 := bx7.frozen 1
                    have gx0 : W7.cell? ⟨px, 0, none⟩ = some (.int .i64 x.1) := bx7.cell 0 rfl
                    have gx1 : W7.cell? ⟨px, 1, none⟩ = some (.int .i64 x.2) := bx7.cell 1 rfl
                    clear bx7 mi7 mv7 he7 hg7 zq1 zq2 zs0 zs1 hx7 hW8 HTA
                    have zq2 : ((W7.setCell ⟨px, 0, none⟩ (.int .i64 x7.1)).setCell ⟨px, 1, none⟩ (.int .i64 x7.2)).cell? ⟨q2, 0, none⟩ = some (.func (.func 81) #[] #[.pointer (some ⟨xb, 0, none⟩)]) := by
                      rw [HST.out, show W7.setRow px #[.int .i64 x7.1, .int .i64 x7.2] = W8 from HW8.out]; exact MI7.out.mw.q2.cell 0 rfl
                    have zs1 : ((W7.setCell ⟨px, 0, none⟩ (.int .i64 x7.1)).setCell ⟨px, 1, none⟩ (.int .i64 x7.2)).cell? ⟨ps, 1, none⟩ = some (.bool false) := by
                      rw [HST.out, show W7.setRow px #[.int .i64 x7.1, .int .i64 x7.2] = W8 from HW8.out]; exact KS7.out.cell 1 rfl
                    unfold dvv
                    gi_wp2_with fail
                    rw [HST.out, show W7.setRow px #[.int .i64 x7.1, .int .i64 x7.2] = W8 from HW8.out]
                    clear fx0 fx1 gx0 gx1 HST HW8
                    gi_wp2_with fail
                    have HMA := hid (MI7.out.meas HJN.out.2.1 HJN.out.2.2.1)
                    go_roundw
                    case rel => exact ⟨C2, _, _, pre ++ [(d, true, false)], HJN, MI7, HJ7⟩
                    case measure => have h1 := HMA.out; have h2 := HLE.out; simp only [b2d, if_true, if_false, Bool.false_eq_true] at h2 ⊢; omega
                | false =>
                  cases b2 with
                  | true =>
                    gi_wp2_with fail
                    refine ⟨trivial, oc_wide, callsIn_any (l2 := 0) (.inl rfl) ((HTB.out _ W6 (HI6.out)).mono ?_)⟩
                    rintro e W9 ⟨rfl, he9, hg9⟩
                    obtain ⟨bx9, mi9, mv9⟩ := HI6.out.takeB HP.out HPX.out hg9 he9
                    have HJ9 := hid (HJ.out _ _ _ _ HJ6.out mv9)
                    rw [HYY.out] at bx9
                    obtain ⟨x9, hx9⟩ : ∃ x9, lb2.tail.headD endD = x9 := ⟨_, rfl⟩
                    rw [hx9] at mi9 HJ9 ⊢
                    have HSS := hid (set_two bx9 (.int .i64 x9.1) (.int .i64 x9.2))
                    obtain ⟨WA, hWA⟩ : ∃ WA, W9.setRow py (dcell x9) = WA := ⟨_, rfl⟩
                    rw [hWA] at mi9 HJ9
                    have MI9 := hid mi9
                    have HWA := hid hWA
                    have HMA := hid (mi9.meas HJN.out.2.1 HJN.out.2.2.1)
                    have fx0 := bx9.frozen 0; have fx1 := bx9.frozen 1
                    have gx0 : W9.cell? ⟨py, 0, none⟩ = some (.int .i64 y.1) := bx9.cell 0 rfl
                    have gx1 : W9.cell? ⟨py, 1, none⟩ = some (.int .i64 y.2) := bx9.cell 1 rfl
                    clear bx9 mi9 mv9 he9 hg9 zq1 zq2 zs0 zs1 hx9 hWA HTB
                    unfold dvv
                    gi_wp2_with fail
                    rw [HSS.out, show W9.setRow py #[.int .i64 x9.1, .int .i64 x9.2] = WA from HWA.out]
                    clear fx0 fx1 gx0 gx1 HSS HWA
                    go_roundw
                    case rel => exact ⟨C2, _, _, pre ++ [(d, false, true)], HJN, MI9, HJ9⟩
                    case measure => have h1 := HMA.out; have h2 := HLE.out; simp only [b2d, if_true, if_false, Bool.false_eq_true] at h2 ⊢; omega
                  | false => exact absurd HBT.out (by simp)
              · have HJX6 := hid hj6
                clear hk6 hj6
                gi_wp2_with fail
                refine bodyPost_ret (results_none rfl _ _ _) rfl ?_
                exact ⟨⟨_, rfl⟩, .inr ⟨C2, pre, _, _, by rw [HT.out.1, HM.out.1], HJX6.out⟩⟩
end Go.Proofs.Ythjflgnoeenenaa
