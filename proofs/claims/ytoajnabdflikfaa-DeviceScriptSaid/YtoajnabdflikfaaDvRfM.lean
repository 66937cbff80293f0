/- The plain reference's device in memory: what its blocks hold, and what keeps that. -/
import Derived.Test.YtoajnabdflikfaaDvMath
import Derived.Test.YtoajnabdflikfaaAppS
import Derived.Lib.SmallJoins
namespace Go.Proofs.Ytoajnabdflikfaa
open Go.RowKit

/-- 64 bytes in a block of D -/
def SecV (w : World) (D : List Nat) (v : Value) (bs : List UInt8) : Prop :=
  ∃ b c, v = .slice (some ⟨b, 0, none⟩) 64 c ∧ b ∈ D ∧ SB w (b + 1) (some ⟨b, 0, none⟩) 64 bs ∧ 64 ≤ c
/-- the cells of loose writes -/
def wcells : List (Nat × List UInt8) → List Value → List Value
  | x :: l, u :: us => .int .i64 (x.1 : Int) :: u :: wcells l us
  | _, _ => []
theorem wcells_length : ∀ (l : List (Nat × List UInt8)) (us : List Value), us.length = l.length → (wcells l us).length = l.length * 2
  | [], us, _ => by cases us <;> rfl
  | x :: l, [], h => by simp at h
  | x :: l, u :: us, h => by
    simp only [wcells, List.length_cons, wcells_length l us (by simpa using h)]; omega
theorem wcells_at : ∀ (l : List (Nat × List UInt8)) (us : List Value), us.length = l.length → ∀ (k : Nat) x u, l[k]? = some x → us[k]? = some u → (wcells l us)[2 * k]? = some (.int .i64 (x.1 : Int)) ∧ (wcells l us)[2 * k + 1]? = some u
  | [], us, _ => fun k x u hx => by simp at hx
  | y :: l, [], h => by simp at h
  | y :: l, v :: us, h => fun k x u hx hu => by
    cases k with
    | zero =>
      simp at hx hu
      subst hx; subst hu
      exact ⟨rfl, rfl⟩
    | succ k =>
      have := wcells_at l us (by simpa using h) k x u (by simpa using hx) (by simpa using hu)
      simp only [wcells]
      rw [show 2 * (k + 1) = 2 * k + 1 + 1 by omega]
      exact this
theorem wcells_snoc : ∀ (l : List (Nat × List UInt8)) (us : List Value) (x : Nat × List UInt8) (u : Value), us.length = l.length → wcells (l ++ [x]) (us ++ [u]) = wcells l us ++ [.int .i64 (x.1 : Int), u]
  | [], [], x, u, _ => rfl
  | [], _ :: _, x, u, h => by simp at h
  | _ :: _, [], x, u, h => by simp at h
  | y :: l, v :: us, x, u, h => by
    simp only [List.cons_append, wcells, wcells_snoc l us x u (by simpa using h)]
structure RdIn (w : World) (base g : Nat) (A R : Option Addr) (cA cR : Nat) (vs us : List Value) (D : List Nat) (m : Nat) (z : Int) (s : DS) : Prop where
  hd : Blk w g 69 #[.slice A s.n cA, .slice R s.loose.length cR, .bool s.fuse.isSome, .int .i64 z, .bool s.out]
  lr : w.ownsRow base 37 1 (.slice A s.n cA) s.n vs
  wr : w.ownsRow base 75 2 (.slice R s.loose.length cR) s.loose.length (wcells s.loose us)
  ul : us.length = s.loose.length
  lv : ∀ (i : Nat) v, vs[i]? = some v → SecV w D v (secAt s.img i)
  wv : ∀ (k : Nat) x u, s.loose[k]? = some x → us[k]? = some u → SecV w D u x.2
  hg : base ≤ g
  gA : rowOf A ≠ some g
  gR : rowOf R ≠ some g
  AR : ∀ b, rowOf A = some b → rowOf R ≠ some b
  dd : ∀ b ∈ D, base ≤ b ∧ b < w.heap.size ∧ b ≠ g ∧ rowOf A ≠ some b ∧ rowOf R ≠ some b
  zf : ∀ k, s.fuse = some k → z = (k : Int)
  zl : -(m : Int) ≤ z
  zh : z ≤ 9223372036854775807
def fpR (g : Nat) (A R : Option Addr) (D : List Nat) (b : Nat) : Prop := b = g ∨ rowOf A = some b ∨ rowOf R = some b ∨ b ∈ D
section
variable {w w' : World} {base g cA cR m : Nat} {A R : Option Addr} {vs us : List Value} {D L : List Nat} {z : Int} {s : DS}
theorem SecV.chg {v : Value} {bs : List UInt8} (h : SecV w D v bs) (hc : Chg L w w') (hd : ∀ b ∈ D, b ∉ L) : SecV w' D v bs := by
  obtain ⟨b, c, e, hb, hs, h64⟩ := h
  exact ⟨b, c, e, hb, hs.chg hc (fun b' off e _ => by cases e; exact hd b hb), h64⟩
theorem SecV.more {D' : List Nat} {v : Value} {bs : List UInt8} (h : SecV w D v bs) (hd : ∀ b ∈ D, b ∈ D') : SecV w D' v bs := by
  obtain ⟨b, c, e, hb, hs, h64⟩ := h
  exact ⟨b, c, e, hd b hb, hs, h64⟩
theorem SecV.of_own {v : Value} {bs : List UInt8} (h : Own w base 5 v 64 bs) (hd : ∀ b, v.ownBlock = some b → b ∈ D) : SecV w D v bs := by
  obtain ⟨q, c, rfl⟩ := Go.Joins.ownsRow_form h (by omega)
  obtain ⟨A', c', e, h64, hs, -⟩ := h.sb
  cases e
  exact ⟨q, c, rfl, hd q rfl, ⟨hs.1, fun hn => by
    obtain ⟨b, off, e, -, hx⟩ := hs.2 hn
    cases e
    exact ⟨q, 0, rfl, Nat.lt_succ_self _, hx⟩⟩, h64⟩
theorem RdIn.chg (h : RdIn w base g A R cA cR vs us D m z s) (hc : Chg L w w') (hd : ∀ b, fpR g A R D b → b ∉ L) : RdIn w' base g A R cA cR vs us D m z s where
  hd := h.hd.chg hc (hd g (.inl rfl))
  lr := ownsRow_chg h.lr hc (fun b hb => hd b (.inr (.inl (by rwa [own_row] at hb))))
  wr := ownsRow_chg h.wr hc (fun b hb => hd b (.inr (.inr (.inl (by rwa [own_row] at hb)))))
  ul := h.ul
  lv := fun i v hv => (h.lv i v hv).chg hc (fun b hb => hd b (.inr (.inr (.inr hb))))
  wv := fun k x u hx hu => (h.wv k x u hx hu).chg hc (fun b hb => hd b (.inr (.inr (.inr hb))))
  hg := h.hg
  gA := h.gA
  gR := h.gR
  AR := h.AR
  dd := fun b hb => ⟨(h.dd b hb).1, Nat.lt_of_lt_of_le (h.dd b hb).2.1 hc.size, (h.dd b hb).2.2⟩
  zf := h.zf
  zl := h.zl
  zh := h.zh
theorem RdIn.keep (h : RdIn w base g A R cA cR vs us D m z s) (hb : Below w.heap.size w w') : RdIn w' base g A R cA cR vs us D m z s := h.chg (L := []) (Chg.of_below hb) (fun _ _ => by simp)
theorem RdIn.lt (h : RdIn w base g A R cA cR vs us D m z s) : ∀ b, fpR g A R D b → base ≤ b ∧ b < w.heap.size := by
  rintro b (rfl | hb | hb | hb)
  · exact ⟨h.hg, h.hd.lt⟩
  · exact World.ownsRow.lt h.lr b (by rw [own_row]; exact hb)
  · exact World.ownsRow.lt h.wr b (by rw [own_row]; exact hb)
  · exact ⟨(h.dd b hb).1, (h.dd b hb).2.1⟩
theorem RdIn.vl (h : RdIn w base g A R cA cR vs us D m z s) : vs.length = s.n := by have := h.lr.1; omega
/-- only the head is changed, and of the state neither sectors nor loose writes -/
theorem RdIn.head {m' : Nat} {z' : Int} {s' : DS} (h : RdIn w base g A R cA cR vs us D m z s) (hc : Chg [g] w w') (hn : s'.n = s.n) (hi : s'.img = s.img) (hl : s'.loose = s.loose)
    (hb : Blk w' g 69 #[.slice A s.n cA, .slice R s.loose.length cR, .bool s'.fuse.isSome, .int .i64 z', .bool s'.out]) (h1 : ∀ k, s'.fuse = some k → z' = (k : Int)) (h2 : -(m' : Int) ≤ z') (h3 : z' ≤ 9223372036854775807) : RdIn w' base g A R cA cR vs us D m' z' s' where
  hd := by rw [hn, hl]; exact hb
  lr := by rw [hn]; exact ownsRow_chg h.lr hc (fun b hb => by rw [own_row] at hb; intro hm; rw [List.mem_singleton.1 hm] at hb; exact h.gA hb)
  wr := by rw [hl]; exact ownsRow_chg h.wr hc (fun b hb => by rw [own_row] at hb; intro hm; rw [List.mem_singleton.1 hm] at hb; exact h.gR hb)
  ul := by rw [hl]; exact h.ul
  lv := fun i v hv => by rw [hi]; exact (h.lv i v hv).chg hc (fun b hb hm => (h.dd b hb).2.2.1 (List.mem_singleton.1 hm))
  wv := fun k x u hx hu => by rw [hl] at hx; exact (h.wv k x u hx hu).chg hc (fun b hb hm => (h.dd b hb).2.2.1 (List.mem_singleton.1 hm))
  hg := h.hg
  gA := h.gA
  gR := h.gR
  AR := h.AR
  dd := fun b hb => ⟨(h.dd b hb).1, Nat.lt_of_lt_of_le (h.dd b hb).2.1 hc.size, (h.dd b hb).2.2⟩
  zf := h1
  zl := h2
  zh := h3
/-- the loose writes are gone -/
theorem RdIn.none_ {s' : DS} (h : RdIn w base g A R cA cR vs us D m z s) (hc : Chg [g] w w') (hn : s'.n = s.n) (hi : s'.img = s.img) (hl : s'.loose = [])
    (hb : Blk w' g 69 #[.slice A s.n cA, .slice none 0 0, .bool s'.fuse.isSome, .int .i64 z, .bool s'.out]) (h1 : ∀ k, s'.fuse = some k → z = (k : Int)) : RdIn w' base g A none cA 0 vs [] D m z s' where
  hd := by rw [hn, hl]; exact hb
  lr := by rw [hn]; exact ownsRow_chg h.lr hc (fun b hb => by rw [own_row] at hb; intro hm; rw [List.mem_singleton.1 hm] at hb; exact h.gA hb)
  wr := by rw [hl]; exact World.ownsRow_nil _ _ _ _
  ul := by rw [hl]; rfl
  lv := fun i v hv => by rw [hi]; exact (h.lv i v hv).chg hc (fun b hb hm => (h.dd b hb).2.2.1 (List.mem_singleton.1 hm))
  wv := fun k x u hx hu => by simp at hu
  hg := h.hg
  gA := h.gA
  gR := by intro e; cases e
  AR := by intro b _ e; cases e
  dd := fun b hb => ⟨(h.dd b hb).1, Nat.lt_of_lt_of_le (h.dd b hb).2.1 hc.size, (h.dd b hb).2.2.1, (h.dd b hb).2.2.2.1, by intro e; cases e⟩
  zf := h1
  zl := h.zl
  zh := h.zh
/-- a sector's bytes are others -/
theorem RdIn.sec {a i : Nat} {u : Value} {x : List UInt8} {D' : List Nat} (h : RdIn w base g (some ⟨a, 0, none⟩) R cA cR vs us D m z s) (hok : s.img.length = 64 * s.n) (hi : i < s.n) (hx : x.length = 64) (hD : ∀ b ∈ D, b ∈ D') (hD2 : ∀ b ∈ D', b ∈ D ∨ (base ≤ b ∧ b < w.heap.size ∧ b ≠ g ∧ b ≠ a ∧ rowOf R ≠ some b)) (hu : SecV w D' u x) :
    RdIn (w.setCell ⟨a, i, none⟩ u) base g (some ⟨a, 0, none⟩) R cA cR (vs.set i u) us D' m z { s with img := secPut s.img i x } := by
  have hc : Chg [a] w (w.setCell ⟨a, i, none⟩ u) := chg_set (by simp) _ _
  have hD3 : ∀ b ∈ D', base ≤ b ∧ b < w.heap.size ∧ b ≠ g ∧ b ≠ a ∧ rowOf R ≠ some b := fun b hb => by
    rcases hD2 b hb with h1 | h1
    · have := h.dd b h1
      exact ⟨this.1, this.2.1, this.2.2.1, fun e => this.2.2.2.1 (by rw [e]; rfl), this.2.2.2.2⟩
    · exact h1
  have hd2 : ∀ b ∈ D', b ∉ [a] := fun b hb hm => (hD3 b hb).2.2.2.1 (List.mem_singleton.1 hm)
  refine ⟨h.hd.chg hc (fun hm => h.gA (by rw [List.mem_singleton.1 hm]; rfl)), (World.ownsRow.stored h.lr i u).1, ownsRow_chg h.wr hc (fun b hb => by rw [own_row] at hb; intro hm; rw [List.mem_singleton.1 hm] at hb; exact h.AR a rfl hb), h.ul, fun j v hv => ?_, fun k y v hy hv => ((h.wv k y v hy hv).more hD).chg hc hd2, h.hg, h.gA, h.gR, h.AR, fun b hb => ?_, h.zf, h.zl, h.zh⟩
  · show SecV _ D' v (secAt (secPut s.img i x) j)
    by_cases e : j = i
    · subst e
      rw [List.getElem?_set_self (by rw [h.vl]; exact hi)] at hv
      cases hv
      rw [secPut_same hok hi hx]
      exact hu.chg hc hd2
    · rw [List.getElem?_set_ne (fun e2 => e e2.symm)] at hv
      have hj : j < s.n := by have := (List.getElem?_eq_some_iff.1 hv).1; rw [h.vl] at this; exact this
      rw [secPut_other hok hi hx hj e]
      exact ((h.lv j v hv).more hD).chg hc hd2
  · have := hD3 b hb
    exact ⟨this.1, Nat.lt_of_lt_of_le this.2.1 hc.size, this.2.2.1, fun e => this.2.2.2.1 (by cases e; rfl), this.2.2.2.2⟩
end
/-- Block g is a device of the plain reference, all of whose blocks are in F. -/
def RdB (w : World) (base : Nat) (F : List Nat) (g m : Nat) (s : DS) : Prop :=
  ∃ A R cA cR vs us D z, RdIn w base g A R cA cR vs us D m z s ∧ s.OK ∧ Sane s ∧ (∀ b, fpR g A R D b → b ∈ F) ∧ ∀ b ∈ F, base ≤ b ∧ b < w.heap.size
section
variable {w w' : World} {base g m : Nat} {F L : List Nat} {s : DS}
theorem RdB.ok (h : RdB w base F g m s) : s.OK := by obtain ⟨_, _, _, _, _, _, _, _, _, h, _⟩ := h; exact h
theorem RdB.sane (h : RdB w base F g m s) : Sane s := by obtain ⟨_, _, _, _, _, _, _, _, _, _, h, _⟩ := h; exact h
theorem RdB.lt (h : RdB w base F g m s) : ∀ b ∈ F, base ≤ b ∧ b < w.heap.size := by obtain ⟨_, _, _, _, _, _, _, _, _, _, _, _, h⟩ := h; exact h
theorem RdB.chg (h : RdB w base F g m s) (hc : Chg L w w') (hd : ∀ b ∈ F, b ∉ L) : RdB w' base F g m s := by
  obtain ⟨A, R, cA, cR, vs, us, D, z, h1, h2, h3, h4, h5⟩ := h
  exact ⟨A, R, cA, cR, vs, us, D, z, h1.chg hc (fun b hb => hd b (h4 b hb)), h2, h3, h4, fun b hb => ⟨(h5 b hb).1, Nat.lt_of_lt_of_le (h5 b hb).2 hc.size⟩⟩
theorem RdB.keep (h : RdB w base F g m s) (hb : Below w.heap.size w w') : RdB w' base F g m s := h.chg (L := []) (Chg.of_below hb) (fun _ _ => by simp)
theorem RdB.up (h : RdB w base F g m s) {m' : Nat} (hm : m ≤ m') : RdB w base F g m' s := by
  obtain ⟨A, R, cA, cR, vs, us, D, z, h1, h2⟩ := h
  exact ⟨A, R, cA, cR, vs, us, D, z, { h1 with zl := by have := h1.zl; omega }, h2⟩
end
/-- what a call of it leaves -/
def RdPost (w : World) (base : Nat) (F : List Nat) (g m : Nat) (s' : DS) (v : Value) (e : Ending) (w' : World) : Prop :=
  e = .returned v ∧ ∃ F', RdB w' base F' g m s' ∧ Chg F w w' ∧ ∀ b ∈ F', b ∈ F ∨ w.heap.size ≤ b
theorem RdPost.same {w : World} {base g m m' : Nat} {F : List Nat} {s : DS} (h : RdB w base F g m s) (hm : m ≤ m') (v : Value) : RdPost w base F g m' s v (.returned v) w := ⟨rfl, F, h.up hm, Chg.refl _ _, fun _ hb => .inl hb⟩
/-- what is left, by its parts -/
theorem RdPost.of {w w' : World} {base g m : Nat} {A A' R R' : Option Addr} {cA' cR' : Nat} {vs' us' : List Value} {D D' F : List Nat} {z' : Int} {s' : DS} (hF : ∀ b, fpR g A R D b → b ∈ F) (hlt : ∀ b ∈ F, base ≤ b ∧ b < w.heap.size)
    (h : RdIn w' base g A' R' cA' cR' vs' us' D' m z' s') (hok : s'.OK) (hs : Sane s') (hc : Chg F w w') (hn : ∀ b, fpR g A' R' D' b → b ∈ F ∨ w.heap.size ≤ b) (v : Value) : RdPost w base F g m s' v (.returned v) w' := by
  have hlt' := h.lt
  refine ⟨rfl, F ++ (g :: ((rowOf A').toList ++ ((rowOf R').toList ++ D'))), ⟨A', R', cA', cR', vs', us', D', z', h, hok, hs, fun b hb => ?_, fun b hb => ?_⟩, hc, fun b hb => ?_⟩
  · rw [List.mem_append]
    right
    rcases hb with hb | hb | hb | hb <;> simp [hb]
  · rw [List.mem_append] at hb
    rcases hb with hb | hb
    · exact ⟨(hlt b hb).1, Nat.lt_of_lt_of_le (hlt b hb).2 hc.size⟩
    · refine hlt' b ?_
      simp at hb
      rcases hb with rfl | hb | hb | hb
      · exact .inl rfl
      · exact .inr (.inl hb)
      · exact .inr (.inr (.inl hb))
      · exact .inr (.inr (.inr hb))
  · rw [List.mem_append] at hb
    rcases hb with hb | hb
    · exact .inl hb
    · refine hn b ?_
      simp at hb
      rcases hb with rfl | hb | hb | hb
      · exact .inl rfl
      · exact .inr (.inl hb)
      · exact .inr (.inr (.inl hb))
      · exact .inr (.inr (.inr hb))
end Go.Proofs.Ytoajnabdflikfaa
