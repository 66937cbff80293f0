/- The plain reference's device in memory: what its blocks hold, and what keeps that. -/
import Derived.Test.YtiejndkchcljdaaDvMath
import Derived.Test.YtiejndkchcljdaaAppS
import Derived.Lib.SmallJoins
import Derived.Test.YtiejndkchcljdaaDvNo
namespace Go.Proofs.Ytiejndkchcljdaa
open Go.RowKit

/-- 64 bytes in a block of D -/
def SecV (w : World) (D : List Nat) (v : Value) (bs : List UInt8) : Prop :=
  ∃ b c, v = .slice (some ⟨b, 0, none⟩) 64 c ∧ b ∈ D ∧ SB w (b + 1) (some ⟨b, 0, none⟩) 64 bs ∧ 64 ≤ c
/-- the cells of loose writes -/
def wcells : List (Nat × List UInt8) → List Value → List Value
  | x :: l, u :: us => .int .i64 (x.1 : Int) :: u :: wcells l us
  | _, _ => []
theorem wcells_length : ∀ (l : List (Nat × List UInt8)) (us : List Value), us.length = l.length → (wcells l us).length = l.length * 2
  | [], us, _ => by cases us <;> rfl
  | x :: l, [], h => by simp at h
  | x :: l, u :: us, h => by
    simp only [wcells, List.length_cons, wcells_length l us (by simpa using h)]; omega
theorem wcells_at : ∀ (l : List (Nat × List UInt8)) (us : List Value), us.length = l.length → ∀ (k : Nat) x u, l[k]? = some x → us[k]? = some u → (wcells l us)[2 * k]? = some (.int .i64 (x.1 : Int)) ∧ (wcells l us)[2 * k + 1]? = some u
  | [], us, _ => fun k x u hx => by simp at hx
  | y :: l, [], h => by simp at h
  | y :: l, v :: us, h => fun k x u hx hu => by
    cases k with
    | zero =>
      simp at hx hu
      subst hx; subst hu
      exact ⟨rfl, rfl⟩
    | succ k =>
      have := wcells_at l us (by simpa using h) k x u (by simpa using hx) (by simpa using hu)
      simp only [wcells]
      rw [show 2 * (k + 1) = 2 * k + 1 + 1 by omega]
      exact this
theorem wcells_snoc : ∀ (l : List (Nat × List UInt8)) (us : List Value) (x : Nat × List UInt8) (u : Value), us.length = l.length → wcells (l ++ [x]) (us ++ [u]) = wcells l us ++ [.int .i64 (x.1 : Int), u]
  | [], [], x, u, _ => rfl
  | [], _ :: _, x, u, h => by simp at h
  | _ :: _, [], x, u, h => by simp at h
  | y :: l, v :: us, x, u, h => by
    simp only [List.cons_append, wcells, wcells_snoc l us x u (by simpa using h)]
structure RdIn (w : World) (base g : Nat) (A R : Option Addr) (cA cR : Nat) (vs us : List Value) (D : List Nat) (m : Nat) (z : Int) (s : DS) : Prop where
  hd : Blk w g 86 #[.slice A s.n cA, .slice R s.loose.length cR, .bool s.fuse.isSome, .int .i64 z, .bool s.out]
  lr : w.ownsRow base 34 1 (.slice A s.n cA) s.n vs
  wr : w.ownsRow base 98 2 (.slice R s.loose.length cR) s.loose.length (wcells s.loose us)
  ul : us.length = s.loose.length
  lv : ∀ (i : Nat) v, vs[i]? = some v → SecV w D v (secAt s.img i)
  wv : ∀ (k : Nat) x u, s.loose[k]? = some x → us[k]? = some u → SecV w D u x.2
  hg : base ≤ g
  gA : rowOf A ≠ some g
  gR : rowOf R ≠ some g
  AR : ∀ b, rowOf A = some b → rowOf R ≠ some b
  dd : ∀ b ∈ D, base ≤ b ∧ b < w.heap.size ∧ b ≠ g ∧ rowOf A ≠ some b ∧ rowOf R ≠ some b
  zf : ∀ k, s.fuse = some k → z = (k : Int)
  zl : -(m : Int) ≤ z
  zh : z ≤ 9223372036854775807
def fpR (g : Nat) (A R : Option Addr) (D : List Nat) (b : Nat) : Prop := b = g ∨ rowOf A = some b ∨ rowOf R = some b ∨ b ∈ D
section
variable {w w' : World} {base g cA cR m : Nat} {A R : Option Addr} {vs us : List Value} {D L : List Nat} {z : Int} {s : DS}
theorem SecV.chg {v : Value} {bs : List UInt8} (h : SecV w D v bs) (hc : Chg L w w') (hd : ∀ b ∈ D, b ∉ L) : SecV w' D v bs := by
  obtain ⟨b, c, e, hb, hs, h64⟩ := h
  exact ⟨b, c, e, hb, hs.chg hc (fun b' off e _ => by cases e; exact hd b hb), h64⟩
theorem SecV.more {D' : List Nat} {v : Value} {bs : List UInt8} (h : SecV w D v bs) (hd : ∀ b ∈ D, b ∈ D') : SecV w D' v bs := by
  obtain ⟨b, c, e, hb, hs, h64⟩ := h
  exact ⟨b, c, e, hd b hb, hs, h64⟩
theorem SecV.of_own {v : Value} {bs : List UInt8} (h : Own w base 5 v 64 bs) (hd : ∀ b, v.ownBlock = some b → b ∈ D) : SecV w D v bs := by
  obtain ⟨q, c, rfl⟩ := Go.Joins.ownsRow_form h (by omega)
  obtain ⟨A', c', e, h64, hs, -⟩ := h.sb
  cases e
  exact ⟨q, c, rfl, hd q rfl, ⟨hs.1, fun hn => by
    obtain ⟨b, off, e, -, hx⟩ := hs.2 hn
    cases e
    exact ⟨q, 0, rfl, Nat.lt_succ_self _, hx⟩⟩, h64⟩
theorem RdIn.chg (h : RdIn w base g A R cA cR vs us D m z s) (hc : Chg L w w') (hd : ∀ b, fpR g A R D b → b ∉ L) : RdIn w' base g A R cA cR vs us D m z s where
  hd := h.hd.chg hc (hd g (.inl rfl))
  lr := ownsRow_chg h.lr hc (fun b hb => hd b (.inr (.inl (by rwa [own_row] at hb))))
  wr := ownsRow_chg h.wr hc (fun b hb => hd b (.inr (.inr (.inl (by rwa [own_row] at hb)))))
  ul := h.ul
  lv := fun i v hv => (h.lv i v hv).chg hc (fun b hb => hd b (.inr (.inr (.inr hb))))
  wv := fun k x u hx hu => (h.wv k x u hx hu).chg hc (fun b hb => hd b (.inr (.inr (.inr hb))))
  hg := h.hg
  gA := h.gA
  gR := h.gR
  AR := h.AR
  dd := fun b hb => ⟨(h.dd b hb).1, Nat.lt_of_lt_of_le (h.dd b hb).2.1 hc.size, (h.dd b hb).2.2⟩
  zf := h.zf
  zl := h.zl
  zh := h.zh
theorem RdIn.keep (h : RdIn w base g A R cA cR vs us D m z s) (hb : Below w.heap.size w w') : RdIn w' base g A R cA cR vs us D m z s := h.chg (L := []) (Chg.of_below hb) (fun _ _ => by simp)
theorem RdIn.lt (h : RdIn w base g A R cA cR vs us D m z s) : ∀ b, fpR g A R D b → base ≤ b ∧ b < w.heap.size := by
  rintro b (rfl | hb | hb | hb)
  · exact ⟨h.hg, h.hd.lt⟩
  · exact World.ownsRow.lt h.lr b (by rw [own_row]; exact hb)
  · exact World.ownsRow.lt h.wr b (by rw [own_row]; exact hb)
  · exact ⟨(h.dd b hb).1, (h.dd b hb).2.1⟩
theorem RdIn.vl (h : RdIn w base g A R cA cR vs us D m z s) : vs.length = s.n := by have := h.lr.1; omega
/-- only the head is changed, and of the state neither sectors nor loose writes -/
theorem RdIn.head {m' : Nat} {z' : Int} {s' : DS} (h : RdIn w base g A R cA cR vs us D m z s) (hc : Chg [g] w w') (hn : s'.n = s.n) (hi : s'.img = s.img) (hl : s'.loose = s.loose)
    (hb : Blk w' g 86 #[.slice A s.n cA, .slice R s.loose.length cR, .bool s'.fuse.isSome, .int .i64 z', .bool s'.out]) (h1 : ∀ k, s'.fuse = some k → z' = (k : Int)) (h2 : -(m' : Int) ≤ z') (h3 : z' ≤ 9223372036854775807) : RdIn w' base g A R cA cR vs us D m' z' s' where
  hd := by rw [hn, hl]; exact hb
  lr := by rw [hn]; exact ownsRow_chg h.lr hc (fun b hb => by rw [own_row] at hb; intro hm; rw [List.mem_singleton.1 hm] at hb; exact h.gA hb)
  wr := by rw [hl]; exact ownsRow_chg h.wr hc (fun b hb => by rw [own_row] at hb; intro hm; rw [List.mem_singleton.1 hm] at hb; exact h.gR hb)
  ul := by rw [hl]; exact h.ul
  lv := fun i v hv => by rw [hi]; exact (h.lv i v hv).chg hc (fun b hb hm => (h.dd b hb).2.2.1 (List.mem_singleton.1 hm))
  wv := fun k x u hx hu => by rw [hl] at hx; exact (h.wv k x u hx hu).chg hc (fun b hb hm => (h.dd b hb).2.2.1 (List.mem_singleton.1 hm))
  hg := h.hg
  gA := h.gA
  gR := h.gR
  AR := h.AR
  dd := fun b hb => ⟨(h.dd b hb).1, Nat.lt_of_lt_of_le (h.dd b hb).2.1 hc.size, (h.dd b hb).2.2⟩
  zf := h1
  zl := h2
  zh := h3
/-- the loose writes are gone -/
theorem RdIn.none_ {s' : DS} (h : RdIn w base g A R cA cR vs us D m z s) (hc : Chg [g] w w') (hn : s'.n = s.n) (hi : s'.img = s.img) (hl : s'.loose = [])
    (hb : Blk w' g 86 #[.slice A s.n cA, .slice none 0 0, .bool s'.fuse.isSome, .int .i64 z, .bool s'.out]) (h1 : ∀ k, s'.fuse = some k → z = (k : Int)) : RdIn w' base g A none cA 0 vs [] D m z s' where
  hd := by rw [hn, hl]; exact hb
  lr := by rw [hn]; exact ownsRow_chg h.lr hc (fun b hb => by rw [own_row] at hb; intro hm; rw [List.mem_singleton.1 hm] at hb; exact h.gA hb)
  wr := by rw [hl]; exact World.ownsRow_nil _ _ _ _
  ul := by rw [hl]; rfl
  lv := fun i v hv => by rw [hi]; exact (h.lv i v hv).chg hc (fun b hb hm => (h.dd b hb).2.2.1 (List.mem_singleton.1 hm))
  wv := fun k x u hx hu => by simp at hu
  hg := h.hg
  gA := h.gA
  gR := by intro e; cases e
  AR := by intro b _ e; cases e
  dd := fun b hb => ⟨(h.dd b hb).1, Nat.lt_of_lt_of_le (h.dd b hb).2.1 hc.size, (h.dd b hb).2.2.1, (h.dd b hb).2.2.2.1, by intro e; cases e⟩
  zf := h1
  zl := h.zl
  zh := h.zh
/-- a sector's bytes are others -/
theorem RdIn.sec {a i : Nat} {u : Value} {x : List UInt8} {D' : List Nat} (h : RdIn w base g (some ⟨a, 0, none⟩) R cA cR vs us D m z s) (hok : s.img.length = 64 * s.n) (hi : i < s.n) (hx : x.length = 64) (hD : ∀ b ∈ D, b ∈ D') (hD2 : ∀ b ∈ D', b ∈ D ∨ (base ≤ b ∧ b < w.heap.size ∧ b ≠ g ∧ b ≠ a ∧ rowOf R ≠ some b)) (hu : SecV w D' u x) :
    RdIn (w.setCell ⟨a, i, none⟩ u) base g (some ⟨a, 0, none⟩) R cA cR (vs.set i u) us D' m z { s with img := secPut s.img i x } := by
  have hc : Chg [a] w (w.setCell ⟨a, i, none⟩ u) := chg_set (by simp) _ _
  have hD3 : ∀ b ∈ D', base ≤ b ∧ b < w.heap.size ∧ b ≠ g ∧ b ≠ a ∧ rowOf R ≠ some b := fun b hb => by
    rcases hD2 b hb with h1 | h1
    · have := h.dd b h1
      exact ⟨this.1, this.2.1, this.2.2.1, fun e => this.2.2.2.1 (by rw [e]; rfl), this.2.2.2.2⟩
    · exact h1
  have hd2 : ∀ b ∈ D', b ∉ [a] := fun b hb hm => (hD3 b hb).2.2.2.1 (List.mem_singleton.1 hm)
  refine ⟨h.hd.chg hc (fun hm => h.gA (by rw [List.mem_singleton.1 hm]; rfl)), (World.ownsRow.stored h.lr i u).1, ownsRow_chg h.wr hc (fun b hb => by rw [own_row] at hb; intro hm; rw [List.mem_singleton.1 hm] at hb; exact h.AR a rfl hb), h.ul, fun j v hv => ?_, fun k y v hy hv => ((h.wv k y v hy hv).more hD).chg hc hd2, h.hg, h.gA, h.gR, h.AR, fun b hb => ?_, h.zf, h.zl, h.zh⟩
  · show SecV _ D' v (secAt (secPut s.img i x) j)
    by_cases e : j = i
    · subst e
      rw [List.getElem?_set_self (by rw [h.vl]; exact hi)] at hv
      cases hv
      rw [secPut_same hok hi hx]
      exact hu.chg hc hd2
    · rw [List.getElem?_set_ne (fun e2 => e e2.symm)] at hv
      have hj : j < s.n := by have := (List.getElem?_eq_some_iff.1 hv).1; rw [h.vl] at this; exact this
      rw [secPut_other hok hi hx hj e]
      exact ((h.lv j v hv).more hD).chg hc hd2
  · have := hD3 b hb
    exact ⟨this.1, Nat.lt_of_lt_of_le this.2.1 hc.size, this.2.2.1, fun e => this.2.2.2.1 (by cases e; rfl), this.2.2.2.2⟩
end
/-- Block g is a device of the plain reference, all of whose blocks are in F. -/
def RdB (w : World) (base : Nat) (F : List Nat) (g m : Nat) (s : DS) : Prop :=
  ∃ A R cA cR vs us D z, RdIn w base g A R cA cR vs us D m z s ∧ s.OK ∧ Sane s ∧ (∀ b, fpR g A R D b → b ∈ F) ∧ ∀ b ∈ F, base ≤ b ∧ b < w.heap.size
section
variable {w w' : World} {base g m : Nat} {F L : List Nat} {s : DS}
theorem RdB.ok (h : RdB w base F g m s) : s.OK := by obtain ⟨_, _, _, _, _, _, _, _, _, h, _⟩ := h; exact h
theorem RdB.sane (h : RdB w base F g m s) : Sane s := by obtain ⟨_, _, _, _, _, _, _, _, _, _, h, _⟩ := h; exact h
theorem RdB.lt (h : RdB w base F g m s) : ∀ b ∈ F, base ≤ b ∧ b < w.heap.size := by obtain ⟨_, _, _, _, _, _, _, _, _, _, _, _, h⟩ := h; exact h
theorem RdB.chg (h : RdB w base F g m s) (hc : Chg L w w') (hd : ∀ b ∈ F, b ∉ L) : RdB w' base F g m s := by
  obtain ⟨A, R, cA, cR, vs, us, D, z, h1, h2, h3, h4, h5⟩ := h
  exact ⟨A, R, cA, cR, vs, us, D, z, h1.chg hc (fun b hb => hd b (h4 b hb)), h2, h3, h4, fun b hb => ⟨(h5 b hb).1, Nat.lt_of_lt_of_le (h5 b hb).2 hc.size⟩⟩
theorem RdB.keep (h : RdB w base F g m s) (hb : Below w.heap.size w w') : RdB w' base F g m s := h.chg (L := []) (Chg.of_below hb) (fun _ _ => by simp)
theorem RdB.up (h : RdB w base F g m s) {m' : Nat} (hm : m ≤ m') : RdB w base F g m' s := by
  obtain ⟨A, R, cA, cR, vs, us, D, z, h1, h2⟩ := h
  exact ⟨A, R, cA, cR, vs, us, D, z, { h1 with zl := by have := h1.zl; omega }, h2⟩
end
/-- what a call of it leaves -/
def RdPost (w : World) (base : Nat) (F : List Nat) (g m : Nat) (s' : DS) (v : Value) (e : Ending) (w' : World) : Prop :=
  e = .returned v ∧ ∃ F', RdB w' base F' g m s' ∧ Chg F w w' ∧ ∀ b ∈ F', b ∈ F ∨ w.heap.size ≤ b
theorem RdPost.same {w : World} {base g m m' : Nat} {F : List Nat} {s : DS} (h : RdB w base F g m s) (hm : m ≤ m') (v : Value) : RdPost w base F g m' s v (.returned v) w := ⟨rfl, F, h.up hm, Chg.refl _ _, fun _ hb => .inl hb⟩
/-- what is left, by its parts -/
theorem RdPost.of {w w' : World} {base g m : Nat} {A A' R R' : Option Addr} {cA' cR' : Nat} {vs' us' : List Value} {D D' F : List Nat} {z' : Int} {s' : DS} (hF : ∀ b, fpR g A R D b → b ∈ F) (hlt : ∀ b ∈ F, base ≤ b ∧ b < w.heap.size)
    (h : RdIn w' base g A' R' cA' cR' vs' us' D' m z' s') (hok : s'.OK) (hs : Sane s') (hc : Chg F w w') (hn : ∀ b, fpR g A' R' D' b → b ∈ F ∨ w.heap.size ≤ b) (v : Value) : RdPost w base F g m s' v (.returned v) w' := by
  have hlt' := h.lt
  refine ⟨rfl, F ++ (g :: ((rowOf A').toList ++ ((rowOf R').toList ++ D'))), ⟨A', R', cA', cR', vs', us', D', z', h, hok, hs, fun b hb => ?_, fun b hb => ?_⟩, hc, fun b hb => ?_⟩
  · rw [List.mem_append]
    right
    rcases hb with hb | hb | hb | hb <;> simp [hb]
  · rw [List.mem_append] at hb
    rcases hb with hb | hb
    · exact ⟨(hlt b hb).1, Nat.lt_of_lt_of_le (hlt b hb).2 hc.size⟩
    · refine hlt' b ?_
      simp at hb
      rcases hb with rfl | hb | hb | hb
      · exact .inl rfl
      · exact .inr (.inl hb)
      · exact .inr (.inr (.inl hb))
      · exact .inr (.inr (.inr hb))
  · rw [List.mem_append] at hb
    rcases hb with hb | hb
    · exact .inl hb
    · refine hn b ?_
      simp at hb
      rcases hb with rfl | hb | hb | hb
      · exact .inl rfl
      · exact .inr (.inl hb)
      · exact .inr (.inr (.inl hb))
      · exact .inr (.inr (.inr hb))
end Go.Proofs.Ytiejndkchcljdaa
/- Contracts: what the plain reference's device is asked; its fuse. -/
namespace Go.Proofs.Ytiejndkchcljdaa
open Go.RowKit

section
variable (base g m : Nat) (F : List Nat) (s : DS) (w : World)
theorem rSize_calls (h : RdB w base F g m s) : Calls Try.prog 71 #[.pointer (some ⟨g, 0, none⟩)] w fun e w' => e = .returned (.int .i64 (s.n : Int)) ∧ w = w' := by
  obtain ⟨A, R, cA, cR, vs, us, D, z, h, -⟩ := h
  have c0 := h.hd.cell 0 rfl
  clear h
  go_enter Try.func71, Try.ntmps71
  go_wp2_with fail
  go_ret
  exact ⟨rfl, rfl⟩
theorem rOut_calls (h : RdB w base F g m s) : Calls Try.prog 66 #[.pointer (some ⟨g, 0, none⟩)] w fun e w' => e = .returned (.bool s.out) ∧ w = w' := by
  obtain ⟨A, R, cA, cR, vs, us, D, z, h, -⟩ := h
  have c0 := h.hd.cell 4 rfl
  clear h
  go_enter Try.func66, Try.ntmps66
  go_wp2_with fail
  go_ret
  exact ⟨rfl, rfl⟩
theorem rLoose_calls (h : RdB w base F g m s) : Calls Try.prog 36 #[.pointer (some ⟨g, 0, none⟩)] w fun e w' => e = .returned (.int .i64 (s.loose.length : Int)) ∧ w = w' := by
  obtain ⟨A, R, cA, cR, vs, us, D, z, h, -⟩ := h
  have c0 := h.hd.cell 1 rfl
  clear h
  go_enter Try.func36, Try.ntmps36
  go_wp2_with fail
  go_ret
  exact ⟨rfl, rfl⟩
theorem ix_row (a n c k : Nat) (h : k < n) (W : World) : (Instr.indexAt 50 (.slice (some ⟨a, 0, none⟩) n c) (.int .i64 (k : Int))).run Try.prog W = .ok (.pointer (some ⟨a, k, none⟩)) W := by
  have hi : (Try.prog.info? 34).map (·.size) = some 1 := by kernel_rfl
  obtain ⟨i, hi, hs⟩ := Option.map_eq_some_iff.1 hi
  rw [run_indexAt_slice W _ _ _ _ _ _ (by kernel_rfl), if_pos ⟨by omega, by omega⟩]
  rw [show Try.prog.elem 50 = 34 from by kernel_rfl]
  simp [sizeOf, typeInfo, hi, hs, Addr.add_lit]
theorem ix_wr (a n c k : Nat) (h : k < n) (W : World) : (Instr.indexAt 84 (.slice (some ⟨a, 0, none⟩) n c) (.int .i64 (k : Int))).run Try.prog W = .ok (.pointer (some ⟨a, 2 * k, none⟩)) W := by
  have hi : (Try.prog.info? 98).map (·.size) = some 2 := by kernel_rfl
  obtain ⟨i, hi, hs⟩ := Option.map_eq_some_iff.1 hi
  rw [run_indexAt_slice W _ _ _ _ _ _ (by kernel_rfl), if_pos ⟨by omega, by omega⟩]
  rw [show Try.prog.elem 84 = 98 from by kernel_rfl]
  simp [sizeOf, typeInfo, hi, hs, Addr.add_lit, Nat.mul_comm]
theorem RdIn.secs {A R : Option Addr} {cA cR : Nat} {vs us : List Value} {D : List Nat} {z : Int} {m : Nat} (h : RdIn w base g A R cA cR vs us D m z s) {j : Nat} (hj : j < s.n) :
    ∃ a b c, A = some ⟨a, 0, none⟩ ∧ w.cell? ⟨a, j, none⟩ = some (.slice (some ⟨b, 0, none⟩) 64 c) ∧ b ∈ D ∧ SB w (b + 1) (some ⟨b, 0, none⟩) 64 (secAt s.img j) ∧ 64 ≤ c ∧ vs[j]? = some (.slice (some ⟨b, 0, none⟩) 64 c) := by
  obtain ⟨a, cap, e⟩ := Go.Joins.ownsRow_form h.lr (by omega)
  cases e
  obtain ⟨v, hv⟩ : ∃ v, vs[j]? = some v := ⟨_, List.getElem?_eq_getElem (by rw [h.vl]; exact hj)⟩
  obtain ⟨b, c, rfl, hb, hs, h64⟩ := h.lv j v hv
  exact ⟨a, b, c, rfl, (World.ownsRow.cellAt h.lr j (by omega)).trans hv, hb, hs, h64, hv⟩
theorem RdIn.wrs {A R : Option Addr} {cA cR : Nat} {vs us : List Value} {D : List Nat} {z : Int} {m : Nat} (h : RdIn w base g A R cA cR vs us D m z s) {k : Nat} (hk : k < s.loose.length) :
    ∃ r b c x, R = some ⟨r, 0, none⟩ ∧ s.loose[k]? = some x ∧ w.cell? ⟨r, 2 * k, none⟩ = some (.int .i64 (x.1 : Int)) ∧ w.cell? ⟨r, 2 * k + 1, none⟩ = some (.slice (some ⟨b, 0, none⟩) 64 c) ∧ b ∈ D ∧ SB w (b + 1) (some ⟨b, 0, none⟩) 64 x.2 ∧ us[k]? = some (.slice (some ⟨b, 0, none⟩) 64 c) ∧ 64 ≤ c := by
  obtain ⟨r, cap, e⟩ := Go.Joins.ownsRow_form h.wr (by omega)
  cases e
  obtain ⟨x, hx⟩ : ∃ x, s.loose[k]? = some x := ⟨_, List.getElem?_eq_getElem hk⟩
  obtain ⟨u, hu⟩ : ∃ u, us[k]? = some u := ⟨_, List.getElem?_eq_getElem (by rw [h.ul]; exact hk)⟩
  obtain ⟨b, c, rfl, hb, hs, h64⟩ := h.wv k x u hx hu
  obtain ⟨h1, h2⟩ := wcells_at _ _ h.ul k x _ hx hu
  exact ⟨r, b, c, x, rfl, hx, (World.ownsRow.cellAt h.wr (2 * k) (by omega)).trans h1, (World.ownsRow.cellAt h.wr (2 * k + 1) (by omega)).trans h2, hb, hs, hu, h64⟩
set_option maxRecDepth 20000 in
theorem rImage_calls (i : Int) (h : RdB w base F g m s) : Calls Try.prog 86 #[.pointer (some ⟨g, 0, none⟩), .int .i64 i] w (AskPost w (imageB s i) (imageE s i)) := by
  have HL := hid (imageB_len s h.ok i)
  obtain ⟨A, R, cA, cR, vs, us, D, z, h, hok, -⟩ := h
  have c0 := h.hd.cell 0 rfl
  by_cases hi : hasB s.n i = true
  · have hb' := hi
    simp only [hasB, decide_eq_true_eq] at hb'
    have EB := hid (show imageB s i = secAt s.img i.toNat from if_pos hi)
    have EE := hid (show imageE s i = 0 from if_pos hi)
    obtain ⟨j, rfl⟩ : ∃ j : Nat, i = (j : Int) := ⟨i.toNat, by omega⟩
    have hj : j < s.n := by omega
    rw [Int.toNat_natCast] at EB
    obtain ⟨a, b, c, rfl, hc, hbD, hs, -⟩ := RdIn.secs base g s w h hj
    have HS := hid (show SB w w.heap.size (some ⟨b, 0, none⟩) 64 (secAt s.img j) from hs.more (by have := (h.dd b hbD).2.1; omega))
    have HIX := hid (fun W => ix_row a s.n cA j hj W)
    have hix := HIX.out
    have q0 : ¬ (j : Int) < 0 := by omega
    have q1 : ¬ (s.n : Int) ≤ (j : Int) := by omega
    clear h hi hb' hok hs hbD
    go_enter Try.func86, Try.ntmps86
    have HN1 := hid (Own.lit w 5 w.heap.size [] #[] 0 rfl rfl (Nat.le_refl _) (by omega))
    have HN2 := hid (HS.out.keep (below_new w (.cells #[] 5)))
    have HN3 := hid (below_new w (.cells #[] 5))
    have c0' := (HN3.out.cell (lt_of_cell c0)).trans c0
    have hc' := (HN3.out.cell (lt_of_cell hc)).trans hc
    go_wp2_with (refine wpList_append_bytes _ rfl _ _ _ rfl _ Try.underlying34 info5' w.heap.size (.slice (some ⟨w.heap.size, 0, none⟩) 0 0) 0 [] rfl HN1.out w.heap.size (some ⟨b, 0, none⟩) 64 c _ rfl HN2.out (by omega) HN3.out.size ?_; intro v' w' h1 h2 h3; refine Held.go ?_)
    have ho := HN1.out
    have hb := HN3.out
    clear HN1 HN2 HN3
    unfold Held
    have HK := hid (show AskPost w (imageB s j) (imageE s j) (.returned (.tuple #[v', .int .i64 0])) w' from ⟨v', by rw [EE.out]; rfl, by rw [HL.out, EB.out, EE.out]; simpa using h1, hb.trans (below_of_grown h2 hb.size (fun g e => (ho.block g e).1))⟩)
    clear h1 h2 h3 ho hb c0' hc'
    go_wp2_with fail
    go_ret2
    exact HK.out
  · have HK := hid (show AskPost w (imageB s i) (imageE s i) (.returned (.tuple #[.slice none 0 0, .int .i64 3])) w from ⟨_, by rw [show imageE s i = 3 from if_neg hi]; rfl, by rw [show imageB s i = [] from if_neg hi]; exact Own.nil _ _ _, Below.refl _ _⟩)
    have hi' : ¬ (0 ≤ i ∧ i < (s.n : Int)) := by simpa [hasB] using hi
    clear h hok hi
    by_cases q0 : i < 0
    · go_enter Try.func86, Try.ntmps86
      go_wp2_with fail
      go_ret2
      exact HK.out
    · have q1 : (s.n : Int) ≤ i := by omega
      clear hi'
      go_enter Try.func86, Try.ntmps86
      go_wp2_with fail
      go_ret2
      exact HK.out
/-- what the image and the first writes make of a sector -/
def overL (s : DS) (i k : Nat) : List UInt8 := secAt (flushL s.img (s.loose.take k)) i
theorem overL_next {s : DS} (hok : s.OK) {i k : Nat} (hi : i < s.n) (x : Nat × List UInt8) (h : s.loose[k]? = some x) : overL s i (k + 1) = if x.1 = i then x.2 else overL s i k := by
  have hx := hok.lo x (List.mem_of_getElem? h)
  have hl := flushL_length (s.loose.take k) hok.n2 (fun y hy => hok.lo y (List.mem_of_mem_take hy))
  unfold overL
  rw [flushL_next _ _ _ _ h]
  by_cases e : x.1 = i
  · rw [if_pos e, ← e, secPut_same hl hx.1 hx.2]
  · rw [if_neg e, secPut_other hl hx.1 hx.2 hi (fun e2 => e e2.symm)]
set_option maxHeartbeats 4000000 in
set_option maxRecDepth 20000 in
theorem rRead_calls (i : Int) (hlo : s.loose.length ≤ 1000000) (h : RdB w base F g m s) : Calls Try.prog 67 #[.pointer (some ⟨g, 0, none⟩), .int .i64 i] w (AskPost w (readB s i) (readE s i)) := by
  have HI := hid (rImage_calls base g m F s w i h)
  have HL := hid (readB_len s h.ok i)
  have HLI := hid (imageB_len s h.ok i)
  have HS := hid h.sane
  obtain ⟨A, R, cA, cR, vs, us, D, z, h, hok, -⟩ := h
  have c4 := h.hd.cell 4 rfl
  by_cases ho : s.out = true
  · have HK := hid (show AskPost w (readB s i) (readE s i) (.returned (.tuple #[.slice none 0 0, .int .i64 22])) w from ⟨_, by rw [show readE s i = 22 from if_pos ho]; rfl, by rw [show readB s i = [] from if_pos ho]; exact Own.nil _ _ _, Below.refl _ _⟩)
    rw [ho] at c4
    clear h hok ho HI
    go_enter Try.func67, Try.ntmps67
    go_wp2_with fail
    go_ret2
    exact HK.out
  have ho' : s.out = false := by simpa using ho
  rw [ho'] at c4
  by_cases hi : hasB s.n i = true
  · have hb' := hi
    simp only [hasB, decide_eq_true_eq] at hb'
    have EE := hid (show imageE s i = 0 from if_pos hi)
    have EB := hid (show imageB s i = secAt s.img i.toNat from if_pos hi)
    have RE := hid (show readE s i = 0 from by unfold readE; rw [if_neg ho, if_pos hi])
    have RB := hid (show readB s i = secAt s.now i.toNat from by unfold readB; rw [if_neg ho, if_pos hi])
    obtain ⟨j, rfl⟩ : ∃ j : Nat, i = (j : Int) := ⟨i.toNat, by omega⟩
    have hj : j < s.n := by omega
    rw [Int.toNat_natCast] at EB RB
    have HFIN := hid (show readB s j = overL s j s.loose.length from by rw [RB.out]; unfold overL; rw [List.take_length, ← HS.out])
    have HIN := hid h
    have HNX := hid (fun k x (hx : s.loose[k]? = some x) => overL_next hok hj x hx)
    have HLN := hid (fun k => (show (overL s j k).length = 64 from secAt_length (flushL_length (s.loose.take k) hok.n2 (fun y hy => hok.lo y (List.mem_of_mem_take hy))) hj))
    have H0 := hid (show secAt s.img j = overL s j 0 from rfl)
    rw [EE.out] at HLI
    clear h hok hi hb' ho ho'
    go_enter Try.func67, Try.ntmps67
    go_wp2_with fail
    refine HI.out.mono ?_
    rintro _ w1 ⟨v, rfl, h1, h2⟩
    rw [EE.out]
    rw [HLI.out, EB.out, H0.out] at h1
    have HO := hid (show Own w1 w.heap.size 5 v 64 (overL s j 0) from h1)
    have HB := hid h2
    clear h1 h2 c4 HI
    go_wp2_with fail
    go_loopw [6, 8] (fun v i wr => ∃ k : Nat, k ≤ s.loose.length ∧ i = .int .i64 (k : Int) ∧ Hid (Own wr w.heap.size 5 v 64 (overL s j k)) ∧ Hid (Below w.heap.size w wr)) (fun _ i _ => s.loose.length - (intOf i).toNat)
    case atStart => exact ⟨0, Nat.zero_le _, rfl, HO, HB⟩
    case round =>
      clear HO HB
      obtain ⟨k, hk, rfl, HO, HB⟩ := hrel
      have HR := hid (HIN.out.keep HB.out)
      have c1 := HR.out.hd.cell 1 rfl
      by_cases hlt : k < s.loose.length
      · obtain ⟨r, b, c, x, rfl, hx, k1, k2, hbD, hs, -⟩ := RdIn.wrs base g s wr HR.out hlt
        have HSX := hid (show SB wr wr.heap.size (some ⟨b, 0, none⟩) 64 x.2 from hs.more (by have := (HR.out.dd b hbD).2.1; omega))
        have HN1 := hid (HNX.out k x hx)
        have hix := fun W => ix_wr r s.loose.length cR k hlt W
        have q0 : (k : Int) < (s.loose.length : Int) := by omega
        clear hs hbD hx
        obtain ⟨xi, xb⟩ := x
        simp only at k1 HSX HN1
        by_cases he : xi = j
        · have q1 : ((xi : Int) == (j : Int)) = true := by simp [he]
          rw [if_pos he] at HN1
          clear he
          have HN1 := hid (Own.lit wr 5 wr.heap.size [] #[] 0 rfl rfl (Nat.le_refl _) (by omega))
          have HN2 := hid (HSX.out.keep (below_new wr (.cells #[] 5)))
          have HN3 := hid (below_new wr (.cells #[] 5))
          have c1' := (HN3.out.cell (lt_of_cell c1)).trans c1
          have k2' := (HN3.out.cell (lt_of_cell k2)).trans k2
          go_wp2_with (refine wpList_append_bytes _ rfl _ _ _ rfl _ Try.underlying34 info5' wr.heap.size (.slice (some ⟨wr.heap.size, 0, none⟩) 0 0) 0 [] rfl HN1.out wr.heap.size (some ⟨b, 0, none⟩) 64 c _ rfl HN2.out (by omega) HN3.out.size ?_; intro v' w' h1 h2 h3; refine Held.go ?_)
          have ho := HN1.out
          have hb := HN3.out
          clear HN1 HN2 HN3
          unfold Held
          have HO3 := hid (show Own w' w.heap.size 5 v' 64 (overL s j (k + 1)) from by rw [HN1.out]; exact (show Own w' wr.heap.size 5 v' 64 xb from by simpa using h1).lower HB.out.size)
          have HB3 := hid (HB.out.trans ((hb.trans (below_of_grown h2 hb.size (fun g e => (ho.block g e).1))).mono HB.out.size))
          clear h1 h2 h3 ho hb HO HB HR HSX c1 k1 k2 c1' k2'
          go_wp2_with fail
          go_roundw
          case rel => exact ⟨k + 1, by omega, by go_num, HO3, HB3⟩
          case measure => simp [intOf]; omega
        · have q1 : ((xi : Int) == (j : Int)) = false := by simp; omega
          rw [if_neg he] at HN1
          have HO3 := hid (show Own wr w.heap.size 5 _ 64 (overL s j (k + 1)) from by rw [HN1.out]; exact HO.out)
          clear HO HSX he
          go_wp2_with fail
          go_roundw
          case rel => exact ⟨k + 1, by omega, by go_num, HO3, HB⟩
          case measure => simp [intOf]; omega
      · obtain rfl : k = s.loose.length := by omega
        have q0 : ¬ (s.loose.length : Int) < (s.loose.length : Int) := by omega
        have HK := hid (show AskPost w (readB s j) (readE s j) (.returned (.tuple #[_, .int .i64 0])) wr from ⟨_, by rw [RE.out]; rfl, by rw [HL.out, RE.out, HFIN.out]; exact HO.out, HB.out⟩)
        clear HO HB
        go_wp2_with fail
        go_ret2
        exact HK.out
  · have hi' : hasB s.n i = false := by simpa using hi
    have EE := hid (show imageE s i = 3 from if_neg hi)
    have EB := hid (show imageB s i = [] from if_neg hi)
    have RE := hid (show readE s i = 3 from by unfold readE; rw [if_neg ho, if_neg hi])
    have RB := hid (show readB s i = [] from by unfold readB; rw [if_neg ho, if_neg hi])
    have HIN := hid h
    clear h hok hi hi' ho ho'
    go_enter Try.func67, Try.ntmps67
    go_wp2_with fail
    refine HI.out.mono ?_
    rintro _ w1 ⟨v, rfl, h1, h2⟩
    rw [EE.out]
    have HK := hid (show AskPost w (readB s i) (readE s i) (.returned (.tuple #[v, .int .i64 3])) w1 from ⟨_, by rw [RE.out]; rfl, by rw [RB.out, ← EB.out]; exact h1, h2⟩)
    have c1 := (HIN.out.keep h2).hd.cell 1 rfl
    clear h1 h2 c4 HI HIN
    by_cases hz : 0 < s.loose.length
    · have q0 : (0 : Int) < (s.loose.length : Int) := by omega
      go_wp2_with fail
      go_loop [6, 8] (fun v' i => v' = v ∧ i = .int .i64 0) (fun _ _ => 0)
      case atStart => exact ⟨rfl, rfl⟩
      case round =>
        obtain ⟨rfl, rfl⟩ := hrel
        go_wp2_with fail
        go_ret2
        exact HK.out
    · have q0 : ¬ (0 : Int) < (s.loose.length : Int) := by omega
      go_wp2_with fail
      go_loop [6, 8] (fun v' i => v' = v ∧ i = .int .i64 0) (fun _ _ => 0)
      case atStart => exact ⟨rfl, rfl⟩
      case round =>
        obtain ⟨rfl, rfl⟩ := hrel
        go_wp2_with fail
        go_ret2
        exact HK.out
end
end Go.Proofs.Ytiejndkchcljdaa
/- Contracts: the fuse of the plain reference's device; Fuse. -/
namespace Go.Proofs.Ytiejndkchcljdaa
open Go.RowKit

section
variable (base g m : Nat) (F : List Nat) (s : DS) (w : World)
theorem i64_pred (z : Int) (h1 : -1000000 ≤ z) (h2 : z ≤ 9223372036854775807) : IntKind.i64.wrap (z - 1) = z - 1 := by
  rw [IntWalk.i64_in] <;> omega
set_option maxRecDepth 20000 in
theorem rThrough_calls {A R : Option Addr} {cA cR : Nat} {vs us : List Value} {D : List Nat} {z : Int} (hm : m ≤ 900000) (ho : s.out = false) (h : RdIn w base g A R cA cR vs us D m z s) :
    Calls Try.prog 58 #[.pointer (some ⟨g, 0, none⟩)] w fun e w' => e = .returned (.bool (lets s)) ∧ ∃ z', RdIn w' base g A R cA cR vs us D (m + 1) z' (burn s) ∧ Chg [g] w w' := by
  have hzl := h.zl
  have hzh := h.zh
  have hhd := h.hd
  have c2 := h.hd.cell 2 rfl
  have c3 := h.hd.cell 3 rfl
  have c4 := h.hd.cell 4 rfl
  have f3 := h.hd.frozen 3
  have f4 := h.hd.frozen 4
  have hzf := h.zf
  have HIN := hid h
  clear h
  rcases hf : s.fuse with _ | k
  · have HFIN := hid (fun w' (hc : Chg [g] w w') (hb : Blk w' g 86 #[.slice A s.n cA, .slice R s.loose.length cR, .bool false, .int .i64 (z - 1), .bool false]) => (show RdIn w' base g A R cA cR vs us D (m + 1) (z - 1) (burn s) from HIN.out.head hc rfl rfl rfl (by rw [show (burn s).fuse = none from by simp [burn, hf], show (burn s).out = false from by simp [burn, hf]]; exact hb) (fun k hk => by simp [burn, hf] at hk) (by omega) (by omega)))
    have HLT := hid (show lets s = true from by unfold lets; rw [hf]; rfl)
    have hp := i64_pred z (by omega) hzh
    rw [hf] at c2
    rw [hf, ho] at hhd
    clear hzf hf HIN
    go_enter Try.func58, Try.ntmps58
    go_wp2_with fail
    go_ret
    exact ⟨by rw [HLT.out]; rfl, _, HFIN.out _ (chg_set (by simp) 3 _) (by simpa using hhd.set_ 3 (.int .i64 (z - 1))), chg_set (by simp) 3 _⟩
  · have hz : z = (k : Int) := hzf k hf
    subst hz
    rw [hf] at c2
    rw [hf, ho] at hhd
    rcases k with _ | k
    · have HFIN := hid (fun w' (hc : Chg [g] w w') (hb : Blk w' g 86 #[.slice A s.n cA, .slice R s.loose.length cR, .bool true, .int .i64 ((0 : Nat) : Int), .bool true]) => (show RdIn w' base g A R cA cR vs us D (m + 1) ((0 : Nat) : Int) (burn s) from HIN.out.head hc rfl rfl rfl (by rw [show (burn s).fuse = some 0 from by simp [burn, hf], show (burn s).out = true from by simp [burn, hf]]; exact hb) (fun k hk => by simp [burn, hf] at hk; subst hk; rfl) (by omega) (by omega)))
      have HLT := hid (show lets s = false from by unfold lets; rw [hf]; rfl)
      clear hzf hf HIN
      go_enter Try.func58, Try.ntmps58
      go_wp2_with fail
      go_ret
      exact ⟨by rw [HLT.out]; rfl, _, HFIN.out _ (chg_set (by simp) 4 _) (by simpa using hhd.set_ 4 (.bool true)), chg_set (by simp) 4 _⟩
    · have HFIN := hid (fun w' (hc : Chg [g] w w') (hb : Blk w' g 86 #[.slice A s.n cA, .slice R s.loose.length cR, .bool true, .int .i64 (((k + 1 : Nat) : Int) - 1), .bool false]) => (show RdIn w' base g A R cA cR vs us D (m + 1) (((k + 1 : Nat) : Int) - 1) (burn s) from HIN.out.head hc rfl rfl rfl (by rw [show (burn s).fuse = some k from by simp [burn, hf], show (burn s).out = false from by simp [burn, hf]]; exact hb) (fun j hk => by simp [burn, hf] at hk; omega) (by omega) (by omega)))
      have HLT := hid (show lets s = true from by unfold lets; rw [hf]; rfl)
      have hp := i64_pred ((k + 1 : Nat) : Int) (by omega) hzh
      have q0 : (((k + 1 : Nat) : Int) == 0) = false := by simp; omega
      clear hzf hf HIN
      generalize ((k + 1 : Nat) : Int) = z at *
      go_enter Try.func58, Try.ntmps58
      go_wp2_with fail
      go_ret
      exact ⟨by rw [HLT.out]; rfl, _, HFIN.out _ (chg_set (by simp) 3 _) (by simpa using hhd.set_ 3 (.int .i64 (z - 1))), chg_set (by simp) 3 _⟩
set_option maxRecDepth 20000 in
theorem rFuse_calls (n : Int) (hn : n ≤ 9223372036854775807) (h : RdB w base F g m s) :
    Calls Try.prog 25 #[.pointer (some ⟨g, 0, none⟩), .int .i64 n] w (RdPost w base F g m (fuseS s n) (.int .i64 (fuseE s n : Int))) := by
  have HS := hid h
  obtain ⟨A, R, cA, cR, vs, us, D, z, h, hok, hsn, hF, hlt⟩ := h
  have c4 := h.hd.cell 4 rfl
  have c2 := h.hd.cell 2 rfl
  have c3 := h.hd.cell 3 rfl
  have f2 := h.hd.frozen 2
  have f3 := h.hd.frozen 3
  have hhd := h.hd
  have HIN := hid h
  clear h
  by_cases ho : s.out = true
  · have HK := hid (show RdPost w base F g m (fuseS s n) (.int .i64 (fuseE s n : Int)) (.returned (.int .i64 22)) w from by
      rw [show fuseE s n = 22 from if_pos ho, show fuseS s n = s from by unfold fuseS; rw [if_neg (by rw [show fuseE s n = 22 from if_pos ho]; decide)]]; exact RdPost.same HS.out (Nat.le_refl _) _)
    rw [ho] at c4
    clear ho HIN HS hhd hok hsn hF hlt
    generalize fuseE s n = e' at HK ⊢
    generalize fuseS s n = s' at HK ⊢
    go_enter Try.func25, Try.ntmps25
    go_wp2_with fail
    go_ret
    exact HK.out
  have ho' : s.out = false := by simpa using ho
  rw [ho'] at c4 hhd
  by_cases hz : n < 0
  · have HK := hid (show RdPost w base F g m (fuseS s n) (.int .i64 (fuseE s n : Int)) (.returned (.int .i64 2)) w from by
      have e : fuseE s n = 2 := by unfold fuseE; rw [if_neg ho, if_pos hz]
      rw [e, show fuseS s n = s from by unfold fuseS; rw [if_neg (by rw [e]; decide)]]; exact RdPost.same HS.out (Nat.le_refl _) _)
    clear ho HIN HS hhd hok hsn hF hlt
    generalize fuseE s n = e' at HK ⊢
    generalize fuseS s n = s' at HK ⊢
    go_enter Try.func25, Try.ntmps25
    go_wp2_with fail
    go_ret
    exact HK.out
  · have e : fuseE s n = 0 := by unfold fuseE; rw [if_neg ho, if_neg hz]
    have HK := hid (show ∀ w', Chg [g] w w' → Blk w' g 86 #[.slice A s.n cA, .slice R s.loose.length cR, .bool true, .int .i64 n, .bool false] → RdPost w base F g m (fuseS s n) (.int .i64 (fuseE s n : Int)) (.returned (.int .i64 0)) w' from fun w' hc hb => by
      rw [e, show fuseS s n = { s with fuse := some n.toNat } from by unfold fuseS; rw [if_pos e]]
      refine RdPost.of hF hlt (HIN.out.head (m' := m) (z' := n) (s' := { s with fuse := some n.toNat }) hc rfl rfl rfl (by rw [ho']; exact hb) (fun k hk => by injection hk with hk; omega) (by omega) hn) ⟨hok.n1, hok.n2, hok.nb, hok.lo⟩ hsn (hc.more (fun b hb => .inl (by rw [List.mem_singleton.1 hb]; exact hF g (.inl rfl)))) (fun b hb => .inl (hF b hb)) _)
    clear ho HIN HS hok hsn hF hlt e
    generalize fuseE s n = e' at HK ⊢
    generalize fuseS s n = s' at HK ⊢
    go_enter Try.func25, Try.ntmps25
    go_wp2_with fail
    go_ret
    exact HK.out _ ((chg_set (L := [g]) (by simp) 2 (.bool true)).trans (chg_set (L := [g]) (by simp) 3 _) (fun b hb => .inl hb)) (by simpa using (hhd.set_ 2 (.bool true)).set_ 3 (.int .i64 n))
end
end Go.Proofs.Ytiejndkchcljdaa
/- Contract: the plain reference's New. Written by tools/mkdv.py out of XDvRfN.tpl. -/
namespace Go.Proofs.Ytiejndkchcljdaa
open Go.RowKit

theorem rNew_bad (n : Int) (w : World) (h : n < 1 ∨ 65536 < n) : Calls Try.prog 12 #[.int .i64 n] w fun e w' => e = .returned (.tuple #[.pointer none, .int .i64 3]) ∧ w = w' := by
  by_cases h1 : n < 1
  · clear h
    go_enter Try.func12, Try.ntmps12
    go_wp2_with fail
    go_ret2
    exact ⟨rfl, rfl⟩
  · have h2 : 65536 < n := by omega
    clear h
    go_enter Try.func12, Try.ntmps12
    go_wp2_with fail
    go_ret2
    exact ⟨rfl, rfl⟩
theorem does_mk {P : Program} {o : Oper} {a : Act} {w w' : World} {T : Value → World → Prop} (t : TypeId) (l c : Value) (ho : o.op = .makeSlice t (.const l) (.const c)) {v : Value} (hr : (Instr.makeSlice t l c).run P w = .ok v w') (h : T v w') : OpDoes P o a w T := fun K Q hK => by
  unfold Oper.wp execOp
  simp only [ho, Act.eval, Sem.run_bind, hr, Result.andThen_ok]
  exact hK _ _ h
def z64 : List UInt8 := List.replicate 64 0
theorem run_mk64 (W : World) : (Instr.makeSlice 34 (.int .i64 64) (.int .i64 64)).run Try.prog W = .ok (.slice (some ⟨W.heap.size, 0, none⟩) 64 64) (W.alloc (.cells (z64.map bv).toArray 5)) := by kernel_rfl
theorem own_mk64 (W : World) (B : Nat) (hB : B ≤ W.heap.size) : Own (W.alloc (.cells (z64.map bv).toArray 5)) B 5 (.slice (some ⟨W.heap.size, 0, none⟩) 64 64) 64 z64 := Own.lit W 5 B z64 _ 64 rfl rfl hB (by omega)
theorem info_sl : (Try.prog.info? 34).map (fun i => (i.zero, i.size, i.bytes)) = some (some (.slice none 0 0), 1, 24) := by kernel_rfl
/-- the head of a device that is being made -/
def dvH (A : Option Addr) (k cA : Nat) : Array Value := #[.slice A k cA, .slice none 0 0, .bool false, .int .i64 0, .bool false]
def NwP (w1 : World) (B0 : Nat) (v : Value) (W : World) : Prop := Own W B0 5 v 64 z64 ∧ ∀ b, v.ownBlock = some b → w1.heap.size ≤ b
def NwN (v : Value) (B : Nat) : Prop := ∀ b, v.ownBlock = some b → b < B
theorem secAt_no (n i : Nat) (h : i < n) : secAt (noB n) i = z64 := by
  unfold secAt noB z64
  rw [List.drop_replicate, List.take_replicate, Nat.min_eq_left (by omega)]
theorem nwp_st {wr : World} {w T k : Nat} {t : TypeId} {cs : Array Value} {sv : Value} {vs : List Value} {B : Nat} {e : TypeId} (h : Blk wr T t cs) (hr : wr.ownsRow B e 1 sv k vs) : ∀ v W W', wr.heap.size ≤ W.heap.size → Chg (T :: sv.ownBlock.toList) W W' → NwP wr w v W → NwP wr w v W' := fun v W W' hz hc hp =>
  ⟨hp.1.chg hc (fun g e hm => by
    have h1 := hp.2 g e
    rcases List.mem_cons.1 hm with rfl | hm
    · have := h.lt; omega
    · have := (World.ownsRow.lt hr g (by simpa using hm)).2; omega), hp.2⟩
theorem dv_grow {wr W : World} {g k cA : Nat} {A : Option Addr} {vs : List Value} {D : List Nat} {gh : Nat → Value} (hI : RdIn wr g g A none cA 0 vs [] D 0 0 (startS k))
    (hS : ApS wr g g 0 86 34 (dvH A k cA) (.slice A k cA) k vs 5 6 7 10 (NwP wr g) NwN (fun _ => true) gh W) : ∃ cA' A' D', RdIn W g g A' none cA' 0 (vs ++ [gh 5]) [] D' 0 0 (startS (k + 1)) := by
  obtain ⟨-, hr, hmv⟩ := hS.ap rfl
  obtain ⟨-, hup⟩ := hS.up rfl
  obtain ⟨hown, hnew⟩ := hS.post rfl
  obtain ⟨q, c, ev⟩ := Go.Joins.ownsRow_form hr (by omega)
  obtain ⟨q5, c5, e5⟩ := Go.Joins.ownsRow_form hown (by omega)
  have hc := hS.chg
  have hlt := hI.lt
  have h5 : wr.heap.size ≤ q5 := hnew q5 (by rw [e5]; rfl)
  have h5l : q5 < W.heap.size := (World.ownsRow.lt hown q5 (by rw [e5]; rfl)).2
  have hq : (rowOf A = some q) ∨ (wr.heap.size ≤ q ∧ q5 < q) := by
    rw [ev, own_row] at hmv
    rcases hmv with h | ⟨b, h, hb, hn⟩
    · left; rw [← own_row A k cA, ← h]; rfl
    · right
      have : q = b := by injection h
      subst this
      exact ⟨hb, hn q5 (by rw [e5]; rfl)⟩
  have hgl : g < wr.heap.size := (hlt g (.inl rfl)).2
  have hL : ∀ b ∈ D, b ∉ g :: (Value.slice A k cA).ownBlock.toList := fun b hb hm => by
    have hd := hI.dd b hb
    rcases List.mem_cons.1 hm with e | hm
    · exact hd.2.2.1 e
    · rw [own_row] at hm; exact hd.2.2.2.1 (by simpa using hm)
  have hqA : ∀ b, rowOf A = some b → b < wr.heap.size := fun b hb => (hlt b (.inr (.inl hb))).2
  refine ⟨c, some ⟨q, 0, none⟩, q5 :: D, { hd := ?_, lr := ?_, wr := World.ownsRow_nil _ _ _ _, ul := rfl, lv := fun i v hv => ?_, wv := fun k x u hx => (by simp [startS] at hx), hg := Nat.le_refl _, gA := ?_, gR := (by intro e; cases e), AR := (fun b _ e => by cases e), dd := fun b hb => ?_, zf := (fun k hk => by cases hk), zl := (by omega), zh := (by omega) }⟩
  · rw [ev] at hup
    exact hup
  · rw [ev] at hr
    exact hr
  · show SecV W (q5 :: D) v (secAt (noB (k + 1)) i)
    by_cases hi : i < vs.length
    · rw [List.getElem?_append_left hi] at hv
      have hk : vs.length = k := hI.vl
      have := hI.lv i v hv
      rw [show (startS k).img = noB k from rfl, secAt_no k i (by omega)] at this
      rw [secAt_no (k + 1) i (by omega)]
      exact (this.chg hc hL).more (fun b hb => List.mem_cons_of_mem _ hb)
    · have hk : vs.length = k := hI.vl
      have hi2 : i < (vs ++ [gh 5]).length := (List.getElem?_eq_some_iff.1 hv).1
      rw [List.length_append, List.length_singleton] at hi2
      obtain rfl : i = vs.length := by omega
      rw [List.getElem?_append_right (Nat.le_refl _), Nat.sub_self] at hv
      cases hv
      rw [secAt_no (k + 1) vs.length (by omega)]
      exact SecV.of_own hown (fun b e => by rw [e5] at e; cases e; simp)
  · intro e
    have e : q = g := by injection e
    rcases hq with h | h
    · exact hI.gA (by rw [← e]; exact h)
    · omega
  · rcases List.mem_cons.1 hb with rfl | hb
    · refine ⟨by omega, h5l, by omega, fun e => ?_, by intro e; cases e⟩
      have e : q = b := by injection e
      rcases hq with h | h
      · have := hqA _ h; omega
      · omega
    · have hd := hI.dd b hb
      refine ⟨hd.1, Nat.lt_of_lt_of_le hd.2.1 hc.size, hd.2.2.1, fun e => ?_, by intro e; cases e⟩
      have e : q = b := by injection e
      rcases hq with h | h
      · exact hd.2.2.2.1 (by rw [← e]; exact h)
      · omega
def dnVal (g k cA : Nat) (A : Option Addr) : Nat → Value → Value
  | 0, _ => .pointer (some ⟨g, 0, none⟩)
  | 1, _ => .pointer (some ⟨g, 0, none⟩)
  | 2, _ => .pointer (some ⟨g, 0, none⟩)
  | 3, _ => .pointer (some ⟨g, 0, none⟩)
  | 4, _ => .slice A k cA
  | 5, k => k
  | 6, k => k
  | 7, k => k
  | 8, _ => .pointer (some ⟨g, 0, none⟩)
  | 9, _ => .pointer (some ⟨g, 0, none⟩)
  | _, _ => undef
theorem info_dev : (Try.prog.info? 86).map (·.zero) = some (some (.agg (dvH none 0 0))) := by kernel_rfl
set_option maxRecDepth 20000 in
set_option maxHeartbeats 4000000 in
theorem rNew_calls (n : Nat) (w : World) (h1 : 1 ≤ n) (h2 : n ≤ 65536) :
    Calls Try.prog 12 #[.int .i64 (n : Int)] w fun e w' => ∃ g F, e = .returned (.tuple #[.pointer (some ⟨g, 0, none⟩), .int .i64 0]) ∧ RdB w' w.heap.size F g 0 (startS n) ∧ Below w.heap.size w w' := by
  have q0 : ¬ (n : Int) < 1 := by omega
  have q1 : ¬ (65536 : Int) < (n : Int) := by omega
  go_enter Try.func12, Try.ntmps12
  go_wp2_with fail
  have HD := hid (Blk.new w 86 (dvH none 0 0))
  have HB := hid (below_new w (.cells (dvH none 0 0) 86))
  have HI := hid (show RdIn (w.alloc (.cells (dvH none 0 0) 86)) w.heap.size w.heap.size none none 0 0 [] [] [] 0 0 (startS 0) from
    { hd := HD.out, lr := World.ownsRow_nil _ _ _ _, wr := World.ownsRow_nil _ _ _ _, ul := rfl, lv := fun i v hv => (by simp at hv), wv := fun k x u hx => (by simp [startS] at hx), hg := Nat.le_refl _, gA := (by intro e; cases e), gR := (by intro e; cases e), AR := (fun b e => by cases e), dd := (fun b hb => by cases hb), zf := (fun k hk => by cases hk), zl := (by omega), zh := (by omega) })
  go_loopw [5] (fun i wr => ∃ (k cA : Nat) (A : Option Addr) (vs : List Value) (D : List Nat), k ≤ n ∧ i = .int .i64 (k : Int) ∧ Hid (RdIn wr w.heap.size w.heap.size A none cA 0 vs [] D 0 0 (startS k)) ∧ Hid (Below w.heap.size w wr)) (fun i _ => n - (intOf i).toNat)
  case atStart => exact ⟨0, 0, none, [], [], Nat.zero_le _, rfl, HI, HB⟩
  case round =>
    clear HD HB HI
    obtain ⟨k, cA, A, vs, D, hk, rfl, HI, HB⟩ := hrel
    by_cases hlt : k < n
    · have q2 : (k : Int) < (n : Int) := by omega
      have HH := hid (show Blk wr w.heap.size 86 (dvH A k cA) from HI.out.hd)
      have HN := hid (show k ≤ 1000000 by omega)
      have HBS := hid (fun W (hW : Below wr.heap.size wr W) => (Nat.le_trans HB.out.size hW.size : w.heap.size ≤ W.heap.size))
      have HROW := hid (show wr.ownsRow w.heap.size 34 1 (.slice A k cA) k vs from HI.out.lr)
      have HGA := hid HI.out.gA
      have HST := hid (ApS.start wr w.heap.size w.heap.size 0 86 34 (dvH A k cA) (.slice A k cA) k vs 5 6 7 10 11 (NwP wr w.heap.size) NwN (by decide) (fun _ => .pointer none) HH.out rfl HROW.out HB.out.size (by rw [own_row]; exact HGA.out) (nwp_st HH.out HROW.out))
      generalize hg : w.heap.size = g at *
      go_wp2_with fail
      refine wp_region_invG 30 (.pointer none) (dnVal g k cA A) (ApS wr g g 0 86 34 (dvH A k cA) (.slice A k cA) k vs 5 6 7 10 (NwP wr g) NwN) (by kernel_rfl) (by kernel_rfl) (by exact Nat.le_refl 30) ?_ ?_ ?_
      · exact HST.out
      · intro i o f gh a W hi hf hdep hsame hcl hval hS
        rcases i with _ | _ | _ | _ | _ | _ | _ | _ | _ | _ | _ | i
        all_goals simp only [List.getElem?_cons_succ, List.getElem?_cons_zero, List.getElem?_nil, Option.some.injEq, reduceCtorEq] at hi
        all_goals subst hi
        · have E4 : a.tmps[4]? = some (.pointer (some ⟨g, 0, none⟩)) := (same_of hsame 4 (by rfl)).trans rfl
          refine g_plain rfl ?_
          exact does_value (w' := W) (v := .pointer (some ⟨g, 0, none⟩)) (by go_simp) ⟨.pointer none, .inr rfl, hS.step (Below.refl _ _) 0 (.pointer none) (by decide) (by decide) (by decide) (by decide)⟩
        · have E4 : a.tmps[4]? = some (.pointer (some ⟨g, 0, none⟩)) := (same_of hsame 4 (by rfl)).trans rfl
          refine g_plain rfl ?_
          exact does_value (w' := W) (v := .pointer (some ⟨g, 0, none⟩)) (by go_simp) ⟨.pointer none, .inr rfl, hS.step (Below.refl _ _) 1 (.pointer none) (by decide) (by decide) (by decide) (by decide)⟩
        · have E20 := hval 1 _ 20 rfl rfl (dep_of hdep 1 (by rfl))
          unfold dnVal at E20
          refine g_plain rfl ?_
          exact does_value (w' := W) (v := .pointer (some ⟨g, 0, none⟩)) (by go_simp) ⟨.pointer none, .inr rfl, hS.step (Below.refl _ _) 2 (.pointer none) (by decide) (by decide) (by decide) (by decide)⟩
        · have E21 := hval 2 _ 21 rfl rfl (dep_of hdep 2 (by rfl))
          unfold dnVal at E21
          refine g_plain rfl ?_
          exact does_value (w' := W) (v := .pointer (some ⟨g, 0, none⟩)) (by go_simp) ⟨.pointer none, .inr rfl, hS.step (Below.refl _ _) 3 (.pointer none) (by decide) (by decide) (by decide) (by decide)⟩
        · have E22 := hval 3 _ 22 rfl rfl (dep_of hdep 3 (by rfl))
          unfold dnVal at E22
          have n7 := not_yet hcl hf 7 (by rfl)
          have n10 := not_yet hcl n7 10 (by rfl)
          have c0 := hS.cell n10
          refine g_plain rfl ?_
          exact does_value (w' := W) (v := .slice A k cA) (by go_simp) ⟨.pointer none, .inr rfl, hS.step (Below.refl _ _) 4 (.pointer none) (by decide) (by decide) (by decide) (by decide)⟩
        · refine g_plain rfl ?_
          refine does_mk _ _ _ rfl (run_mk64 W) ⟨.slice (some ⟨W.heap.size, 0, none⟩) 64 64, .inr rfl, hS.call hf (by decide) (by decide) (by decide) (below_new _ _) _ ⟨own_mk64 W _ (HBS.out W (hS.pre hf)), fun b e => ?_⟩⟩
          cases e; exact (hS.pre hf).size
        · have E24 := hval 5 _ 24 rfl rfl (dep_of hdep 5 (by rfl))
          unfold dnVal at E24
          refine g_plain rfl ?_
          obtain ⟨q5, c5, ev⟩ := Go.Joins.ownsRow_form (hS.post (dep_of hdep 5 (by rfl))).1 (by omega)
          rw [ev] at E24
          have hB := hS.build (dep_of hdep 5 (by rfl)) hf (by decide) (by decide) (by decide)
          rw [ev] at hB
          exact does_value (w' := W.alloc (.cells #[.slice (some ⟨q5, 0, none⟩) 64 c5] 34)) (v := .slice (some ⟨W.heap.size, 0, none⟩) 1 1) (by go_simp) ⟨.slice (some ⟨W.heap.size, 0, none⟩) 1 1, .inr rfl, hB⟩
        · have E23 := hval 4 _ 23 rfl rfl (dep_of hdep 4 (by rfl))
          have E25 := hval 6 _ 25 rfl rfl (dep_of hdep 6 (by rfl))
          unfold dnVal at E23 E25
          refine g_plain rfl ?_
          have hpost := hS.post ((hS.lit (dep_of hdep 6 (by rfl))).1)
          obtain ⟨q5, c5, ev⟩ := Go.Joins.ownsRow_form hpost.1 (by omega)
          obtain ⟨qq, v', W', e6, hr, hS'⟩ := hS.app (P := Try.prog) (dep_of hdep 6 (by rfl)) hf (by decide) (by decide) (by decide) 50 50 Try.underlying50 info_sl rfl HN.out (by decide) (by rw [ev]; rfl) (fun b e => (World.ownsRow.lt hpost.1 b e).2)
          rw [e6] at E25
          exact does_append _ _ _ rfl (by rw [eval_getD, E23]; rfl) (by rw [eval_getD, E25]; rfl) hr ⟨v', .inr rfl, hS'⟩
        · have E19 := hval 0 _ 19 rfl rfl (dep_of hdep 0 (by rfl))
          unfold dnVal at E19
          refine g_plain rfl ?_
          exact does_value (w' := W) (v := .pointer (some ⟨g, 0, none⟩)) (by go_simp) ⟨.pointer none, .inr rfl, hS.step (Below.refl _ _) 8 (.pointer none) (by decide) (by decide) (by decide) (by decide)⟩
        · have E27 := hval 8 _ 27 rfl rfl (dep_of hdep 8 (by rfl))
          unfold dnVal at E27
          refine g_plain rfl ?_
          exact does_value (w' := W) (v := .pointer (some ⟨g, 0, none⟩)) (by go_simp) ⟨.pointer none, .inr rfl, hS.step (Below.refl _ _) 9 (.pointer none) (by decide) (by decide) (by decide) (by decide)⟩
        · have E28 := hval 9 _ 28 rfl rfl (dep_of hdep 9 (by rfl))
          have E26 := hval 7 _ 26 rfl rfl (dep_of hdep 7 (by rfl))
          unfold dnVal at E28 E26
          refine g_plain rfl ?_
          obtain ⟨g2, c2, e7⟩ := hS.form (dep_of hdep 7 (by rfl))
          rw [e7] at E26
          have c0 := hS.cell hf; have z0 := hS.frozen hf
          exact does_skip (w' := W.setCell ⟨g, 0, none⟩ (.slice (some ⟨g2, 0, none⟩) (k + 1) c2)) (by go_simp) ⟨.pointer none, .inl rfl, hS.put (dep_of hdep 7 (by rfl)) hf (by decide) (by decide) (by decide) (.pointer none) e7⟩
      · intro gh w8 hS
        obtain ⟨c9, A9, D9, hI9⟩ := dv_grow HI.out hS
        have HI9 := hid hI9
        have HB9 := hid (show Below g w w8 from HB.out.trans (hS.chg.below (fun b hb => by
          rcases List.mem_cons.1 hb with rfl | hb
          · exact Nat.le_refl _
          · rw [own_row] at hb; exact (HI.out.lt b (.inr (.inl (by simpa using hb)))).1) (by rw [← hg]; exact HB.out.size)))
        clear hS HST hI9 HI HB HH HROW HGA
        simp only [putAll, dnVal, Nat.reduceAdd, Nat.zero_add, Act.put, List.setIfInBounds_toArray, List.set_cons_zero, List.set_cons_succ]
        go_wp2_with fail
        go_roundw
        case rel => exact ⟨k + 1, c9, A9, _, D9, by omega, by go_num, HI9, HB9⟩
        case measure => simp [intOf]; omega
    · obtain rfl : k = n := by omega
      have q2 : ¬ (k : Int) < (k : Int) := by omega
      go_wp2_with fail
      go_ret2
      refine ⟨_, rfl, ⟨w.heap.size :: ((rowOf A).toList ++ D), A, none, cA, 0, vs, [], D, 0, HI.out, start_ok k h2, rfl, fun b hb => ?_, fun b hb => HI.out.lt b ?_⟩, HB.out⟩
      · rcases hb with hb | hb | hb | hb
        · simp [hb]
        · simp [hb]
        · cases hb
        · simp [hb]
      · simp at hb
        rcases hb with hb | hb | hb
        · exact .inl hb
        · exact .inr (.inl hb)
        · exact .inr (.inr (.inr hb))
end Go.Proofs.Ytiejndkchcljdaa
