/- Contract: the plain reference's Write. Written by tools/mkdv.py out of XDvRfW.tpl. -/
import Derived.Test.YtoajnabdflikfaaDvRfN
import Derived.Test.YtoajnabdflikfaaDvInv
namespace Go.Proofs.Ytoajnabdflikfaa
open Go.RowKit

/-- a device's cells -/
def rdH (A R : Option Addr) (cA cR : Nat) (z : Int) (s : DS) : Array Value := #[.slice A s.n cA, .slice R s.loose.length cR, .bool s.fuse.isSome, .int .i64 z, .bool s.out]
/-- a loose write is put behind the others -/
structure WoS (w1 : World) (base g i : Nat) (A R : Option Addr) (cA cR : Nat) (us : List Value) (z : Int) (s : DS) (bs : List UInt8) (f : Nat → Bool) (gh : Nat → Value) (W : World) : Prop where
  hb : base ≤ w1.heap.size
  hg : g < w1.heap.size
  hR : ∀ b, rowOf R = some b → b < w1.heap.size ∧ b ≠ g
  row0 : w1.ownsRow base 75 2 (.slice R s.loose.length cR) s.loose.length (wcells s.loose us)
  top0 : Blk w1 g 69 (rdH A R cA cR z s)
  chg : Chg (g :: (rowOf R).toList) w1 W
  bel : f 11 = false → Below w1.heap.size w1 W
  o8 : f 8 = true → f 6 = true
  a6 : f 6 = true → f 8 = false → Own W w1.heap.size 5 (gh 6) 0 []
  a8 : f 8 = true → Own W w1.heap.size 5 (gh 8) 64 bs
  a9 : f 9 = true → f 8 = true ∧ gh 9 = .agg #[.int .i64 (i : Int), gh 8]
  a10 : f 10 = true → f 9 = true ∧ (f 11 = false → ∃ q, gh 10 = .slice (some ⟨q, 0, none⟩) 1 1 ∧ Blk W q 75 #[.int .i64 (i : Int), gh 8])
  a11 : f 11 = true → f 10 = true ∧ W.ownsRow base 75 2 (gh 11) (s.loose.length + 1) (wcells s.loose us ++ [.int .i64 (i : Int), gh 8]) ∧ ((gh 11).ownBlock = rowOf R ∨ ∃ b, (gh 11).ownBlock = some b ∧ w1.heap.size ≤ b ∧ (gh 8).ownBlock ≠ some b)
  top : f 14 = false → Blk W g 69 (rdH A R cA cR z s)
  up : f 14 = true → f 11 = true ∧ Blk W g 69 ((rdH A R cA cR z s).setIfInBounds 1 (gh 11))
section
variable {w1 W W' : World} {base g i : Nat} {A R : Option Addr} {cA cR : Nat} {us : List Value} {z : Int} {s : DS} {bs : List UInt8} {f : Nat → Bool} {gh : Nat → Value}
theorem WoS.start (gh : Nat → Value) (hb : base ≤ w1.heap.size) (hg : g < w1.heap.size) (hR : ∀ b, rowOf R = some b → b < w1.heap.size ∧ b ≠ g) (h1 : w1.ownsRow base 75 2 (.slice R s.loose.length cR) s.loose.length (wcells s.loose us)) (h2 : Blk w1 g 69 (rdH A R cA cR z s)) :
    WoS w1 base g i A R cA cR us z s bs (fun j => decide (15 ≤ j)) gh w1.drew where
  hb := hb
  hg := hg
  hR := hR
  row0 := h1
  top0 := h2
  chg := (Chg.refl _ _).drew
  bel := fun _ => (Below.refl _ _).drew
  o8 := fun h => by simp at h
  a6 := fun h => by simp at h
  a8 := fun h => by simp at h
  a9 := fun h => by simp at h
  a10 := fun h => by simp at h
  a11 := fun h => by simp at h
  top := fun _ => h2.drew
  up := fun h => by simp at h
theorem WoS.step (h : WoS w1 base g i A R cA cR us z s bs f gh W) (j : Nat) (v : Value) (n6 : 6 ≠ j) (n8 : 8 ≠ j) (n9 : 9 ≠ j) (n10 : 10 ≠ j) (n11 : 11 ≠ j) (n14 : 14 ≠ j) : WoS w1 base g i A R cA cR us z s bs (upd f j) (updN gh j v) W := by
  obtain ⟨hb, hg, hR, row0, top0, chg, bel, o8, a6, a8, a9, a10, a11, top, up⟩ := h
  refine ⟨hb, hg, hR, row0, top0, chg, ?_, ?_, ?_, ?_, ?_, ?_, ?_, ?_, ?_⟩ <;> simp only [ap_ne n6, ap_ne n8, ap_ne n9, ap_ne n10, ap_ne n11, ap_ne n14, apN_ne n6, apN_ne n8, apN_ne n9, apN_ne n10, apN_ne n11] <;> assumption
theorem ff_of {a b : Bool} (h : a = true → b = true) (hb : b = false) : a = false := by cases a <;> simp_all
theorem WoS.n9 (h : WoS w1 base g i A R cA cR us z s bs f gh W) (e : f 8 = false) : f 9 = false := ff_of (fun x => (h.a9 x).1) e
theorem WoS.n10 (h : WoS w1 base g i A R cA cR us z s bs f gh W) (e : f 9 = false) : f 10 = false := ff_of (fun x => (h.a10 x).1) e
theorem WoS.n11 (h : WoS w1 base g i A R cA cR us z s bs f gh W) (e : f 10 = false) : f 11 = false := ff_of (fun x => (h.a11 x).1) e
theorem WoS.n14 (h : WoS w1 base g i A R cA cR us z s bs f gh W) (e : f 11 = false) : f 14 = false := ff_of (fun x => (h.up x).1) e
theorem WoS.s6 (h : WoS w1 base g i A R cA cR us z s bs f gh W) (hf : f 6 = false) : WoS w1 base g i A R cA cR us z s bs (upd f 6) (updN gh 6 (.slice (some ⟨W.heap.size, 0, none⟩) 0 0)) (W.alloc (.cells #[] 5)) := by
  have e8 := ff_of h.o8 hf
  have e9 := h.n9 e8; have e10 := h.n10 e9; have e11 := h.n11 e10; have e14 := h.n14 e11
  have hB := below_new W (.cells #[] 5)
  refine ⟨h.hb, h.hg, h.hR, h.row0, h.top0, h.chg.trans (Chg.of_below (L := []) hB) (fun _ hm => by cases hm), ?_, ?_, ?_, ?_, ?_, ?_, ?_, ?_, ?_⟩
  · intro _; exact (h.bel e11).trans (hB.mono h.chg.size)
  · intro _; exact ap_eq
  · intro _ _; rw [apN_eq]; exact Own.lit W 5 w1.heap.size [] #[] 0 rfl rfl h.chg.size (by omega)
  · intro e; rw [ap_ne (by decide), e8] at e; cases e
  · intro e; rw [ap_ne (by decide), e9] at e; cases e
  · intro e; rw [ap_ne (by decide), e10] at e; cases e
  · intro e; rw [ap_ne (by decide), e11] at e; cases e
  · intro _; exact (h.top e14).keep hB
  · intro e; rw [ap_ne (by decide), e14] at e; cases e
theorem WoS.s8 {A2 : Option Addr} {B c2 : Nat} (h : WoS w1 base g i A R cA cR us z s bs f gh W) (h6 : f 6 = true) (hf : f 8 = false) (hs : SB w1 B A2 64 bs) (t ty : TypeId) (ht : Try.prog.underlying t = some (.slice 5)) :
    ∃ v' W', (Builtin.append_ #[t, t] ty #[gh 6, .slice A2 64 c2]).run Try.prog W = .ok v' W' ∧ WoS w1 base g i A R cA cR us z s bs (upd f 8) (updN gh 8 v') W' := by
  have e9 := h.n9 hf; have e10 := h.n10 e9; have e11 := h.n11 e10; have e14 := h.n14 e11
  have ho := h.a6 h6 hf
  obtain ⟨v', W', hr, h2, h3, h4⟩ := run_append_bytes (P := Try.prog) W t ty 5 w1.heap.size ht info5' (gh 6) 0 [] ho B A2 64 c2 bs (hs.keep (h.bel e11)) (by omega) h.chg.size
  have hB : Below w1.heap.size W W' := below_of_grown h3 h.chg.size (fun b e => (ho.block b e).1)
  refine ⟨v', W', hr, ⟨h.hb, h.hg, h.hR, h.row0, h.top0, h.chg.trans (Chg.of_grown (L := (gh 6).ownBlock.toList) h3 (fun b e => by rw [e]; simp)) (fun b hm => .inr (ho.block b (by simpa using hm)).1), ?_, ?_, ?_, ?_, ?_, ?_, ?_, ?_, ?_⟩⟩
  · intro _; exact (h.bel e11).trans hB
  · intro _; rw [ap_ne (by decide)]; exact h6
  · intro _ e; rw [ap_eq] at e; cases e
  · intro _; rw [apN_eq]; simpa using h2
  · intro e; rw [ap_ne (by decide), e9] at e; cases e
  · intro e; rw [ap_ne (by decide), e10] at e; cases e
  · intro e; rw [ap_ne (by decide), e11] at e; cases e
  · intro _; exact (h.top e14).grown h3 (fun e => by have := (ho.block g e).1; have := h.hg; omega)
  · intro e; rw [ap_ne (by decide), e14] at e; cases e
theorem WoS.s9 (h : WoS w1 base g i A R cA cR us z s bs f gh W) (h8 : f 8 = true) (hf : f 9 = false) : WoS w1 base g i A R cA cR us z s bs (upd f 9) (updN gh 9 (.agg #[.int .i64 (i : Int), gh 8])) W := by
  have e10 := h.n10 hf; have e11 := h.n11 e10; have e14 := h.n14 e11
  refine ⟨h.hb, h.hg, h.hR, h.row0, h.top0, h.chg, fun _ => h.bel e11, ?_, ?_, ?_, ?_, ?_, ?_, ?_, ?_⟩
  · intro e; rw [ap_ne (by decide)] at e ⊢; exact h.o8 e
  · intro e e2; rw [ap_ne (by decide)] at e2; rw [h8] at e2; cases e2
  · intro e; rw [apN_ne (by decide)]; exact h.a8 h8
  · intro _; rw [apN_eq, ap_ne (by decide), apN_ne (by decide)]; exact ⟨h8, rfl⟩
  · intro e; rw [ap_ne (by decide), e10] at e; cases e
  · intro e; rw [ap_ne (by decide), e11] at e; cases e
  · intro _; exact h.top e14
  · intro e; rw [ap_ne (by decide), e14] at e; cases e
theorem WoS.s10 (h : WoS w1 base g i A R cA cR us z s bs f gh W) (h9 : f 9 = true) (hf : f 10 = false) : WoS w1 base g i A R cA cR us z s bs (upd f 10) (updN gh 10 (.slice (some ⟨W.heap.size, 0, none⟩) 1 1)) (W.alloc (.cells #[.int .i64 (i : Int), gh 8] 75)) := by
  have e11 := h.n11 hf; have e14 := h.n14 e11
  have hB := below_new W (.cells #[.int .i64 (i : Int), gh 8] 75)
  have h8 := (h.a9 h9).1
  refine ⟨h.hb, h.hg, h.hR, h.row0, h.top0, h.chg.trans (Chg.of_below (L := []) hB) (fun _ hm => by cases hm), fun _ => (h.bel e11).trans (hB.mono h.chg.size), ?_, ?_, ?_, ?_, ?_, ?_, ?_, ?_⟩
  · intro e; rw [ap_ne (by decide)] at e ⊢; exact h.o8 e
  · intro e e2; rw [ap_ne (by decide)] at e2; rw [h8] at e2; cases e2
  · intro e; rw [apN_ne (by decide)]; exact (h.a8 h8).keep hB
  · intro _; rw [ap_ne (by decide), apN_ne (by decide), apN_ne (by decide)]; exact h.a9 h9
  · intro _; rw [apN_eq, ap_ne (by decide), apN_ne (by decide)]; exact ⟨h9, fun _ => ⟨_, rfl, Blk.new _ _ _⟩⟩
  · intro e; rw [ap_ne (by decide), e11] at e; cases e
  · intro _; exact (h.top e14).keep hB
  · intro e; rw [ap_ne (by decide), e14] at e; cases e
theorem info_wr : (Try.prog.info? 75).map (fun i => (i.zero, i.size, i.bytes)) = some (some (.agg #[.int .i64 0, .slice none 0 0]), 2, 32) := by kernel_rfl
theorem WoS.s11 (h : WoS w1 base g i A R cA cR us z s bs f gh W) (h10 : f 10 = true) (hf : f 11 = false) (hlo : s.loose.length ≤ 1000000) (t ty : TypeId) (ht : Try.prog.underlying t = some (.slice 75)) :
    ∃ q v' W', gh 10 = .slice (some ⟨q, 0, none⟩) 1 1 ∧ (Builtin.append_ #[t, t] ty #[.slice R s.loose.length cR, .slice (some ⟨q, 0, none⟩) 1 1]).run Try.prog W = .ok v' W' ∧ WoS w1 base g i A R cA cR us z s bs (upd f 11) (updN gh 11 v') W' := by
  have e14 := h.n14 hf
  obtain ⟨h9, hq⟩ := h.a10 h10
  obtain ⟨q, e10, hbq⟩ := hq hf
  have h8 := (h.a9 h9).1
  have h6 := h.o8 h8
  have ho := h.a8 h8
  obtain ⟨q8, c8, e8⟩ := Go.Joins.ownsRow_form ho (by omega)
  have hrow : W.ownsRow base 75 2 (.slice R s.loose.length cR) s.loose.length (wcells s.loose us) := ownsRow_chg (L := []) h.row0 (Chg.of_below (h.bel hf)) (fun _ _ => by simp)
  obtain ⟨ii, hi, hz0, hsz, hby0⟩ := info_parts info_wr
  obtain ⟨v', W', hr, h2, h3, -, h5⟩ := run_append_own_at (P := Try.prog) W base t ty 75 ii _ 2 32 ht hi hz0 hsz hby0 rfl (by omega) _ s.loose.length _ hrow ⟨q, 0, none⟩ 1 1 [.int .i64 (i : Int), gh 8] rfl (fun j u hu => by
    rw [Addr.add_lit, Nat.zero_add]
    exact hbq.cell j (by simpa using hu)) (fun u hu => by
    rw [e8] at hu
    simp at hu
    rcases hu with rfl | rfl <;> rfl) (by simp [maxLen]; omega) (by omega) (Nat.le_trans h.hb h.chg.size)
  rw [own_row] at h3 h5
  have h8b := ho.block q8 (by rw [e8]; rfl)
  have hne : rowOf R ≠ some q8 := fun e => by have := (h.hR q8 e).1; omega
  refine ⟨q, v', W', e10, hr, ⟨h.hb, h.hg, h.hR, h.row0, h.top0, h.chg.trans (Chg.of_grown (L := g :: (rowOf R).toList) h3 (fun b e => by rw [e]; simp)) (fun b hm => .inl hm), ?_, ?_, ?_, ?_, ?_, ?_, ?_, ?_, ?_⟩⟩
  · intro e; rw [ap_eq] at e; cases e
  · intro e; rw [ap_ne (by decide)] at e ⊢; exact h.o8 e
  · intro e e2; rw [ap_ne (by decide)] at e2; rw [h8] at e2; cases e2
  · intro e; rw [apN_ne (by decide)]; exact ho.kept h3 (.inr (by rw [e8]; intro e2; exact hne e2.symm))
  · intro _; rw [ap_ne (by decide), apN_ne (by decide), apN_ne (by decide)]; exact h.a9 h9
  · intro _; rw [ap_ne (by decide), ap_eq]; exact ⟨h9, fun e => by cases e⟩
  · intro _
    rw [apN_eq, ap_ne (by decide), apN_ne (by decide)]
    refine ⟨h10, h2, ?_⟩
    rcases h5 with h5 | h5
    · exact .inl h5
    · refine .inr ⟨_, h5, h.chg.size, fun e => ?_⟩
      rw [e8] at e
      have e : q8 = W.heap.size := by injection e
      omega
  · intro _; exact (h.top e14).grown h3 (fun e => (h.hR g e).2 rfl)
  · intro e; rw [ap_ne (by decide), e14] at e; cases e
theorem WoS.s14 (h : WoS w1 base g i A R cA cR us z s bs f gh W) (h11 : f 11 = true) (hf : f 14 = false) (k : Value) {v : Value} (hv : gh 11 = v) : WoS w1 base g i A R cA cR us z s bs (upd f 14) (updN gh 14 k) (W.setCell ⟨g, 1, none⟩ v) := by
  subst hv
  obtain ⟨h10, hrow, hmv⟩ := h.a11 h11
  obtain ⟨h9, -⟩ := h.a10 h10
  have h8 := (h.a9 h9).1
  have ho := h.a8 h8
  have hg := grown_setCell W g 1 (gh 11)
  have hgl := h.hg
  refine ⟨h.hb, h.hg, h.hR, h.row0, h.top0, h.chg.trans (Chg.of_grown (L := g :: (rowOf R).toList) hg (fun b e => by cases e; simp)) (fun b hm => .inl hm), ?_, ?_, ?_, ?_, ?_, ?_, ?_, ?_, ?_⟩
  · intro e; rw [ap_ne (by decide), h11] at e; cases e
  · intro e; rw [ap_ne (by decide)] at e ⊢; exact h.o8 e
  · intro e e2; rw [ap_ne (by decide)] at e2; rw [h8] at e2; cases e2
  · intro e; rw [apN_ne (by decide)]; exact ho.kept hg (.inr (fun e2 => by have := (ho.block g e2).1; omega))
  · intro _; rw [ap_ne (by decide), apN_ne (by decide), apN_ne (by decide)]; exact h.a9 h9
  · intro _; rw [ap_ne (by decide), ap_ne (by decide)]; exact ⟨h9, fun e => by rw [h11] at e; cases e⟩
  · intro _
    rw [ap_ne (by decide), apN_ne (by decide), apN_ne (by decide)]
    refine ⟨h10, World.ownsRow.kept hrow hg (.inr (fun e => ?_)), hmv⟩
    rcases hmv with hm | ⟨b, hm, hl, -⟩
    · rw [hm] at e; exact (h.hR g e).2 rfl
    · rw [hm] at e; cases e; omega
  · intro e; rw [ap_eq] at e; cases e
  · intro _; rw [ap_ne (by decide), apN_ne (by decide)]; exact ⟨h11, (h.top hf).set_ 1 _⟩
theorem WoS.cell (h : WoS w1 base g i A R cA cR us z s bs f gh W) (hf : f 14 = false) : W.cell? ⟨g, 1, none⟩ = some (.slice R s.loose.length cR) := (h.top hf).cell 1 rfl
/-- what is left in the end -/
theorem WoS.fin {vs : List Value} {D : List Nat} {m : Nat} (h : WoS w1 base g i A R cA cR us z s bs (fun _ => true) gh W) (hI : RdIn w1 base g A R cA cR vs us D m z s) (_hbs : bs.length = 64) :
    ∃ R' cR' us' D', RdIn W base g A R' cA cR' vs us' D' m z (putS s i bs) ∧ (∀ b, fpR g A R' D' b → fpR g A R D b ∨ w1.heap.size ≤ b) ∧ Chg (g :: (rowOf R).toList) w1 W := by
  have ho := h.a8 rfl
  obtain ⟨-, hrow, hmv⟩ := h.a11 rfl
  obtain ⟨-, hup⟩ := h.up rfl
  obtain ⟨q8, c8, e8⟩ := Go.Joins.ownsRow_form ho (by omega)
  obtain ⟨q, c, e11⟩ := Go.Joins.ownsRow_form hrow (by omega)
  have h8b := ho.block q8 (by rw [e8]; rfl)
  have hq : rowOf R = some q ∨ (w1.heap.size ≤ q ∧ q8 ≠ q) := by
    rw [e11] at hmv
    rcases hmv with hm | ⟨b, hm, hl, hn⟩
    · left; rw [← hm]; rfl
    · right
      have : q = b := by injection hm
      subst this
      exact ⟨hl, fun e => hn (by rw [e8, e]; rfl)⟩
  have hL : ∀ b, b ∈ g :: (rowOf R).toList → b = g ∨ rowOf R = some b := fun b hm => by
    rcases List.mem_cons.1 hm with e | hm
    · exact .inl e
    · exact .inr (by simpa using hm)
  have hlt := hI.lt
  have hc := h.chg
  have hD : ∀ b ∈ D, b ∉ g :: (rowOf R).toList := fun b hb hm => by
    have hd := hI.dd b hb
    rcases hL b hm with e | e
    · exact hd.2.2.1 e
    · exact hd.2.2.2.2 e
  refine ⟨some ⟨q, 0, none⟩, c, us ++ [gh 8], q8 :: D, { hd := ?_, lr := ?_, wr := ?_, ul := ?_, lv := fun k v hv => ?_, wv := fun k x u hx hu => ?_, hg := hI.hg, gA := hI.gA, gR := ?_, AR := ?_, dd := fun b hb => ?_, zf := hI.zf, zl := hI.zl, zh := hI.zh }, fun b hb => ?_, hc⟩
  · rw [e11] at hup
    show Blk W g _ #[.slice A s.n cA, .slice (some ⟨q, 0, none⟩) (s.loose ++ [(i, bs)]).length c, .bool s.fuse.isSome, .int .i64 z, .bool s.out]
    rw [List.length_append]
    exact hup
  · exact ownsRow_chg hI.lr hc (fun b hb hm => by
      rw [own_row] at hb
      rcases hL b hm with e | e
      · exact hI.gA (by rw [← e]; exact hb)
      · exact hI.AR b hb e)
  · show W.ownsRow base _ 2 (.slice (some ⟨q, 0, none⟩) (s.loose ++ [(i, bs)]).length c) (s.loose ++ [(i, bs)]).length (wcells (s.loose ++ [(i, bs)]) (us ++ [gh 8]))
    rw [wcells_snoc _ _ _ _ hI.ul, List.length_append]
    rw [e11] at hrow
    exact hrow
  · show (us ++ [gh 8]).length = (s.loose ++ [(i, bs)]).length
    simp [hI.ul]
  · exact ((hI.lv k v hv).chg hc hD).more (fun b hb => List.mem_cons_of_mem _ hb)
  · change (s.loose ++ [(i, bs)])[k]? = some x at hx
    have hul := hI.ul
    by_cases hk : k < s.loose.length
    · rw [List.getElem?_append_left hk] at hx
      rw [List.getElem?_append_left (by omega)] at hu
      exact ((hI.wv k x u hx hu).chg hc hD).more (fun b hb => List.mem_cons_of_mem _ hb)
    · have hk2 := (List.getElem?_eq_some_iff.1 hx).1
      rw [List.length_append, List.length_singleton] at hk2
      obtain rfl : k = s.loose.length := by omega
      rw [List.getElem?_append_right (Nat.le_refl _), Nat.sub_self] at hx
      rw [List.getElem?_append_right (by omega), ← hul, Nat.sub_self] at hu
      cases hx; cases hu
      exact SecV.of_own ho (fun b e => by rw [e8] at e; cases e; simp)
  · intro e
    have e : q = g := by injection e
    have := h.hg
    rcases hq with h1 | h1
    · exact hI.gR (by rw [← e]; exact h1)
    · omega
  · intro b hb e
    have e : q = b := by injection e
    subst e
    rcases hq with h1 | h1
    · exact hI.AR q hb h1
    · have := (hlt q (.inr (.inl hb))).2; omega
  · rcases List.mem_cons.1 hb with rfl | hb
    · have := h.hg
      have hbb := h.hb
      refine ⟨by omega, h8b.2, by omega, fun e => ?_, fun e => ?_⟩
      · have := (hlt _ (.inr (.inl e))).2; omega
      · have e : q = b := by injection e
        rcases hq with h1 | h1
        · have := (h.hR q h1).1; omega
        · exact h1.2 e.symm
    · have hd := hI.dd b hb
      refine ⟨hd.1, Nat.lt_of_lt_of_le hd.2.1 hc.size, hd.2.2.1, hd.2.2.2.1, fun e => ?_⟩
      have e : q = b := by injection e
      rcases hq with h1 | h1
      · exact hd.2.2.2.2 (by rw [← e]; exact h1)
      · omega
  · rcases hb with hb | hb | hb | hb
    · exact .inl (.inl hb)
    · exact .inl (.inr (.inl hb))
    · have e : q = b := by injection hb
      rcases hq with h1 | h1
      · exact .inl (.inr (.inr (.inl (by rw [← e]; exact h1))))
      · right; omega
    · rcases List.mem_cons.1 hb with rfl | hb
      · right; exact h8b.1
      · exact .inl (.inr (.inr (.inr hb)))
end
theorem run_b75 (i : Int) (q c : Nat) (W : World) : (Instr.build 75 #[(0, .int .i64 i), (1, .slice (some ⟨q, 0, none⟩) 64 c)]).run Try.prog W = .ok (.agg #[.int .i64 i, .slice (some ⟨q, 0, none⟩) 64 c]) W := by kernel_rfl
theorem run_bs75 (i : Int) (q c : Nat) (W : World) : (Instr.buildSlice 67 1 #[(0, .agg #[.int .i64 i, .slice (some ⟨q, 0, none⟩) 64 c])]).run Try.prog W = .ok (.slice (some ⟨W.heap.size, 0, none⟩) 1 1) (W.alloc (.cells #[.int .i64 i, .slice (some ⟨q, 0, none⟩) 64 c] 75)) := by kernel_rfl
theorem does_b2 {P : Program} {o : Oper} {a : Act} {w w' : World} {T : Value → World → Prop} (t : TypeId) (x y : Operand) (ho : o.op = .build t #[(0, x), (1, y)]) {u u2 v : Value} (hx : a.eval x = u) (hy : a.eval y = u2) (hr : (Instr.build t #[(0, u), (1, u2)]).run P w = .ok v w') (h : T v w') : OpDoes P o a w T := fun K Q hK => by
  unfold Oper.wp execOp
  simp only [ho, List.map_toArray, List.map_cons, List.map_nil, hx, hy, Sem.run_bind, hr, Result.andThen_ok]
  exact hK _ _ h
theorem does_bs1 {P : Program} {o : Oper} {a : Act} {w w' : World} {T : Value → World → Prop} (t : TypeId) (x : Operand) (ho : o.op = .buildSlice t 1 #[(0, x)]) {u v : Value} (hx : a.eval x = u) (hr : (Instr.buildSlice t 1 #[(0, u)]).run P w = .ok v w') (h : T v w') : OpDoes P o a w T := fun K Q hK => by
  unfold Oper.wp execOp
  simp only [ho, List.map_toArray, List.map_cons, List.map_nil, hx, Sem.run_bind, hr, Result.andThen_ok]
  exact hK _ _ h
def dwVal (g j ln cR c2 : Nat) (R A2 : Option Addr) : Nat → Value → Value
  | 0, _ => .pointer (some ⟨g, 0, none⟩)
  | 1, _ => .pointer (some ⟨g, 0, none⟩)
  | 2, _ => .pointer (some ⟨g, 0, none⟩)
  | 3, _ => .pointer (some ⟨g, 1, none⟩)
  | 4, _ => .slice R ln cR
  | 5, _ => .int .i64 (j : Int)
  | 6, k => k
  | 7, _ => .slice A2 64 c2
  | 8, k => k
  | 9, k => k
  | 10, k => k
  | 11, k => k
  | 12, _ => .pointer (some ⟨g, 0, none⟩)
  | 13, _ => .pointer (some ⟨g, 1, none⟩)
  | _, _ => undef
section
variable (base g m : Nat) (F : List Nat) (s : DS) (w : World)
set_option maxHeartbeats 4000000 in
set_option maxRecDepth 20000 in
theorem rWrite_calls (i : Int) (B n c2 : Nat) (A2 : Option Addr) (bs : List UInt8) (hm : m ≤ 1000) (h : RdB w base F g m s) (hb : base ≤ w.heap.size) (hlo : s.loose.length ≤ 1000000) (hs : SB w B A2 n bs) (hne : ∀ b off, A2 = some ⟨b, off, none⟩ → b ∉ F) :
    Calls Try.prog 37 #[.pointer (some ⟨g, 0, none⟩), .int .i64 i, .slice A2 n c2] w (RdPost w base F g (m + 1) (writeS s i bs) (.int .i64 (writeE s i n : Int))) := by
  have HS := hid h
  have hlen := hs.1
  obtain ⟨A, R, cA, cR, vs, us, D, z, h, hok, hsn, hF, hlt⟩ := h
  have c4 := h.hd.cell 4 rfl
  have c0 := h.hd.cell 0 rfl
  by_cases ho : s.out = true
  · have HK := hid (show RdPost w base F g (m + 1) (writeS s i bs) (.int .i64 (writeE s i n : Int)) (.returned (.int .i64 22)) w from by
      rw [show writeE s i n = 22 from if_pos ho, show writeS s i bs = s from if_pos ho]; exact RdPost.same HS.out (by omega) _)
    rw [ho] at c4
    clear h ho hok hF hlt HS hs hne hlen hlo hsn
    generalize writeS s i bs = s' at HK ⊢
    generalize writeE s i n = e' at HK ⊢
    go_enter Try.func37, Try.ntmps37
    go_wp2_with fail
    go_ret
    exact HK.out
  have ho' : s.out = false := by simpa using ho
  rw [ho'] at c4
  by_cases hh : hasB s.n i = false
  · have HK := hid (show RdPost w base F g (m + 1) (writeS s i bs) (.int .i64 (writeE s i n : Int)) (.returned (.int .i64 3)) w from by
      rw [show writeE s i n = 3 from by unfold writeE; rw [if_neg ho, if_pos hh], show writeS s i bs = s from by unfold writeS; rw [if_neg ho, if_pos hh]]; exact RdPost.same HS.out (by omega) _)
    have hi' : ¬ (0 ≤ i ∧ i < (s.n : Int)) := by simpa [hasB] using hh
    clear h ho hok hF hlt HS hs hne hlen hlo hsn hh ho'
    generalize writeS s i bs = s' at HK ⊢
    generalize writeE s i n = e' at HK ⊢
    by_cases q0 : i < 0
    · go_enter Try.func37, Try.ntmps37
      go_wp2_with fail
      go_ret
      exact HK.out
    · have q1 : (s.n : Int) ≤ i := by omega
      clear hi'
      go_enter Try.func37, Try.ntmps37
      go_wp2_with fail
      go_ret
      exact HK.out
  have hh' : hasB s.n i = true := by simpa using hh
  have hr := hh'
  simp only [hasB, decide_eq_true_eq] at hr
  obtain ⟨j, rfl⟩ : ∃ j : Nat, i = (j : Int) := ⟨i.toNat, by omega⟩
  have q0 : ¬ (j : Int) < 0 := by omega
  have q1 : ¬ (s.n : Int) ≤ (j : Int) := by omega
  have hjn : j < s.n := by omega
  by_cases hn : n = 64
  · subst hn
    have HT := hid (rThrough_calls base g m s w hm ho' h)
    by_cases hl : lets s = false
    · have HE := hid (show writeE s j 64 = 22 from by unfold writeE; rw [if_neg ho, if_neg hh, if_neg (by omega), if_pos hl])
      have HSS := hid (show writeS s j bs = burn s from by unfold writeS; rw [if_neg ho, if_neg hh, if_neg (by omega), if_pos hl])
      have HFI := hid (show ∀ w' z', RdIn w' base g A R cA cR vs us D (m + 1) z' (burn s) → Chg [g] w w' → RdPost w base F g (m + 1) (burn s) (.int .i64 22) (.returned (.int .i64 22)) w' from fun w' z' h1 hc =>
        RdPost.of hF hlt h1 (burn_ok hok) hsn (hc.more (fun b hb => .inl (by rw [List.mem_singleton.1 hb]; exact hF g (.inl rfl)))) (fun b hb => .inl (hF b hb)) _)
      rw [hl] at HT
      rw [HE.out, HSS.out]
      clear h ho hok hF hlt HS hs hne hlen hlo hsn hh hh' ho' hr HE HSS hl hjn
      generalize burn s = s' at HFI HT ⊢
      go_enter Try.func37, Try.ntmps37
      go_wp2_with fail
      refine HT.out.mono ?_
      rintro _ w1 ⟨rfl, z', h1, hc⟩
      have HK := hid (HFI.out _ _ h1 hc)
      clear h1 hc
      go_wp2_with fail
      go_ret
      exact HK.out
    · have hl' : lets s = true := by simpa using hl
      have HE := hid (show writeE s j 64 = 0 from by unfold writeE; rw [if_neg ho, if_neg hh, if_neg (by omega), if_neg hl])
      have HSS := hid (show writeS s j bs = putS (burn s) j bs from by unfold writeS; rw [if_neg ho, if_neg hh, if_neg (by omega), if_neg hl, Int.toNat_natCast])
      have HFI := hid (show ∀ w1 w' z' R' cR' us' D', Chg [g] w w1 → RdIn w' base g A R' cA cR' vs us' D' (m + 1) z' (putS (burn s) j bs) → (∀ b, fpR g A R' D' b → fpR g A R D b ∨ w1.heap.size ≤ b) → Chg (g :: (rowOf R).toList) w1 w' → RdPost w base F g (m + 1) (putS (burn s) j bs) (.int .i64 0) (.returned (.int .i64 0)) w' from fun w1 w' z' R' cR' us' D' hc h1 hn hc2 => by
        refine RdPost.of hF hlt h1 (put_ok (burn_ok hok) hjn hlen) (sane_put hsn j bs) ((hc.more (L' := F) (fun b hb => .inl (by rw [List.mem_singleton.1 hb]; exact hF g (.inl rfl)))).trans hc2 (fun b hb => .inl ?_)) (fun b hb => ?_) _
        · rcases List.mem_cons.1 hb with e | hb
          · exact hF b (.inl e)
          · exact hF b (.inr (.inr (.inl (by simpa using hb))))
        · rcases hn b hb with h2 | h2
          · exact .inl (hF b h2)
          · exact .inr (Nat.le_trans hc.size h2))
      have HSB := hid (fun w1 (hc : Chg [g] w w1) => (hs.more (Nat.le_refl B)).chg hc (fun b off e _ hm => hne b off e (by rw [List.mem_singleton.1 hm]; exact hF g (.inl rfl))))
      have HLO := hid (show (burn s).loose.length ≤ 1000000 from hlo)
      have HHB := hid hb
      have HLEN := hid hlen
      rw [hl'] at HT
      rw [HE.out, HSS.out]
      clear h ho hok hF hlt HS hs hne hlo hsn hh hh' ho' hr HE HSS hl hjn hl' hb hlen
      generalize hsb : burn s = sb at HFI HT HLO ⊢
      clear hsb
      go_enter Try.func37, Try.ntmps37
      go_wp2_with fail
      refine HT.out.mono ?_
      rintro _ w1 ⟨rfl, z', h1, hc⟩
      have HIN := hid h1; have HCH := hid hc
      have HS1 := hid (HSB.out w1 hc)
      have HST := hid (WoS.start (i := j) (bs := bs) (fun _ => .pointer none) (Nat.le_trans HHB.out hc.size) h1.hd.lt (fun b hb => ⟨(h1.lt b (.inr (.inr (.inl hb)))).2, fun e => h1.gR (by rw [hb, e])⟩) h1.wr h1.hd)
      clear h1 hc HSB HT c0 c4
      go_wp2_with fail
      refine wp_region_invG 46 (.pointer none) (dwVal g j sb.loose.length cR c2 R A2) (WoS w1 base g j A R cA cR us z' sb bs) (by kernel_rfl) (by kernel_rfl) (by exact Nat.le_refl 46) ?_ ?_ ?_
      · exact HST.out
      · intro i o f gh a W hi hf hdep hsame hcl hval hS
        rcases i with _ | _ | _ | _ | _ | _ | _ | _ | _ | _ | _ | _ | _ | _ | _ | i
        all_goals simp only [List.getElem?_cons_succ, List.getElem?_cons_zero, List.getElem?_nil, Option.some.injEq, reduceCtorEq] at hi
        all_goals subst hi
        · have E0 : a.tmps[0]? = some (.pointer (some ⟨g, 0, none⟩)) := (same_of hsame 0 (by rfl)).trans rfl
          refine g_plain rfl ?_
          exact does_value (w' := W) (v := .pointer (some ⟨g, 0, none⟩)) (by go_simp) ⟨.pointer none, .inr rfl, hS.step 0 (.pointer none) (by decide) (by decide) (by decide) (by decide) (by decide) (by decide)⟩
        · have E0 : a.tmps[0]? = some (.pointer (some ⟨g, 0, none⟩)) := (same_of hsame 0 (by rfl)).trans rfl
          refine g_plain rfl ?_
          exact does_value (w' := W) (v := .pointer (some ⟨g, 0, none⟩)) (by go_simp) ⟨.pointer none, .inr rfl, hS.step 1 (.pointer none) (by decide) (by decide) (by decide) (by decide) (by decide) (by decide)⟩
        · have E33 := hval 1 _ 33 rfl rfl (dep_of hdep 1 (by rfl))
          unfold dwVal at E33
          refine g_plain rfl ?_
          exact does_value (w' := W) (v := .pointer (some ⟨g, 0, none⟩)) (by go_simp) ⟨.pointer none, .inr rfl, hS.step 2 (.pointer none) (by decide) (by decide) (by decide) (by decide) (by decide) (by decide)⟩
        · have E34 := hval 2 _ 34 rfl rfl (dep_of hdep 2 (by rfl))
          unfold dwVal at E34
          refine g_plain rfl ?_
          exact does_value (w' := W) (v := .pointer (some ⟨g, 1, none⟩)) (by go_simp) ⟨.pointer none, .inr rfl, hS.step 3 (.pointer none) (by decide) (by decide) (by decide) (by decide) (by decide) (by decide)⟩
        · have E35 := hval 3 _ 35 rfl rfl (dep_of hdep 3 (by rfl))
          unfold dwVal at E35
          have n11 := not_yet hcl hf 11 (by rfl)
          have n14 := not_yet hcl n11 14 (by rfl)
          have c0 := hS.cell n14
          refine g_plain rfl ?_
          exact does_value (w' := W) (v := .slice R sb.loose.length cR) (by go_simp) ⟨.pointer none, .inr rfl, hS.step 4 (.pointer none) (by decide) (by decide) (by decide) (by decide) (by decide) (by decide)⟩
        · have E1 : a.tmps[1]? = some (.int .i64 (j : Int)) := (same_of hsame 1 (by rfl)).trans rfl
          refine g_plain rfl ?_
          exact does_value (w' := W) (v := .int .i64 (j : Int)) (by go_simp) ⟨.pointer none, .inr rfl, hS.step 5 (.pointer none) (by decide) (by decide) (by decide) (by decide) (by decide) (by decide)⟩
        · refine g_plain rfl ?_
          exact does_value (w' := W.alloc (.cells #[] 5)) (v := .slice (some ⟨W.heap.size, 0, none⟩) 0 0) (by go_simp) ⟨.slice (some ⟨W.heap.size, 0, none⟩) 0 0, .inr rfl, hS.s6 hf⟩
        · have E2 : a.tmps[2]? = some (.slice A2 64 c2) := (same_of hsame 2 (by rfl)).trans rfl
          refine g_plain rfl ?_
          exact does_value (w' := W) (v := .slice A2 64 c2) (by go_simp) ⟨.pointer none, .inr rfl, hS.step 7 (.pointer none) (by decide) (by decide) (by decide) (by decide) (by decide) (by decide)⟩
        · have E38 := hval 6 _ 38 rfl rfl (dep_of hdep 6 (by rfl))
          have E39 := hval 7 _ 39 rfl rfl (dep_of hdep 7 (by rfl))
          unfold dwVal at E38 E39
          refine g_plain rfl ?_
          obtain ⟨v', W', hr, hS'⟩ := hS.s8 (c2 := c2) (dep_of hdep 6 (by rfl)) hf HS1.out 37 37 Try.underlying37
          exact does_append _ _ _ rfl (by rw [eval_getD, E38]; rfl) (by rw [eval_getD, E39]; rfl) hr ⟨v', .inr rfl, hS'⟩
        · have E37 := hval 5 _ 37 rfl rfl (dep_of hdep 5 (by rfl))
          have E40 := hval 8 _ 40 rfl rfl (dep_of hdep 8 (by rfl))
          unfold dwVal at E37 E40
          refine g_plain rfl ?_
          obtain ⟨q8, c8, e8⟩ := Go.Joins.ownsRow_form (hS.a8 (dep_of hdep 8 (by rfl))) (by omega)
          rw [e8] at E40
          have h9 := hS.s9 (dep_of hdep 8 (by rfl)) hf
          rw [e8] at h9
          exact does_b2 _ _ _ rfl (by rw [eval_getD, E37]; rfl) (by rw [eval_getD, E40]; rfl) (run_b75 (j : Int) q8 c8 W) ⟨_, .inr rfl, h9⟩
        · have E41 := hval 9 _ 41 rfl rfl (dep_of hdep 9 (by rfl))
          unfold dwVal at E41
          refine g_plain rfl ?_
          obtain ⟨h8, e9⟩ := hS.a9 (dep_of hdep 9 (by rfl))
          obtain ⟨q8, c8, e8⟩ := Go.Joins.ownsRow_form (hS.a8 h8) (by omega)
          rw [e8] at e9
          rw [e9] at E41
          have h10 := hS.s10 (dep_of hdep 9 (by rfl)) hf
          rw [e8] at h10
          exact does_bs1 _ _ rfl (by rw [eval_getD, E41]; rfl) (run_bs75 (j : Int) q8 c8 W) ⟨_, .inr rfl, h10⟩
        · have E36 := hval 4 _ 36 rfl rfl (dep_of hdep 4 (by rfl))
          have E42 := hval 10 _ 42 rfl rfl (dep_of hdep 10 (by rfl))
          unfold dwVal at E36 E42
          refine g_plain rfl ?_
          obtain ⟨q, v', W', e10, hr, hS'⟩ := hS.s11 (dep_of hdep 10 (by rfl)) hf HLO.out 67 67 Try.underlying67
          rw [e10] at E42
          exact does_append _ _ _ rfl (by rw [eval_getD, E36]; rfl) (by rw [eval_getD, E42]; rfl) hr ⟨v', .inr rfl, hS'⟩
        · have E32 := hval 0 _ 32 rfl rfl (dep_of hdep 0 (by rfl))
          unfold dwVal at E32
          refine g_plain rfl ?_
          exact does_value (w' := W) (v := .pointer (some ⟨g, 0, none⟩)) (by go_simp) ⟨.pointer none, .inr rfl, hS.step 12 (.pointer none) (by decide) (by decide) (by decide) (by decide) (by decide) (by decide)⟩
        · have E44 := hval 12 _ 44 rfl rfl (dep_of hdep 12 (by rfl))
          unfold dwVal at E44
          refine g_plain rfl ?_
          exact does_value (w' := W) (v := .pointer (some ⟨g, 1, none⟩)) (by go_simp) ⟨.pointer none, .inr rfl, hS.step 13 (.pointer none) (by decide) (by decide) (by decide) (by decide) (by decide) (by decide)⟩
        · have E45 := hval 13 _ 45 rfl rfl (dep_of hdep 13 (by rfl))
          have E43 := hval 11 _ 43 rfl rfl (dep_of hdep 11 (by rfl))
          unfold dwVal at E45 E43
          refine g_plain rfl ?_
          obtain ⟨-, hrow, -⟩ := hS.a11 (dep_of hdep 11 (by rfl))
          obtain ⟨g2, c3, e7⟩ := Go.Joins.ownsRow_form hrow (by omega)
          rw [e7] at E43
          have c0 := hS.cell hf; have z0 := (hS.top hf).frozen 1
          exact does_skip (w' := W.setCell ⟨g, 1, none⟩ (.slice (some ⟨g2, 0, none⟩) (sb.loose.length + 1) c3)) (by go_simp) ⟨.pointer none, .inl rfl, hS.s14 (dep_of hdep 11 (by rfl)) hf (.pointer none) e7⟩
      · intro gh w8 hS
        obtain ⟨R', cR', us', D', hI2, hn2, hc2⟩ := hS.fin HIN.out HLEN.out
        have HK := hid (HFI.out w1 w8 z' R' cR' us' D' HCH.out hI2 hn2 hc2)
        clear hS HST hI2 hn2 hc2 HFI HIN
        simp only [putAll, dwVal, Nat.reduceAdd, Nat.zero_add, Act.put, List.setIfInBounds_toArray, List.set_cons_zero, List.set_cons_succ]
        go_wp2_with fail
        go_ret
        exact HK.out
  · have HK := hid (show RdPost w base F g (m + 1) (writeS s j bs) (.int .i64 (writeE s j n : Int)) (.returned (.int .i64 2)) w from by
      rw [show writeE s j n = 2 from by unfold writeE; rw [if_neg ho, if_neg hh, if_pos hn], show writeS s j bs = s from by unfold writeS; rw [if_neg ho, if_neg hh, if_pos (by omega)]]; exact RdPost.same HS.out (by omega) _)
    have hn' : (((n : Int)) != 64) = true := by simp; omega
    clear h ho hok hF hlt HS hs hne hlen hlo hsn hh hh' ho' hr hjn
    generalize writeS s j bs = s' at HK ⊢
    generalize writeE s j n = e' at HK ⊢
    go_enter Try.func37, Try.ntmps37
    go_wp2_with fail
    go_ret
    exact HK.out
end
end Go.Proofs.Ytoajnabdflikfaa
