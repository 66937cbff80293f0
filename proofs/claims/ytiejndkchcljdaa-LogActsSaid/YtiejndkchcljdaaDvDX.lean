/- Contract: the plain reference's Write. Written by tools/mkdv.py out of XDvRfW.tpl. -/
import Derived.Test.YtiejndkchcljdaaDvRfN
import Derived.Test.YtiejndkchcljdaaDvInv
import Derived.Test.YtiejndkchcljdaaDvApi
namespace Go.Proofs.Ytiejndkchcljdaa
open Go.RowKit

/-- a device's cells -/
def rdH (A R : Option Addr) (cA cR : Nat) (z : Int) (s : DS) : Array Value := #[.slice A s.n cA, .slice R s.loose.length cR, .bool s.fuse.isSome, .int .i64 z, .bool s.out]
/-- a loose write is put behind the others -/
structure WoS (w1 : World) (base g i : Nat) (A R : Option Addr) (cA cR : Nat) (us : List Value) (z : Int) (s : DS) (bs : List UInt8) (f : Nat → Bool) (gh : Nat → Value) (W : World) : Prop where
  hb : base ≤ w1.heap.size
  hg : g < w1.heap.size
  hR : ∀ b, rowOf R = some b → b < w1.heap.size ∧ b ≠ g
  row0 : w1.ownsRow base 98 2 (.slice R s.loose.length cR) s.loose.length (wcells s.loose us)
  top0 : Blk w1 g 86 (rdH A R cA cR z s)
  chg : Chg (g :: (rowOf R).toList) w1 W
  bel : f 11 = false → Below w1.heap.size w1 W
  o8 : f 8 = true → f 6 = true
  a6 : f 6 = true → f 8 = false → Own W w1.heap.size 5 (gh 6) 0 []
  a8 : f 8 = true → Own W w1.heap.size 5 (gh 8) 64 bs
  a9 : f 9 = true → f 8 = true ∧ gh 9 = .agg #[.int .i64 (i : Int), gh 8]
  a10 : f 10 = true → f 9 = true ∧ (f 11 = false → ∃ q, gh 10 = .slice (some ⟨q, 0, none⟩) 1 1 ∧ Blk W q 98 #[.int .i64 (i : Int), gh 8])
  a11 : f 11 = true → f 10 = true ∧ W.ownsRow base 98 2 (gh 11) (s.loose.length + 1) (wcells s.loose us ++ [.int .i64 (i : Int), gh 8]) ∧ ((gh 11).ownBlock = rowOf R ∨ ∃ b, (gh 11).ownBlock = some b ∧ w1.heap.size ≤ b ∧ (gh 8).ownBlock ≠ some b)
  top : f 14 = false → Blk W g 86 (rdH A R cA cR z s)
  up : f 14 = true → f 11 = true ∧ Blk W g 86 ((rdH A R cA cR z s).setIfInBounds 1 (gh 11))
section
variable {w1 W W' : World} {base g i : Nat} {A R : Option Addr} {cA cR : Nat} {us : List Value} {z : Int} {s : DS} {bs : List UInt8} {f : Nat → Bool} {gh : Nat → Value}
theorem WoS.start (gh : Nat → Value) (hb : base ≤ w1.heap.size) (hg : g < w1.heap.size) (hR : ∀ b, rowOf R = some b → b < w1.heap.size ∧ b ≠ g) (h1 : w1.ownsRow base 98 2 (.slice R s.loose.length cR) s.loose.length (wcells s.loose us)) (h2 : Blk w1 g 86 (rdH A R cA cR z s)) :
    WoS w1 base g i A R cA cR us z s bs (fun j => decide (15 ≤ j)) gh w1.drew where
  hb := hb
  hg := hg
  hR := hR
  row0 := h1
  top0 := h2
  chg := (Chg.refl _ _).drew
  bel := fun _ => (Below.refl _ _).drew
  o8 := fun h => by simp at h
  a6 := fun h => by simp at h
  a8 := fun h => by simp at h
  a9 := fun h => by simp at h
  a10 := fun h => by simp at h
  a11 := fun h => by simp at h
  top := fun _ => h2.drew
  up := fun h => by simp at h
theorem WoS.step (h : WoS w1 base g i A R cA cR us z s bs f gh W) (j : Nat) (v : Value) (n6 : 6 ≠ j) (n8 : 8 ≠ j) (n9 : 9 ≠ j) (n10 : 10 ≠ j) (n11 : 11 ≠ j) (n14 : 14 ≠ j) : WoS w1 base g i A R cA cR us z s bs (upd f j) (updN gh j v) W := by
  obtain ⟨hb, hg, hR, row0, top0, chg, bel, o8, a6, a8, a9, a10, a11, top, up⟩ := h
  refine ⟨hb, hg, hR, row0, top0, chg, ?_, ?_, ?_, ?_, ?_, ?_, ?_, ?_, ?_⟩ <;> simp only [ap_ne n6, ap_ne n8, ap_ne n9, ap_ne n10, ap_ne n11, ap_ne n14, apN_ne n6, apN_ne n8, apN_ne n9, apN_ne n10, apN_ne n11] <;> assumption
theorem ff_of {a b : Bool} (h : a = true → b = true) (hb : b = false) : a = false := by cases a <;> simp_all
theorem WoS.n9 (h : WoS w1 base g i A R cA cR us z s bs f gh W) (e : f 8 = false) : f 9 = false := ff_of (fun x => (h.a9 x).1) e
theorem WoS.n10 (h : WoS w1 base g i A R cA cR us z s bs f gh W) (e : f 9 = false) : f 10 = false := ff_of (fun x => (h.a10 x).1) e
theorem WoS.n11 (h : WoS w1 base g i A R cA cR us z s bs f gh W) (e : f 10 = false) : f 11 = false := ff_of (fun x => (h.a11 x).1) e
theorem WoS.n14 (h : WoS w1 base g i A R cA cR us z s bs f gh W) (e : f 11 = false) : f 14 = false := ff_of (fun x => (h.up x).1) e
theorem WoS.s6 (h : WoS w1 base g i A R cA cR us z s bs f gh W) (hf : f 6 = false) : WoS w1 base g i A R cA cR us z s bs (upd f 6) (updN gh 6 (.slice (some ⟨W.heap.size, 0, none⟩) 0 0)) (W.alloc (.cells #[] 5)) := by
  have e8 := ff_of h.o8 hf
  have e9 := h.n9 e8; have e10 := h.n10 e9; have e11 := h.n11 e10; have e14 := h.n14 e11
  have hB := below_new W (.cells #[] 5)
  refine ⟨h.hb, h.hg, h.hR, h.row0, h.top0, h.chg.trans (Chg.of_below (L := []) hB) (fun _ hm => by cases hm), ?_, ?_, ?_, ?_, ?_, ?_, ?_, ?_, ?_⟩
  · intro _; exact (h.bel e11).trans (hB.mono h.chg.size)
  · intro _; exact ap_eq
  · intro _ _; rw [apN_eq]; exact Own.lit W 5 w1.heap.size [] #[] 0 rfl rfl h.chg.size (by omega)
  · intro e; rw [ap_ne (by decide), e8] at e; cases e
  · intro e; rw [ap_ne (by decide), e9] at e; cases e
  · intro e; rw [ap_ne (by decide), e10] at e; cases e
  · intro e; rw [ap_ne (by decide), e11] at e; cases e
  · intro _; exact (h.top e14).keep hB
  · intro e; rw [ap_ne (by decide), e14] at e; cases e
theorem WoS.s8 {A2 : Option Addr} {B c2 : Nat} (h : WoS w1 base g i A R cA cR us z s bs f gh W) (h6 : f 6 = true) (hf : f 8 = false) (hs : SB w1 B A2 64 bs) (t ty : TypeId) (ht : Try.prog.underlying t = some (.slice 5)) :
    ∃ v' W', (Builtin.append_ #[t, t] ty #[gh 6, .slice A2 64 c2]).run Try.prog W = .ok v' W' ∧ WoS w1 base g i A R cA cR us z s bs (upd f 8) (updN gh 8 v') W' := by
  have e9 := h.n9 hf; have e10 := h.n10 e9; have e11 := h.n11 e10; have e14 := h.n14 e11
  have ho := h.a6 h6 hf
  obtain ⟨v', W', hr, h2, h3, h4⟩ := run_append_bytes (P := Try.prog) W t ty 5 w1.heap.size ht info5' (gh 6) 0 [] ho B A2 64 c2 bs (hs.keep (h.bel e11)) (by omega) h.chg.size
  have hB : Below w1.heap.size W W' := below_of_grown h3 h.chg.size (fun b e => (ho.block b e).1)
  refine ⟨v', W', hr, ⟨h.hb, h.hg, h.hR, h.row0, h.top0, h.chg.trans (Chg.of_grown (L := (gh 6).ownBlock.toList) h3 (fun b e => by rw [e]; simp)) (fun b hm => .inr (ho.block b (by simpa using hm)).1), ?_, ?_, ?_, ?_, ?_, ?_, ?_, ?_, ?_⟩⟩
  · intro _; exact (h.bel e11).trans hB
  · intro _; rw [ap_ne (by decide)]; exact h6
  · intro _ e; rw [ap_eq] at e; cases e
  · intro _; rw [apN_eq]; simpa using h2
  · intro e; rw [ap_ne (by decide), e9] at e; cases e
  · intro e; rw [ap_ne (by decide), e10] at e; cases e
  · intro e; rw [ap_ne (by decide), e11] at e; cases e
  · intro _; exact (h.top e14).grown h3 (fun e => by have := (ho.block g e).1; have := h.hg; omega)
  · intro e; rw [ap_ne (by decide), e14] at e; cases e
theorem WoS.s9 (h : WoS w1 base g i A R cA cR us z s bs f gh W) (h8 : f 8 = true) (hf : f 9 = false) : WoS w1 base g i A R cA cR us z s bs (upd f 9) (updN gh 9 (.agg #[.int .i64 (i : Int), gh 8])) W := by
  have e10 := h.n10 hf; have e11 := h.n11 e10; have e14 := h.n14 e11
  refine ⟨h.hb, h.hg, h.hR, h.row0, h.top0, h.chg, fun _ => h.bel e11, ?_, ?_, ?_, ?_, ?_, ?_, ?_, ?_⟩
  · intro e; rw [ap_ne (by decide)] at e ⊢; exact h.o8 e
  · intro e e2; rw [ap_ne (by decide)] at e2; rw [h8] at e2; cases e2
  · intro e; rw [apN_ne (by decide)]; exact h.a8 h8
  · intro _; rw [apN_eq, ap_ne (by decide), apN_ne (by decide)]; exact ⟨h8, rfl⟩
  · intro e; rw [ap_ne (by decide), e10] at e; cases e
  · intro e; rw [ap_ne (by decide), e11] at e; cases e
  · intro _; exact h.top e14
  · intro e; rw [ap_ne (by decide), e14] at e; cases e
theorem WoS.s10 (h : WoS w1 base g i A R cA cR us z s bs f gh W) (h9 : f 9 = true) (hf : f 10 = false) : WoS w1 base g i A R cA cR us z s bs (upd f 10) (updN gh 10 (.slice (some ⟨W.heap.size, 0, none⟩) 1 1)) (W.alloc (.cells #[.int .i64 (i : Int), gh 8] 98)) := by
  have e11 := h.n11 hf; have e14 := h.n14 e11
  have hB := below_new W (.cells #[.int .i64 (i : Int), gh 8] 98)
  have h8 := (h.a9 h9).1
  refine ⟨h.hb, h.hg, h.hR, h.row0, h.top0, h.chg.trans (Chg.of_below (L := []) hB) (fun _ hm => by cases hm), fun _ => (h.bel e11).trans (hB.mono h.chg.size), ?_, ?_, ?_, ?_, ?_, ?_, ?_, ?_⟩
  · intro e; rw [ap_ne (by decide)] at e ⊢; exact h.o8 e
  · intro e e2; rw [ap_ne (by decide)] at e2; rw [h8] at e2; cases e2
  · intro e; rw [apN_ne (by decide)]; exact (h.a8 h8).keep hB
  · intro _; rw [ap_ne (by decide), apN_ne (by decide), apN_ne (by decide)]; exact h.a9 h9
  · intro _; rw [apN_eq, ap_ne (by decide), apN_ne (by decide)]; exact ⟨h9, fun _ => ⟨_, rfl, Blk.new _ _ _⟩⟩
  · intro e; rw [ap_ne (by decide), e11] at e; cases e
  · intro _; exact (h.top e14).keep hB
  · intro e; rw [ap_ne (by decide), e14] at e; cases e
theorem info_wr : (Try.prog.info? 98).map (fun i => (i.zero, i.size, i.bytes)) = some (some (.agg #[.int .i64 0, .slice none 0 0]), 2, 32) := by kernel_rfl
theorem WoS.s11 (h : WoS w1 base g i A R cA cR us z s bs f gh W) (h10 : f 10 = true) (hf : f 11 = false) (hlo : s.loose.length ≤ 1000000) (t ty : TypeId) (ht : Try.prog.underlying t = some (.slice 98)) :
    ∃ q v' W', gh 10 = .slice (some ⟨q, 0, none⟩) 1 1 ∧ (Builtin.append_ #[t, t] ty #[.slice R s.loose.length cR, .slice (some ⟨q, 0, none⟩) 1 1]).run Try.prog W = .ok v' W' ∧ WoS w1 base g i A R cA cR us z s bs (upd f 11) (updN gh 11 v') W' := by
  have e14 := h.n14 hf
  obtain ⟨h9, hq⟩ := h.a10 h10
  obtain ⟨q, e10, hbq⟩ := hq hf
  have h8 := (h.a9 h9).1
  have h6 := h.o8 h8
  have ho := h.a8 h8
  obtain ⟨q8, c8, e8⟩ := Go.Joins.ownsRow_form ho (by omega)
  have hrow : W.ownsRow base 98 2 (.slice R s.loose.length cR) s.loose.length (wcells s.loose us) := ownsRow_chg (L := []) h.row0 (Chg.of_below (h.bel hf)) (fun _ _ => by simp)
  obtain ⟨ii, hi, hz0, hsz, hby0⟩ := info_parts info_wr
  obtain ⟨v', W', hr, h2, h3, -, h5⟩ := run_append_own_at (P := Try.prog) W base t ty 98 ii _ 2 32 ht hi hz0 hsz hby0 rfl (by omega) _ s.loose.length _ hrow ⟨q, 0, none⟩ 1 1 [.int .i64 (i : Int), gh 8] rfl (fun j u hu => by
    rw [Addr.add_lit, Nat.zero_add]
    exact hbq.cell j (by simpa using hu)) (fun u hu => by
    rw [e8] at hu
    simp at hu
    rcases hu with rfl | rfl <;> rfl) (by simp [maxLen]; omega) (by omega) (Nat.le_trans h.hb h.chg.size)
  rw [own_row] at h3 h5
  have h8b := ho.block q8 (by rw [e8]; rfl)
  have hne : rowOf R ≠ some q8 := fun e => by have := (h.hR q8 e).1; omega
  refine ⟨q, v', W', e10, hr, ⟨h.hb, h.hg, h.hR, h.row0, h.top0, h.chg.trans (Chg.of_grown (L := g :: (rowOf R).toList) h3 (fun b e => by rw [e]; simp)) (fun b hm => .inl hm), ?_, ?_, ?_, ?_, ?_, ?_, ?_, ?_, ?_⟩⟩
  · intro e; rw [ap_eq] at e; cases e
  · intro e; rw [ap_ne (by decide)] at e ⊢; exact h.o8 e
  · intro e e2; rw [ap_ne (by decide)] at e2; rw [h8] at e2; cases e2
  · intro e; rw [apN_ne (by decide)]; exact ho.kept h3 (.inr (by rw [e8]; intro e2; exact hne e2.symm))
  · intro _; rw [ap_ne (by decide), apN_ne (by decide), apN_ne (by decide)]; exact h.a9 h9
  · intro _; rw [ap_ne (by decide), ap_eq]; exact ⟨h9, fun e => by cases e⟩
  · intro _
    rw [apN_eq, ap_ne (by decide), apN_ne (by decide)]
    refine ⟨h10, h2, ?_⟩
    rcases h5 with h5 | h5
    · exact .inl h5
    · refine .inr ⟨_, h5, h.chg.size, fun e => ?_⟩
      rw [e8] at e
      have e : q8 = W.heap.size := by injection e
      omega
  · intro _; exact (h.top e14).grown h3 (fun e => (h.hR g e).2 rfl)
  · intro e; rw [ap_ne (by decide), e14] at e; cases e
theorem WoS.s14 (h : WoS w1 base g i A R cA cR us z s bs f gh W) (h11 : f 11 = true) (hf : f 14 = false) (k : Value) {v : Value} (hv : gh 11 = v) : WoS w1 base g i A R cA cR us z s bs (upd f 14) (updN gh 14 k) (W.setCell ⟨g, 1, none⟩ v) := by
  subst hv
  obtain ⟨h10, hrow, hmv⟩ := h.a11 h11
  obtain ⟨h9, -⟩ := h.a10 h10
  have h8 := (h.a9 h9).1
  have ho := h.a8 h8
  have hg := grown_setCell W g 1 (gh 11)
  have hgl := h.hg
  refine ⟨h.hb, h.hg, h.hR, h.row0, h.top0, h.chg.trans (Chg.of_grown (L := g :: (rowOf R).toList) hg (fun b e => by cases e; simp)) (fun b hm => .inl hm), ?_, ?_, ?_, ?_, ?_, ?_, ?_, ?_, ?_⟩
  · intro e; rw [ap_ne (by decide), h11] at e; cases e
  · intro e; rw [ap_ne (by decide)] at e ⊢; exact h.o8 e
  · intro e e2; rw [ap_ne (by decide)] at e2; rw [h8] at e2; cases e2
  · intro e; rw [apN_ne (by decide)]; exact ho.kept hg (.inr (fun e2 => by have := (ho.block g e2).1; omega))
  · intro _; rw [ap_ne (by decide), apN_ne (by decide), apN_ne (by decide)]; exact h.a9 h9
  · intro _; rw [ap_ne (by decide), ap_ne (by decide)]; exact ⟨h9, fun e => by rw [h11] at e; cases e⟩
  · intro _
    rw [ap_ne (by decide), apN_ne (by decide), apN_ne (by decide)]
    refine ⟨h10, World.ownsRow.kept hrow hg (.inr (fun e => ?_)), hmv⟩
    rcases hmv with hm | ⟨b, hm, hl, -⟩
    · rw [hm] at e; exact (h.hR g e).2 rfl
    · rw [hm] at e; cases e; omega
  · intro e; rw [ap_eq] at e; cases e
  · intro _; rw [ap_ne (by decide), apN_ne (by decide)]; exact ⟨h11, (h.top hf).set_ 1 _⟩
theorem WoS.cell (h : WoS w1 base g i A R cA cR us z s bs f gh W) (hf : f 14 = false) : W.cell? ⟨g, 1, none⟩ = some (.slice R s.loose.length cR) := (h.top hf).cell 1 rfl
/-- what is left in the end -/
theorem WoS.fin {vs : List Value} {D : List Nat} {m : Nat} (h : WoS w1 base g i A R cA cR us z s bs (fun _ => true) gh W) (hI : RdIn w1 base g A R cA cR vs us D m z s) (_hbs : bs.length = 64) :
    ∃ R' cR' us' D', RdIn W base g A R' cA cR' vs us' D' m z (putS s i bs) ∧ (∀ b, fpR g A R' D' b → fpR g A R D b ∨ w1.heap.size ≤ b) ∧ Chg (g :: (rowOf R).toList) w1 W := by
  have ho := h.a8 rfl
  obtain ⟨-, hrow, hmv⟩ := h.a11 rfl
  obtain ⟨-, hup⟩ := h.up rfl
  obtain ⟨q8, c8, e8⟩ := Go.Joins.ownsRow_form ho (by omega)
  obtain ⟨q, c, e11⟩ := Go.Joins.ownsRow_form hrow (by omega)
  have h8b := ho.block q8 (by rw [e8]; rfl)
  have hq : rowOf R = some q ∨ (w1.heap.size ≤ q ∧ q8 ≠ q) := by
    rw [e11] at hmv
    rcases hmv with hm | ⟨b, hm, hl, hn⟩
    · left; rw [← hm]; rfl
    · right
      have : q = b := by injection hm
      subst this
      exact ⟨hl, fun e => hn (by rw [e8, e]; rfl)⟩
  have hL : ∀ b, b ∈ g :: (rowOf R).toList → b = g ∨ rowOf R = some b := fun b hm => by
    rcases List.mem_cons.1 hm with e | hm
    · exact .inl e
    · exact .inr (by simpa using hm)
  have hlt := hI.lt
  have hc := h.chg
  have hD : ∀ b ∈ D, b ∉ g :: (rowOf R).toList := fun b hb hm => by
    have hd := hI.dd b hb
    rcases hL b hm with e | e
    · exact hd.2.2.1 e
    · exact hd.2.2.2.2 e
  refine ⟨some ⟨q, 0, none⟩, c, us ++ [gh 8], q8 :: D, { hd := ?_, lr := ?_, wr := ?_, ul := ?_, lv := fun k v hv => ?_, wv := fun k x u hx hu => ?_, hg := hI.hg, gA := hI.gA, gR := ?_, AR := ?_, dd := fun b hb => ?_, zf := hI.zf, zl := hI.zl, zh := hI.zh }, fun b hb => ?_, hc⟩
  · rw [e11] at hup
    show Blk W g _ #[.slice A s.n cA, .slice (some ⟨q, 0, none⟩) (s.loose ++ [(i, bs)]).length c, .bool s.fuse.isSome, .int .i64 z, .bool s.out]
    rw [List.length_append]
    exact hup
  · exact ownsRow_chg hI.lr hc (fun b hb hm => by
      rw [own_row] at hb
      rcases hL b hm with e | e
      · exact hI.gA (by rw [← e]; exact hb)
      · exact hI.AR b hb e)
  · show W.ownsRow base _ 2 (.slice (some ⟨q, 0, none⟩) (s.loose ++ [(i, bs)]).length c) (s.loose ++ [(i, bs)]).length (wcells (s.loose ++ [(i, bs)]) (us ++ [gh 8]))
    rw [wcells_snoc _ _ _ _ hI.ul, List.length_append]
    rw [e11] at hrow
    exact hrow
  · show (us ++ [gh 8]).length = (s.loose ++ [(i, bs)]).length
    simp [hI.ul]
  · exact ((hI.lv k v hv).chg hc hD).more (fun b hb => List.mem_cons_of_mem _ hb)
  · change (s.loose ++ [(i, bs)])[k]? = some x at hx
    have hul := hI.ul
    by_cases hk : k < s.loose.length
    · rw [List.getElem?_append_left hk] at hx
      rw [List.getElem?_append_left (by omega)] at hu
      exact ((hI.wv k x u hx hu).chg hc hD).more (fun b hb => List.mem_cons_of_mem _ hb)
    · have hk2 := (List.getElem?_eq_some_iff.1 hx).1
      rw [List.length_append, List.length_singleton] at hk2
      obtain rfl : k = s.loose.length := by omega
      rw [List.getElem?_append_right (Nat.le_refl _), Nat.sub_self] at hx
      rw [List.getElem?_append_right (by omega), ← hul, Nat.sub_self] at hu
      cases hx; cases hu
      exact SecV.of_own ho (fun b e => by rw [e8] at e; cases e; simp)
  · intro e
    have e : q = g := by injection e
    have := h.hg
    rcases hq with h1 | h1
    · exact hI.gR (by rw [← e]; exact h1)
    · omega
  · intro b hb e
    have e : q = b := by injection e
    subst e
    rcases hq with h1 | h1
    · exact hI.AR q hb h1
    · have := (hlt q (.inr (.inl hb))).2; omega
  · rcases List.mem_cons.1 hb with rfl | hb
    · have := h.hg
      have hbb := h.hb
      refine ⟨by omega, h8b.2, by omega, fun e => ?_, fun e => ?_⟩
      · have := (hlt _ (.inr (.inl e))).2; omega
      · have e : q = b := by injection e
        rcases hq with h1 | h1
        · have := (h.hR q h1).1; omega
        · exact h1.2 e.symm
    · have hd := hI.dd b hb
      refine ⟨hd.1, Nat.lt_of_lt_of_le hd.2.1 hc.size, hd.2.2.1, hd.2.2.2.1, fun e => ?_⟩
      have e : q = b := by injection e
      rcases hq with h1 | h1
      · exact hd.2.2.2.2 (by rw [← e]; exact h1)
      · omega
  · rcases hb with hb | hb | hb | hb
    · exact .inl (.inl hb)
    · exact .inl (.inr (.inl hb))
    · have e : q = b := by injection hb
      rcases hq with h1 | h1
      · exact .inl (.inr (.inr (.inl (by rw [← e]; exact h1))))
      · right; omega
    · rcases List.mem_cons.1 hb with rfl | hb
      · right; exact h8b.1
      · exact .inl (.inr (.inr (.inr hb)))
end
theorem run_b75 (i : Int) (q c : Nat) (W : World) : (Instr.build 98 #[(0, .int .i64 i), (1, .slice (some ⟨q, 0, none⟩) 64 c)]).run Try.prog W = .ok (.agg #[.int .i64 i, .slice (some ⟨q, 0, none⟩) 64 c]) W := by kernel_rfl
theorem run_bs75 (i : Int) (q c : Nat) (W : World) : (Instr.buildSlice 84 1 #[(0, .agg #[.int .i64 i, .slice (some ⟨q, 0, none⟩) 64 c])]).run Try.prog W = .ok (.slice (some ⟨W.heap.size, 0, none⟩) 1 1) (W.alloc (.cells #[.int .i64 i, .slice (some ⟨q, 0, none⟩) 64 c] 98)) := by kernel_rfl
theorem does_b2 {P : Program} {o : Oper} {a : Act} {w w' : World} {T : Value → World → Prop} (t : TypeId) (x y : Operand) (ho : o.op = .build t #[(0, x), (1, y)]) {u u2 v : Value} (hx : a.eval x = u) (hy : a.eval y = u2) (hr : (Instr.build t #[(0, u), (1, u2)]).run P w = .ok v w') (h : T v w') : OpDoes P o a w T := fun K Q hK => by
  unfold Oper.wp execOp
  simp only [ho, List.map_toArray, List.map_cons, List.map_nil, hx, hy, Sem.run_bind, hr, Result.andThen_ok]
  exact hK _ _ h
theorem does_bs1 {P : Program} {o : Oper} {a : Act} {w w' : World} {T : Value → World → Prop} (t : TypeId) (x : Operand) (ho : o.op = .buildSlice t 1 #[(0, x)]) {u v : Value} (hx : a.eval x = u) (hr : (Instr.buildSlice t 1 #[(0, u)]).run P w = .ok v w') (h : T v w') : OpDoes P o a w T := fun K Q hK => by
  unfold Oper.wp execOp
  simp only [ho, List.map_toArray, List.map_cons, List.map_nil, hx, Sem.run_bind, hr, Result.andThen_ok]
  exact hK _ _ h
def dwVal (g j ln cR c2 : Nat) (R A2 : Option Addr) : Nat → Value → Value
  | 0, _ => .pointer (some ⟨g, 0, none⟩)
  | 1, _ => .pointer (some ⟨g, 0, none⟩)
  | 2, _ => .pointer (some ⟨g, 0, none⟩)
  | 3, _ => .pointer (some ⟨g, 1, none⟩)
  | 4, _ => .slice R ln cR
  | 5, _ => .int .i64 (j : Int)
  | 6, k => k
  | 7, _ => .slice A2 64 c2
  | 8, k => k
  | 9, k => k
  | 10, k => k
  | 11, k => k
  | 12, _ => .pointer (some ⟨g, 0, none⟩)
  | 13, _ => .pointer (some ⟨g, 1, none⟩)
  | _, _ => undef
section
variable (base g m : Nat) (F : List Nat) (s : DS) (w : World)
set_option maxHeartbeats 4000000 in
set_option maxRecDepth 20000 in
theorem rWrite_calls (i : Int) (B n c2 : Nat) (A2 : Option Addr) (bs : List UInt8) (hm : m ≤ 900000) (h : RdB w base F g m s) (hb : base ≤ w.heap.size) (hlo : s.loose.length ≤ 1000000) (hs : SB w B A2 n bs) (hne : ∀ b off, A2 = some ⟨b, off, none⟩ → b ∉ F) :
    Calls Try.prog 28 #[.pointer (some ⟨g, 0, none⟩), .int .i64 i, .slice A2 n c2] w (RdPost w base F g (m + 1) (writeS s i bs) (.int .i64 (writeE s i n : Int))) := by
  have HS := hid h
  have hlen := hs.1
  obtain ⟨A, R, cA, cR, vs, us, D, z, h, hok, hsn, hF, hlt⟩ := h
  have c4 := h.hd.cell 4 rfl
  have c0 := h.hd.cell 0 rfl
  by_cases ho : s.out = true
  · have HK := hid (show RdPost w base F g (m + 1) (writeS s i bs) (.int .i64 (writeE s i n : Int)) (.returned (.int .i64 22)) w from by
      rw [show writeE s i n = 22 from if_pos ho, show writeS s i bs = s from if_pos ho]; exact RdPost.same HS.out (by omega) _)
    rw [ho] at c4
    clear h ho hok hF hlt HS hs hne hlen hlo hsn
    generalize writeS s i bs = s' at HK ⊢
    generalize writeE s i n = e' at HK ⊢
    go_enter Try.func28, Try.ntmps28
    go_wp2_with fail
    go_ret
    exact HK.out
  have ho' : s.out = false := by simpa using ho
  rw [ho'] at c4
  by_cases hh : hasB s.n i = false
  · have HK := hid (show RdPost w base F g (m + 1) (writeS s i bs) (.int .i64 (writeE s i n : Int)) (.returned (.int .i64 3)) w from by
      rw [show writeE s i n = 3 from by unfold writeE; rw [if_neg ho, if_pos hh], show writeS s i bs = s from by unfold writeS; rw [if_neg ho, if_pos hh]]; exact RdPost.same HS.out (by omega) _)
    have hi' : ¬ (0 ≤ i ∧ i < (s.n : Int)) := by simpa [hasB] using hh
    clear h ho hok hF hlt HS hs hne hlen hlo hsn hh ho'
    generalize writeS s i bs = s' at HK ⊢
    generalize writeE s i n = e' at HK ⊢
    by_cases q0 : i < 0
    · go_enter Try.func28, Try.ntmps28
      go_wp2_with fail
      go_ret
      exact HK.out
    · have q1 : (s.n : Int) ≤ i := by omega
      clear hi'
      go_enter Try.func28, Try.ntmps28
      go_wp2_with fail
      go_ret
      exact HK.out
  have hh' : hasB s.n i = true := by simpa using hh
  have hr := hh'
  simp only [hasB, decide_eq_true_eq] at hr
  obtain ⟨j, rfl⟩ : ∃ j : Nat, i = (j : Int) := ⟨i.toNat, by omega⟩
  have q0 : ¬ (j : Int) < 0 := by omega
  have q1 : ¬ (s.n : Int) ≤ (j : Int) := by omega
  have hjn : j < s.n := by omega
  by_cases hn : n = 64
  · subst hn
    have HT := hid (rThrough_calls base g m s w hm ho' h)
    by_cases hl : lets s = false
    · have HE := hid (show writeE s j 64 = 22 from by unfold writeE; rw [if_neg ho, if_neg hh, if_neg (by omega), if_pos hl])
      have HSS := hid (show writeS s j bs = burn s from by unfold writeS; rw [if_neg ho, if_neg hh, if_neg (by omega), if_pos hl])
      have HFI := hid (show ∀ w' z', RdIn w' base g A R cA cR vs us D (m + 1) z' (burn s) → Chg [g] w w' → RdPost w base F g (m + 1) (burn s) (.int .i64 22) (.returned (.int .i64 22)) w' from fun w' z' h1 hc =>
        RdPost.of hF hlt h1 (burn_ok hok) hsn (hc.more (fun b hb => .inl (by rw [List.mem_singleton.1 hb]; exact hF g (.inl rfl)))) (fun b hb => .inl (hF b hb)) _)
      rw [hl] at HT
      rw [HE.out, HSS.out]
      clear h ho hok hF hlt HS hs hne hlen hlo hsn hh hh' ho' hr HE HSS hl hjn
      generalize burn s = s' at HFI HT ⊢
      go_enter Try.func28, Try.ntmps28
      go_wp2_with fail
      refine HT.out.mono ?_
      rintro _ w1 ⟨rfl, z', h1, hc⟩
      have HK := hid (HFI.out _ _ h1 hc)
      clear h1 hc
      go_wp2_with fail
      go_ret
      exact HK.out
    · have hl' : lets s = true := by simpa using hl
      have HE := hid (show writeE s j 64 = 0 from by unfold writeE; rw [if_neg ho, if_neg hh, if_neg (by omega), if_neg hl])
      have HSS := hid (show writeS s j bs = putS (burn s) j bs from by unfold writeS; rw [if_neg ho, if_neg hh, if_neg (by omega), if_neg hl, Int.toNat_natCast])
      have HFI := hid (show ∀ w1 w' z' R' cR' us' D', Chg [g] w w1 → RdIn w' base g A R' cA cR' vs us' D' (m + 1) z' (putS (burn s) j bs) → (∀ b, fpR g A R' D' b → fpR g A R D b ∨ w1.heap.size ≤ b) → Chg (g :: (rowOf R).toList) w1 w' → RdPost w base F g (m + 1) (putS (burn s) j bs) (.int .i64 0) (.returned (.int .i64 0)) w' from fun w1 w' z' R' cR' us' D' hc h1 hn hc2 => by
        refine RdPost.of hF hlt h1 (put_ok (burn_ok hok) hjn hlen) (sane_put hsn j bs) ((hc.more (L' := F) (fun b hb => .inl (by rw [List.mem_singleton.1 hb]; exact hF g (.inl rfl)))).trans hc2 (fun b hb => .inl ?_)) (fun b hb => ?_) _
        · rcases List.mem_cons.1 hb with e | hb
          · exact hF b (.inl e)
          · exact hF b (.inr (.inr (.inl (by simpa using hb))))
        · rcases hn b hb with h2 | h2
          · exact .inl (hF b h2)
          · exact .inr (Nat.le_trans hc.size h2))
      have HSB := hid (fun w1 (hc : Chg [g] w w1) => (hs.more (Nat.le_refl B)).chg hc (fun b off e _ hm => hne b off e (by rw [List.mem_singleton.1 hm]; exact hF g (.inl rfl))))
      have HLO := hid (show (burn s).loose.length ≤ 1000000 from hlo)
      have HHB := hid hb
      have HLEN := hid hlen
      rw [hl'] at HT
      rw [HE.out, HSS.out]
      clear h ho hok hF hlt HS hs hne hlo hsn hh hh' ho' hr HE HSS hl hjn hl' hb hlen
      generalize hsb : burn s = sb at HFI HT HLO ⊢
      clear hsb
      go_enter Try.func28, Try.ntmps28
      go_wp2_with fail
      refine HT.out.mono ?_
      rintro _ w1 ⟨rfl, z', h1, hc⟩
      have HIN := hid h1; have HCH := hid hc
      have HS1 := hid (HSB.out w1 hc)
      have HST := hid (WoS.start (i := j) (bs := bs) (fun _ => .pointer none) (Nat.le_trans HHB.out hc.size) h1.hd.lt (fun b hb => ⟨(h1.lt b (.inr (.inr (.inl hb)))).2, fun e => h1.gR (by rw [hb, e])⟩) h1.wr h1.hd)
      clear h1 hc HSB HT c0 c4
      go_wp2_with fail
      refine wp_region_invG 46 (.pointer none) (dwVal g j sb.loose.length cR c2 R A2) (WoS w1 base g j A R cA cR us z' sb bs) (by kernel_rfl) (by kernel_rfl) (by exact Nat.le_refl 46) ?_ ?_ ?_
      · exact HST.out
      · intro i o f gh a W hi hf hdep hsame hcl hval hS
        rcases i with _ | _ | _ | _ | _ | _ | _ | _ | _ | _ | _ | _ | _ | _ | _ | i
        all_goals simp only [List.getElem?_cons_succ, List.getElem?_cons_zero, List.getElem?_nil, Option.some.injEq, reduceCtorEq] at hi
        all_goals subst hi
        · have E0 : a.tmps[0]? = some (.pointer (some ⟨g, 0, none⟩)) := (same_of hsame 0 (by rfl)).trans rfl
          refine g_plain rfl ?_
          exact does_value (w' := W) (v := .pointer (some ⟨g, 0, none⟩)) (by go_simp) ⟨.pointer none, .inr rfl, hS.step 0 (.pointer none) (by decide) (by decide) (by decide) (by decide) (by decide) (by decide)⟩
        · have E0 : a.tmps[0]? = some (.pointer (some ⟨g, 0, none⟩)) := (same_of hsame 0 (by rfl)).trans rfl
          refine g_plain rfl ?_
          exact does_value (w' := W) (v := .pointer (some ⟨g, 0, none⟩)) (by go_simp) ⟨.pointer none, .inr rfl, hS.step 1 (.pointer none) (by decide) (by decide) (by decide) (by decide) (by decide) (by decide)⟩
        · have E33 := hval 1 _ 33 rfl rfl (dep_of hdep 1 (by rfl))
          unfold dwVal at E33
          refine g_plain rfl ?_
          exact does_value (w' := W) (v := .pointer (some ⟨g, 0, none⟩)) (by go_simp) ⟨.pointer none, .inr rfl, hS.step 2 (.pointer none) (by decide) (by decide) (by decide) (by decide) (by decide) (by decide)⟩
        · have E34 := hval 2 _ 34 rfl rfl (dep_of hdep 2 (by rfl))
          unfold dwVal at E34
          refine g_plain rfl ?_
          exact does_value (w' := W) (v := .pointer (some ⟨g, 1, none⟩)) (by go_simp) ⟨.pointer none, .inr rfl, hS.step 3 (.pointer none) (by decide) (by decide) (by decide) (by decide) (by decide) (by decide)⟩
        · have E35 := hval 3 _ 35 rfl rfl (dep_of hdep 3 (by rfl))
          unfold dwVal at E35
          have n11 := not_yet hcl hf 11 (by rfl)
          have n14 := not_yet hcl n11 14 (by rfl)
          have c0 := hS.cell n14
          refine g_plain rfl ?_
          exact does_value (w' := W) (v := .slice R sb.loose.length cR) (by go_simp) ⟨.pointer none, .inr rfl, hS.step 4 (.pointer none) (by decide) (by decide) (by decide) (by decide) (by decide) (by decide)⟩
        · have E1 : a.tmps[1]? = some (.int .i64 (j : Int)) := (same_of hsame 1 (by rfl)).trans rfl
          refine g_plain rfl ?_
          exact does_value (w' := W) (v := .int .i64 (j : Int)) (by go_simp) ⟨.pointer none, .inr rfl, hS.step 5 (.pointer none) (by decide) (by decide) (by decide) (by decide) (by decide) (by decide)⟩
        · refine g_plain rfl ?_
          exact does_value (w' := W.alloc (.cells #[] 5)) (v := .slice (some ⟨W.heap.size, 0, none⟩) 0 0) (by go_simp) ⟨.slice (some ⟨W.heap.size, 0, none⟩) 0 0, .inr rfl, hS.s6 hf⟩
        · have E2 : a.tmps[2]? = some (.slice A2 64 c2) := (same_of hsame 2 (by rfl)).trans rfl
          refine g_plain rfl ?_
          exact does_value (w' := W) (v := .slice A2 64 c2) (by go_simp) ⟨.pointer none, .inr rfl, hS.step 7 (.pointer none) (by decide) (by decide) (by decide) (by decide) (by decide) (by decide)⟩
        · have E38 := hval 6 _ 38 rfl rfl (dep_of hdep 6 (by rfl))
          have E39 := hval 7 _ 39 rfl rfl (dep_of hdep 7 (by rfl))
          unfold dwVal at E38 E39
          refine g_plain rfl ?_
          obtain ⟨v', W', hr, hS'⟩ := hS.s8 (c2 := c2) (dep_of hdep 6 (by rfl)) hf HS1.out 34 34 Try.underlying34
          exact does_append _ _ _ rfl (by rw [eval_getD, E38]; rfl) (by rw [eval_getD, E39]; rfl) hr ⟨v', .inr rfl, hS'⟩
        · have E37 := hval 5 _ 37 rfl rfl (dep_of hdep 5 (by rfl))
          have E40 := hval 8 _ 40 rfl rfl (dep_of hdep 8 (by rfl))
          unfold dwVal at E37 E40
          refine g_plain rfl ?_
          obtain ⟨q8, c8, e8⟩ := Go.Joins.ownsRow_form (hS.a8 (dep_of hdep 8 (by rfl))) (by omega)
          rw [e8] at E40
          have h9 := hS.s9 (dep_of hdep 8 (by rfl)) hf
          rw [e8] at h9
          exact does_b2 _ _ _ rfl (by rw [eval_getD, E37]; rfl) (by rw [eval_getD, E40]; rfl) (run_b75 (j : Int) q8 c8 W) ⟨_, .inr rfl, h9⟩
        · have E41 := hval 9 _ 41 rfl rfl (dep_of hdep 9 (by rfl))
          unfold dwVal at E41
          refine g_plain rfl ?_
          obtain ⟨h8, e9⟩ := hS.a9 (dep_of hdep 9 (by rfl))
          obtain ⟨q8, c8, e8⟩ := Go.Joins.ownsRow_form (hS.a8 h8) (by omega)
          rw [e8] at e9
          rw [e9] at E41
          have h10 := hS.s10 (dep_of hdep 9 (by rfl)) hf
          rw [e8] at h10
          exact does_bs1 _ _ rfl (by rw [eval_getD, E41]; rfl) (run_bs75 (j : Int) q8 c8 W) ⟨_, .inr rfl, h10⟩
        · have E36 := hval 4 _ 36 rfl rfl (dep_of hdep 4 (by rfl))
          have E42 := hval 10 _ 42 rfl rfl (dep_of hdep 10 (by rfl))
          unfold dwVal at E36 E42
          refine g_plain rfl ?_
          obtain ⟨q, v', W', e10, hr, hS'⟩ := hS.s11 (dep_of hdep 10 (by rfl)) hf HLO.out 84 84 Try.underlying84
          rw [e10] at E42
          exact does_append _ _ _ rfl (by rw [eval_getD, E36]; rfl) (by rw [eval_getD, E42]; rfl) hr ⟨v', .inr rfl, hS'⟩
        · have E32 := hval 0 _ 32 rfl rfl (dep_of hdep 0 (by rfl))
          unfold dwVal at E32
          refine g_plain rfl ?_
          exact does_value (w' := W) (v := .pointer (some ⟨g, 0, none⟩)) (by go_simp) ⟨.pointer none, .inr rfl, hS.step 12 (.pointer none) (by decide) (by decide) (by decide) (by decide) (by decide) (by decide)⟩
        · have E44 := hval 12 _ 44 rfl rfl (dep_of hdep 12 (by rfl))
          unfold dwVal at E44
          refine g_plain rfl ?_
          exact does_value (w' := W) (v := .pointer (some ⟨g, 1, none⟩)) (by go_simp) ⟨.pointer none, .inr rfl, hS.step 13 (.pointer none) (by decide) (by decide) (by decide) (by decide) (by decide) (by decide)⟩
        · have E45 := hval 13 _ 45 rfl rfl (dep_of hdep 13 (by rfl))
          have E43 := hval 11 _ 43 rfl rfl (dep_of hdep 11 (by rfl))
          unfold dwVal at E45 E43
          refine g_plain rfl ?_
          obtain ⟨-, hrow, -⟩ := hS.a11 (dep_of hdep 11 (by rfl))
          obtain ⟨g2, c3, e7⟩ := Go.Joins.ownsRow_form hrow (by omega)
          rw [e7] at E43
          have c0 := hS.cell hf; have z0 := (hS.top hf).frozen 1
          exact does_skip (w' := W.setCell ⟨g, 1, none⟩ (.slice (some ⟨g2, 0, none⟩) (sb.loose.length + 1) c3)) (by go_simp) ⟨.pointer none, .inl rfl, hS.s14 (dep_of hdep 11 (by rfl)) hf (.pointer none) e7⟩
      · intro gh w8 hS
        obtain ⟨R', cR', us', D', hI2, hn2, hc2⟩ := hS.fin HIN.out HLEN.out
        have HK := hid (HFI.out w1 w8 z' R' cR' us' D' HCH.out hI2 hn2 hc2)
        clear hS HST hI2 hn2 hc2 HFI HIN
        simp only [putAll, dwVal, Nat.reduceAdd, Nat.zero_add, Act.put, List.setIfInBounds_toArray, List.set_cons_zero, List.set_cons_succ]
        go_wp2_with fail
        go_ret
        exact HK.out
  · have HK := hid (show RdPost w base F g (m + 1) (writeS s j bs) (.int .i64 (writeE s j n : Int)) (.returned (.int .i64 2)) w from by
      rw [show writeE s j n = 2 from by unfold writeE; rw [if_neg ho, if_neg hh, if_pos hn], show writeS s j bs = s from by unfold writeS; rw [if_neg ho, if_neg hh, if_pos (by omega)]]; exact RdPost.same HS.out (by omega) _)
    have hn' : (((n : Int)) != 64) = true := by simp; omega
    clear h ho hok hF hlt HS hs hne hlen hlo hsn hh hh' ho' hr hjn
    generalize writeS s j bs = s' at HK ⊢
    generalize writeE s j n = e' at HK ⊢
    go_enter Try.func28, Try.ntmps28
    go_wp2_with fail
    go_ret
    exact HK.out
end
end Go.Proofs.Ytiejndkchcljdaa
/- Contract: the plain reference's Flush. Written by tools/mkdv.py out of XDvRfF.tpl. -/
namespace Go.Proofs.Ytiejndkchcljdaa
open Go.RowKit

/-- reads, and one store in the end -/
structure StS (w1 : World) (is : Nat) (T : World → Prop) (f : Nat → Bool) (_gh : Nat → Unit) (W : World) : Prop where
  bel : f is = false → Below w1.heap.size w1 W
  up : f is = true → T W
section
variable {w1 W W' : World} {is : Nat} {T : World → Prop} {f : Nat → Bool} {gh gh' : Nat → Unit}
theorem StS.start {m : Nat} (hi : is < m) : StS w1 is T (fun j => decide (m ≤ j)) gh w1.drew := ⟨fun _ => (Below.refl _ _).drew, fun h => by have := of_decide_eq_true h; omega⟩
theorem StS.step (h : StS w1 is T f gh W) (j : Nat) (hj : is ≠ j) : StS w1 is T (upd f j) gh' W := ⟨fun e => h.bel (by rwa [ap_ne hj] at e), fun e => h.up (by rwa [ap_ne hj] at e)⟩
theorem StS.put (_h : StS w1 is T f gh W) (ht : T W') : StS w1 is T (upd f is) gh' W' := ⟨fun e => (by rw [ap_eq] at e; cases e), fun _ => ht⟩
end
/-- what the first loose writes make of a device -/
def flK (s : DS) (k : Nat) : DS := { s with img := flushL s.img (s.loose.take k) }
def dfVal (g k la r b c xi sn ln cA cR : Nat) : Nat → Unit → Value
  | 0, _ => .pointer (some ⟨g, 0, none⟩)
  | 1, _ => .pointer (some ⟨g, 0, none⟩)
  | 2, _ => .pointer (some ⟨g, 0, none⟩)
  | 3, _ => .slice (some ⟨la, 0, none⟩) sn cA
  | 4, _ => .pointer (some ⟨g, 0, none⟩)
  | 5, _ => .pointer (some ⟨g, 0, none⟩)
  | 6, _ => .pointer (some ⟨g, 1, none⟩)
  | 7, _ => .slice (some ⟨r, 0, none⟩) ln cR
  | 8, _ => .int .i64 (k : Int)
  | 9, _ => .pointer (some ⟨r, 2 * k, none⟩)
  | 10, _ => .pointer (some ⟨r, 2 * k, none⟩)
  | 11, _ => .int .i64 (xi : Int)
  | 12, _ => .pointer (some ⟨g, 0, none⟩)
  | 13, _ => .pointer (some ⟨g, 0, none⟩)
  | 14, _ => .pointer (some ⟨g, 1, none⟩)
  | 15, _ => .slice (some ⟨r, 0, none⟩) ln cR
  | 16, _ => .int .i64 (k : Int)
  | 17, _ => .pointer (some ⟨r, 2 * k, none⟩)
  | 18, _ => .pointer (some ⟨r, 2 * k + 1, none⟩)
  | 19, _ => .slice (some ⟨b, 0, none⟩) 64 c
  | 20, _ => .pointer (some ⟨la, xi, none⟩)
  | _, _ => undef
section
variable (base g m : Nat) (F : List Nat) (s : DS) (w : World)
set_option maxHeartbeats 4000000 in
set_option maxRecDepth 20000 in
theorem rFlush_calls (hm : m ≤ 900000) (h : RdB w base F g m s) (hlo : s.loose.length ≤ 1000000) :
    Calls Try.prog 21 #[.pointer (some ⟨g, 0, none⟩)] w (RdPost w base F g (m + 1) (flushD s) (.int .i64 (flushE s : Int))) := by
  have HS := hid h
  obtain ⟨A, R, cA, cR, vs, us, D, z, h, hok, hsn, hF, hlt⟩ := h
  have c4 := h.hd.cell 4 rfl
  by_cases ho : s.out = true
  · have HK := hid (show RdPost w base F g (m + 1) (flushD s) (.int .i64 (flushE s : Int)) (.returned (.int .i64 22)) w from by
      rw [show flushE s = 22 from if_pos ho, show flushD s = s from if_pos ho]; exact RdPost.same HS.out (by omega) _)
    rw [ho] at c4
    clear h ho hok hF hlt HS hlo hsn
    generalize flushD s = s' at HK ⊢
    generalize flushE s = e' at HK ⊢
    go_enter Try.func21, Try.ntmps21
    go_wp2_with fail
    go_ret
    exact HK.out
  have ho' : s.out = false := by simpa using ho
  rw [ho'] at c4
  have HT := hid (rThrough_calls base g m s w hm ho' h)
  by_cases hl : lets s = false
  · have HE := hid (show flushE s = 22 from by unfold flushE; rw [if_neg ho, if_pos hl])
    have HSS := hid (show flushD s = burn s from by unfold flushD; rw [if_neg ho, if_pos hl])
    have HFI := hid (show ∀ w' z', RdIn w' base g A R cA cR vs us D (m + 1) z' (burn s) → Chg [g] w w' → RdPost w base F g (m + 1) (burn s) (.int .i64 22) (.returned (.int .i64 22)) w' from fun w' z' h1 hc =>
      RdPost.of hF hlt h1 (burn_ok hok) hsn (hc.more (fun b hb => .inl (by rw [List.mem_singleton.1 hb]; exact hF g (.inl rfl)))) (fun b hb => .inl (hF b hb)) _)
    rw [hl] at HT
    rw [HE.out, HSS.out]
    clear h ho hok hF hlt HS hlo hsn ho' HE HSS hl
    generalize burn s = s' at HFI HT ⊢
    go_enter Try.func21, Try.ntmps21
    go_wp2_with fail
    refine HT.out.mono ?_
    rintro _ w1 ⟨rfl, z', h1, hc⟩
    have HK := hid (HFI.out _ _ h1 hc)
    clear h1 hc
    go_wp2_with fail
    go_ret
    exact HK.out
  · have hl' : lets s = true := by simpa using hl
    have HE := hid (show flushE s = 0 from by unfold flushE; rw [if_neg ho, if_neg hl])
    have HSS := hid (show flushD s = flushS (burn s) from by unfold flushD; rw [if_neg ho, if_neg hl])
    have hokb := burn_ok hok
    have HFI := hid (show ∀ w1 w' z' vs', Chg [g] w w1 → RdIn w' base g A none cA 0 vs' [] D (m + 1) z' (flushS (burn s)) → Chg (g :: (rowOf A).toList) w1 w' → RdPost w base F g (m + 1) (flushS (burn s)) (.int .i64 0) (.returned (.int .i64 0)) w' from fun w1 w' z' vs' hc h1 hc2 => by
      refine RdPost.of hF hlt h1 (flush_ok hokb) (by unfold Sane; show (burn s).now = flushL _ []; exact hsn) ((hc.more (L' := F) (fun b hb => .inl (by rw [List.mem_singleton.1 hb]; exact hF g (.inl rfl)))).trans hc2 (fun b hb => .inl ?_)) (fun b hb => .inl (hF b ?_)) _
      · rcases List.mem_cons.1 hb with e | hb
        · exact hF b (.inl e)
        · exact hF b (.inr (.inl (by simpa using hb)))
      · rcases hb with hb | hb | hb | hb
        · exact .inl hb
        · exact .inr (.inl hb)
        · cases hb
        · exact .inr (.inr (.inr hb)))
    have HLO := hid (show (burn s).loose.length ≤ 1000000 from hlo)
    have HOK := hid hokb
    rw [hl'] at HT
    rw [HE.out, HSS.out]
    clear h ho hok hF hlt HS hlo hsn ho' HE HSS hl hl' hokb
    generalize hsb : burn s = sb at HFI HT HLO HOK ⊢
    clear hsb
    go_enter Try.func21, Try.ntmps21
    go_wp2_with fail
    refine HT.out.mono ?_
    rintro _ w1 ⟨rfl, z', h1, hc⟩
    have HFI1 := hid (fun w' vs' => HFI.out w1 w' z' vs' hc)
    have HIN := hid (show RdIn w1 base g A R cA cR vs us D (m + 1) z' (flK sb 0) from h1)
    have HCH := hid (show Chg (g :: (rowOf A).toList) w1 w1 from Chg.refl _ _)
    clear h1 hc HT HFI c4
    go_wp2_with fail
    go_loopw [3] (fun i wr => ∃ (k : Nat) (vs' : List Value), k ≤ sb.loose.length ∧ i = .int .i64 (k : Int) ∧ Hid (RdIn wr base g A R cA cR vs' us D (m + 1) z' (flK sb k)) ∧ Hid (Chg (g :: (rowOf A).toList) w1 wr)) (fun i _ => sb.loose.length - (intOf i).toNat)
    case atStart => exact ⟨0, vs, Nat.zero_le _, rfl, HIN, HCH⟩
    case round =>
      clear HIN HCH
      obtain ⟨k, vs', hk, rfl, HIN, HCH⟩ := hrel
      have c1 : wr.cell? ⟨g, 1, none⟩ = some (.slice R sb.loose.length cR) := HIN.out.hd.cell 1 rfl
      by_cases hlt : k < sb.loose.length
      · obtain ⟨r, b, c, x, rfl, hx, k1, k2, hbD, hs, hu, h64⟩ := RdIn.wrs base g (flK sb k) wr HIN.out (show k < (flK sb k).loose.length from hlt)
        have hx : sb.loose[k]? = some x := hx
        have hxo := HOK.out.lo x (List.mem_of_getElem? hx)
        obtain ⟨la, b2, c2, rfl, -⟩ := RdIn.secs base g (flK sb k) wr HIN.out (show x.1 < (flK sb k).n from hxo.1)
        have HNX := hid (show ∀ W, Below wr.heap.size wr W → RdIn (W.setCell ⟨la, x.1, none⟩ (.slice (some ⟨b, 0, none⟩) 64 c)) base g (some ⟨la, 0, none⟩) (some ⟨r, 0, none⟩) cA cR (vs'.set x.1 (.slice (some ⟨b, 0, none⟩) 64 c)) us D (m + 1) z' (flK sb (k + 1)) ∧ Chg (g :: (rowOf (some ⟨la, 0, none⟩)).toList) w1 (W.setCell ⟨la, x.1, none⟩ (.slice (some ⟨b, 0, none⟩) 64 c)) from fun W hW => by
          have hI := (HIN.out.keep hW).sec (i := x.1) (x := x.2) (D' := D) (flushL_length (sb.loose.take k) HOK.out.n2 (fun y hy => HOK.out.lo y (List.mem_of_mem_take hy))) hxo.1 hxo.2 (fun b hb => hb) (fun b hb => .inl hb) ((show SecV wr D _ x.2 from ⟨b, c, rfl, hbD, hs, h64⟩).chg (L := []) (Chg.of_below hW) (fun _ _ => by simp))
          have e : ({ flK sb k with img := secPut (flK sb k).img x.1 x.2 } : DS) = flK sb (k + 1) := by
            unfold flK
            simp only
            rw [flushL_next _ _ _ _ hx]
          rw [e] at hI
          exact ⟨hI, (HCH.out.trans (Chg.of_below (L := []) hW) (fun _ hm => by cases hm)).trans (chg_set (L := [la]) (by simp) _ _) (fun b hb => .inl (by rw [List.mem_singleton.1 hb]; simp [rowOf]))⟩)
        have HC0 := hid (fun W (hW : Below wr.heap.size wr W) => ((hW.cell (lt_of_cell (HIN.out.hd.cell 0 rfl))).trans (HIN.out.hd.cell 0 rfl) : W.cell? ⟨g, 0, none⟩ = some (.slice (some ⟨la, 0, none⟩) sb.n cA)))
        have HC1 := hid (fun W (hW : Below wr.heap.size wr W) => ((hW.cell (lt_of_cell c1)).trans c1 : W.cell? ⟨g, 1, none⟩ = some (.slice (some ⟨r, 0, none⟩) sb.loose.length cR)))
        have HK1 := hid (fun W (hW : Below wr.heap.size wr W) => (hW.cell (lt_of_cell k1)).trans k1)
        have HK2 := hid (fun W (hW : Below wr.heap.size wr W) => (hW.cell (lt_of_cell k2)).trans k2)
        have HA0 := hid (fun W (hW : Below wr.heap.size wr W) => (show (∃ v, W.cell? ⟨la, x.1, none⟩ = some v) ∧ W.frozen? ⟨la, x.1, none⟩ = false from by
          have h1 := World.ownsRow.cellAt (HIN.out.keep hW).lr x.1 (by have := hxo.1; show x.1 < sb.n * 1; omega)
          have h2 := World.ownsRow.frozenAt (HIN.out.keep hW).lr x.1
          obtain ⟨v, hv⟩ : ∃ v, vs'[x.1]? = some v := ⟨_, List.getElem?_eq_getElem (by rw [HIN.out.vl]; exact hxo.1)⟩
          exact ⟨⟨v, h1.trans hv⟩, h2⟩))
        have hixw := fun W => ix_wr r sb.loose.length cR k hlt W
        have hixr := fun W => ix_row la sb.n cA x.1 hxo.1 W
        have q0 : (k : Int) < (sb.loose.length : Int) := by omega
        clear hbD hs hu hx hxo k1 k2 h64 HIN HCH HOK
        obtain ⟨xi, xb⟩ := x
        simp only at HNX HK1 HA0 hixr
        obtain ⟨T, hT⟩ : ∃ T : World → Prop, ∀ W, T W ↔ (RdIn W base g (some ⟨la, 0, none⟩) (some ⟨r, 0, none⟩) cA cR (vs'.set xi (.slice (some ⟨b, 0, none⟩) 64 c)) us D (m + 1) z' (flK sb (k + 1)) ∧ Chg (g :: (rowOf (some ⟨la, 0, none⟩)).toList) w1 W) := ⟨_, fun _ => Iff.rfl⟩
        have HST := hid (StS.start (w1 := wr) (is := 21) (m := 22) (T := T) (gh := fun _ => ()) (by decide))
        have HNT := hid (fun W hW => (hT _).2 (HNX.out W hW))
        have HTT := hid hT
        clear hT HNX
        go_wp2_with fail
        clear c1
        refine wp_region_invG 46 () (dfVal g k la r b c xi sb.n sb.loose.length cA cR) (StS wr 21 T) (by kernel_rfl) (by kernel_rfl) (by exact Nat.le_refl 46) ?_ ?_ ?_
        · exact HST.out
        · intro i o f gh a W hi hf hdep hsame hcl hval hS
          rcases i with _ | _ | _ | _ | _ | _ | _ | _ | _ | _ | _ | _ | _ | _ | _ | _ | _ | _ | _ | _ | _ | _ | i
          all_goals simp only [List.getElem?_cons_succ, List.getElem?_cons_zero, List.getElem?_nil, Option.some.injEq, reduceCtorEq] at hi
          all_goals subst hi
          · have E0 : a.tmps[0]? = some (.pointer (some ⟨g, 0, none⟩)) := (same_of hsame 0 (by rfl)).trans rfl
            refine g_plain rfl ?_
            exact does_value (w' := W) (v := .pointer (some ⟨g, 0, none⟩)) (by go_simp) ⟨(), .inr rfl, hS.step 0 (by decide)⟩
          · have E22 := hval 0 _ 22 rfl rfl (dep_of hdep 0 (by rfl))
            unfold dfVal at E22
            refine g_plain rfl ?_
            exact does_value (w' := W) (v := .pointer (some ⟨g, 0, none⟩)) (by go_simp) ⟨(), .inr rfl, hS.step 1 (by decide)⟩
          · have E23 := hval 1 _ 23 rfl rfl (dep_of hdep 1 (by rfl))
            unfold dfVal at E23
            refine g_plain rfl ?_
            exact does_value (w' := W) (v := .pointer (some ⟨g, 0, none⟩)) (by go_simp) ⟨(), .inr rfl, hS.step 2 (by decide)⟩
          · have E24 := hval 2 _ 24 rfl rfl (dep_of hdep 2 (by rfl))
            unfold dfVal at E24
            have n20 := not_yet hcl hf 20 (by rfl)
            have n21 := not_yet hcl n20 21 (by rfl)
            have c1 := HC0.out W (hS.bel n21)
            refine g_plain rfl ?_
            exact does_value (w' := W) (v := .slice (some ⟨la, 0, none⟩) sb.n cA) (by go_simp) ⟨(), .inr rfl, hS.step 3 (by decide)⟩
          · have E0 : a.tmps[0]? = some (.pointer (some ⟨g, 0, none⟩)) := (same_of hsame 0 (by rfl)).trans rfl
            refine g_plain rfl ?_
            exact does_value (w' := W) (v := .pointer (some ⟨g, 0, none⟩)) (by go_simp) ⟨(), .inr rfl, hS.step 4 (by decide)⟩
          · have E26 := hval 4 _ 26 rfl rfl (dep_of hdep 4 (by rfl))
            unfold dfVal at E26
            refine g_plain rfl ?_
            exact does_value (w' := W) (v := .pointer (some ⟨g, 0, none⟩)) (by go_simp) ⟨(), .inr rfl, hS.step 5 (by decide)⟩
          · have E27 := hval 5 _ 27 rfl rfl (dep_of hdep 5 (by rfl))
            unfold dfVal at E27
            refine g_plain rfl ?_
            exact does_value (w' := W) (v := .pointer (some ⟨g, 1, none⟩)) (by go_simp) ⟨(), .inr rfl, hS.step 6 (by decide)⟩
          · have E28 := hval 6 _ 28 rfl rfl (dep_of hdep 6 (by rfl))
            unfold dfVal at E28
            have n9 := not_yet hcl hf 9 (by rfl)
            have n10 := not_yet hcl n9 10 (by rfl)
            have n11 := not_yet hcl n10 11 (by rfl)
            have n20 := not_yet hcl n11 20 (by rfl)
            have n21 := not_yet hcl n20 21 (by rfl)
            have c1 := HC1.out W (hS.bel n21)
            refine g_plain rfl ?_
            exact does_value (w' := W) (v := .slice (some ⟨r, 0, none⟩) sb.loose.length cR) (by go_simp) ⟨(), .inr rfl, hS.step 7 (by decide)⟩
          · have E3 : a.tmps[3]? = some (.int .i64 (k : Int)) := (same_of hsame 3 (by rfl)).trans rfl
            refine g_plain rfl ?_
            exact does_value (w' := W) (v := .int .i64 (k : Int)) (by go_simp) ⟨(), .inr rfl, hS.step 8 (by decide)⟩
          · have E29 := hval 7 _ 29 rfl rfl (dep_of hdep 7 (by rfl))
            have E30 := hval 8 _ 30 rfl rfl (dep_of hdep 8 (by rfl))
            unfold dfVal at E29 E30
            refine g_plain rfl ?_
            exact does_value (w' := W) (v := .pointer (some ⟨r, 2 * k, none⟩)) (by go_simp) ⟨(), .inr rfl, hS.step 9 (by decide)⟩
          · have E31 := hval 9 _ 31 rfl rfl (dep_of hdep 9 (by rfl))
            unfold dfVal at E31
            refine g_plain rfl ?_
            exact does_value (w' := W) (v := .pointer (some ⟨r, 2 * k, none⟩)) (by go_simp) ⟨(), .inr rfl, hS.step 10 (by decide)⟩
          · have E32 := hval 10 _ 32 rfl rfl (dep_of hdep 10 (by rfl))
            unfold dfVal at E32
            have n20 := not_yet hcl hf 20 (by rfl)
            have n21 := not_yet hcl n20 21 (by rfl)
            have c1 := HK1.out W (hS.bel n21)
            refine g_plain rfl ?_
            exact does_value (w' := W) (v := .int .i64 (xi : Int)) (by go_simp) ⟨(), .inr rfl, hS.step 11 (by decide)⟩
          · have E0 : a.tmps[0]? = some (.pointer (some ⟨g, 0, none⟩)) := (same_of hsame 0 (by rfl)).trans rfl
            refine g_plain rfl ?_
            exact does_value (w' := W) (v := .pointer (some ⟨g, 0, none⟩)) (by go_simp) ⟨(), .inr rfl, hS.step 12 (by decide)⟩
          · have E34 := hval 12 _ 34 rfl rfl (dep_of hdep 12 (by rfl))
            unfold dfVal at E34
            refine g_plain rfl ?_
            exact does_value (w' := W) (v := .pointer (some ⟨g, 0, none⟩)) (by go_simp) ⟨(), .inr rfl, hS.step 13 (by decide)⟩
          · have E35 := hval 13 _ 35 rfl rfl (dep_of hdep 13 (by rfl))
            unfold dfVal at E35
            refine g_plain rfl ?_
            exact does_value (w' := W) (v := .pointer (some ⟨g, 1, none⟩)) (by go_simp) ⟨(), .inr rfl, hS.step 14 (by decide)⟩
          · have E36 := hval 14 _ 36 rfl rfl (dep_of hdep 14 (by rfl))
            unfold dfVal at E36
            have n17 := not_yet hcl hf 17 (by rfl)
            have n18 := not_yet hcl n17 18 (by rfl)
            have n19 := not_yet hcl n18 19 (by rfl)
            have n21 := not_yet hcl n19 21 (by rfl)
            have c1 := HC1.out W (hS.bel n21)
            refine g_plain rfl ?_
            exact does_value (w' := W) (v := .slice (some ⟨r, 0, none⟩) sb.loose.length cR) (by go_simp) ⟨(), .inr rfl, hS.step 15 (by decide)⟩
          · have E3 : a.tmps[3]? = some (.int .i64 (k : Int)) := (same_of hsame 3 (by rfl)).trans rfl
            refine g_plain rfl ?_
            exact does_value (w' := W) (v := .int .i64 (k : Int)) (by go_simp) ⟨(), .inr rfl, hS.step 16 (by decide)⟩
          · have E37 := hval 15 _ 37 rfl rfl (dep_of hdep 15 (by rfl))
            have E38 := hval 16 _ 38 rfl rfl (dep_of hdep 16 (by rfl))
            unfold dfVal at E37 E38
            refine g_plain rfl ?_
            exact does_value (w' := W) (v := .pointer (some ⟨r, 2 * k, none⟩)) (by go_simp) ⟨(), .inr rfl, hS.step 17 (by decide)⟩
          · have E39 := hval 17 _ 39 rfl rfl (dep_of hdep 17 (by rfl))
            unfold dfVal at E39
            refine g_plain rfl ?_
            exact does_value (w' := W) (v := .pointer (some ⟨r, 2 * k + 1, none⟩)) (by go_simp) ⟨(), .inr rfl, hS.step 18 (by decide)⟩
          · have E40 := hval 18 _ 40 rfl rfl (dep_of hdep 18 (by rfl))
            unfold dfVal at E40
            have n21 := not_yet hcl hf 21 (by rfl)
            have c1 := HK2.out W (hS.bel n21)
            refine g_plain rfl ?_
            exact does_value (w' := W) (v := .slice (some ⟨b, 0, none⟩) 64 c) (by go_simp) ⟨(), .inr rfl, hS.step 19 (by decide)⟩
          · have E25 := hval 3 _ 25 rfl rfl (dep_of hdep 3 (by rfl))
            have E33 := hval 11 _ 33 rfl rfl (dep_of hdep 11 (by rfl))
            unfold dfVal at E25 E33
            refine g_plain rfl ?_
            exact does_value (w' := W) (v := .pointer (some ⟨la, xi, none⟩)) (by go_simp) ⟨(), .inr rfl, hS.step 20 (by decide)⟩
          · have E42 := hval 20 _ 42 rfl rfl (dep_of hdep 20 (by rfl))
            have E41 := hval 19 _ 41 rfl rfl (dep_of hdep 19 (by rfl))
            unfold dfVal at E42 E41
            refine g_plain rfl ?_
            have hB := hS.bel hf
            obtain ⟨⟨v0, c0⟩, z0⟩ := HA0.out W hB
            exact does_skip (w' := W.setCell ⟨la, xi, none⟩ (.slice (some ⟨b, 0, none⟩) 64 c)) (by go_simp) ⟨(), .inl rfl, hS.put (HNT.out W hB)⟩
        · intro gh w8 hS
          have HI8 := hid ((HTT.out w8).1 (hS.up rfl)).1
          have HC8 := hid ((HTT.out w8).1 (hS.up rfl)).2
          clear hS HST HNT HTT HC0 HC1 HK1 HK2 HA0
          simp only [putAll, dfVal, Nat.reduceAdd, Nat.zero_add, Act.put, List.setIfInBounds_toArray, List.set_cons_zero, List.set_cons_succ]
          have hlo9 := HLO.out
          go_wp2_with fail
          go_roundw
          case rel => exact ⟨k + 1, _, by omega, by go_num, HI8, HC8⟩
          case measure => simp [intOf]; omega
      · obtain rfl : k = sb.loose.length := by omega
        have q0 : ¬ (sb.loose.length : Int) < (sb.loose.length : Int) := by omega
        have hE : flK sb sb.loose.length = { sb with img := flushL sb.img sb.loose } := by unfold flK; rw [List.take_length]
        have HFIN := hid (show ∀ w', Chg [g] wr w' → Blk w' g 86 #[.slice A sb.n cA, .slice none 0 0, .bool sb.fuse.isSome, .int .i64 z', .bool sb.out] → RdPost w base F g (m + 1) (flushS sb) (.int .i64 0) (.returned (.int .i64 0)) w' from fun w' hc hb =>
          HFI1.out w' vs' (HIN.out.none_ (s' := flushS sb) hc rfl (by rw [hE]; rfl) rfl hb HIN.out.zf) (HCH.out.trans hc (fun b hb => .inl (by rw [List.mem_singleton.1 hb]; simp))))
        have hhd : Blk wr g 86 #[.slice A sb.n cA, .slice R sb.loose.length cR, .bool sb.fuse.isSome, .int .i64 z', .bool sb.out] := HIN.out.hd
        have f1 := hhd.frozen 1
        clear HIN HCH hE HFI1
        go_wp2_with fail
        go_ret
        exact HFIN.out _ (chg_set (by simp) 1 _) (by simpa using hhd.set_ 1 (.slice none 0 0))
end
end Go.Proofs.Ytiejndkchcljdaa
/- Contract: the plain reference's Crash. Written by tools/mkdv.py out of XDvRfC.tpl. -/
namespace Go.Proofs.Ytiejndkchcljdaa
open Go.RowKit

/-- a copy is made of bytes, and stored -/
structure CrS (w1 : World) (bs : List UInt8) (T : World → Prop) (f : Nat → Bool) (gh : Nat → Value) (W : World) : Prop where
  bel : f 23 = false → Below w1.heap.size w1 W
  o21 : f 21 = true → f 12 = true
  a : f 12 = true → f 21 = false → Own W w1.heap.size 5 (gh 12) 0 []
  b : f 21 = true → f 23 = false → Own W w1.heap.size 5 (gh 21) 64 bs
  up : f 23 = true → f 21 = true ∧ T W
section
variable {w1 W W' : World} {bs : List UInt8} {T : World → Prop} {f : Nat → Bool} {gh : Nat → Value}
theorem CrS.start (w1 : World) (bs : List UInt8) (T : World → Prop) : CrS w1 bs T (fun j => decide (24 ≤ j)) (fun _ => .pointer none) w1.drew :=
  ⟨fun _ => (Below.refl _ _).drew, fun h => by simp at h, fun h => by simp at h, fun h => by simp at h, fun h => by simp at h⟩
theorem CrS.step (h : CrS w1 bs T f gh W) (j : Nat) (v : Value) (n12 : 12 ≠ j) (n21 : 21 ≠ j) (n23 : 23 ≠ j) : CrS w1 bs T (upd f j) (updN gh j v) W := by
  obtain ⟨bel, o21, a, b, up⟩ := h
  refine ⟨?_, ?_, ?_, ?_, ?_⟩ <;> simp only [ap_ne n12, ap_ne n21, ap_ne n23, apN_ne n12, apN_ne n21] <;> assumption
theorem CrS.n23 (h : CrS w1 bs T f gh W) (e : f 21 = false) : f 23 = false := ff_of (fun x => (h.up x).1) e
theorem CrS.s12 (h : CrS w1 bs T f gh W) (hf : f 12 = false) : CrS w1 bs T (upd f 12) (updN gh 12 (.slice (some ⟨W.heap.size, 0, none⟩) 0 0)) (W.alloc (.cells #[] 5)) := by
  have e21 := ff_of h.o21 hf; have e23 := h.n23 e21
  have hB := below_new W (.cells #[] 5)
  have hz := (h.bel e23).size
  refine ⟨fun _ => (h.bel e23).trans (hB.mono hz), fun _ => ap_eq, fun _ _ => by rw [apN_eq]; exact Own.lit W 5 w1.heap.size [] #[] 0 rfl rfl hz (by omega), fun e => ?_, fun e => ?_⟩
  · rw [ap_ne (by decide), e21] at e; cases e
  · rw [ap_ne (by decide), e23] at e; cases e
theorem CrS.s21 {A2 : Option Addr} {B c2 : Nat} (h : CrS w1 bs T f gh W) (h12 : f 12 = true) (hf : f 21 = false) (hs : SB w1 B A2 64 bs) (t ty : TypeId) (ht : Try.prog.underlying t = some (.slice 5)) :
    ∃ v' W', (Builtin.append_ #[t, t] ty #[gh 12, .slice A2 64 c2]).run Try.prog W = .ok v' W' ∧ CrS w1 bs T (upd f 21) (updN gh 21 v') W' := by
  have e23 := h.n23 hf
  have ho := h.a h12 hf
  have hz := (h.bel e23).size
  obtain ⟨v', W', hr, h2, h3, h4⟩ := run_append_bytes (P := Try.prog) W t ty 5 w1.heap.size ht info5' (gh 12) 0 [] ho B A2 64 c2 bs (hs.keep (h.bel e23)) (by omega) hz
  refine ⟨v', W', hr, ⟨fun _ => (h.bel e23).trans (below_of_grown h3 hz (fun b e => (ho.block b e).1)), fun _ => by rw [ap_ne (by decide)]; exact h12, fun _ e => ?_, fun _ _ => by rw [apN_eq]; simpa using h2, fun e => ?_⟩⟩
  · rw [ap_eq] at e; cases e
  · rw [ap_ne (by decide), e23] at e; cases e
theorem CrS.s23 (h : CrS w1 bs T f gh W) (h21 : f 21 = true) (k : Value) (hT : T W') : CrS w1 bs T (upd f 23) (updN gh 23 k) W' := by
  refine ⟨fun e => ?_, fun e => ?_, fun _ e => ?_, fun _ e => ?_, fun _ => ⟨by rw [ap_ne (by decide)]; exact h21, hT⟩⟩
  · rw [ap_eq] at e; cases e
  · rw [ap_ne (by decide)] at e ⊢; exact h.o21 e
  · rw [ap_ne (by decide), h21] at e; cases e
  · rw [ap_eq] at e; cases e
end
/-- two parts are put together, and stored -/
structure C2S (w1 : World) (t : Nat) (x1 x2 : List UInt8) (T : World → Prop) (f : Nat → Bool) (gh : Nat → Value) (W : World) : Prop where
  bel : f 24 = false → Below w1.heap.size w1 W
  o11 : f 11 = true → f 6 = true
  o22 : f 22 = true → f 11 = true
  a : f 6 = true → f 11 = false → Own W w1.heap.size 5 (gh 6) 0 []
  b : f 11 = true → f 22 = false → Own W w1.heap.size 5 (gh 11) t x1
  c : f 22 = true → f 24 = false → Own W w1.heap.size 5 (gh 22) 64 (x1 ++ x2)
  up : f 24 = true → f 22 = true ∧ T W
section
variable {w1 W W' : World} {t : Nat} {x1 x2 : List UInt8} {T : World → Prop} {f : Nat → Bool} {gh : Nat → Value}
theorem C2S.start (w1 : World) (t : Nat) (x1 x2 : List UInt8) (T : World → Prop) : C2S w1 t x1 x2 T (fun j => decide (25 ≤ j)) (fun _ => .pointer none) w1.drew :=
  ⟨fun _ => (Below.refl _ _).drew, fun h => by simp at h, fun h => by simp at h, fun h => by simp at h, fun h => by simp at h, fun h => by simp at h, fun h => by simp at h⟩
theorem C2S.step (h : C2S w1 t x1 x2 T f gh W) (j : Nat) (v : Value) (n6 : 6 ≠ j) (n11 : 11 ≠ j) (n22 : 22 ≠ j) (n24 : 24 ≠ j) : C2S w1 t x1 x2 T (upd f j) (updN gh j v) W := by
  obtain ⟨bel, o11, o22, a, b, c, up⟩ := h
  refine ⟨?_, ?_, ?_, ?_, ?_, ?_, ?_⟩ <;> simp only [ap_ne n6, ap_ne n11, ap_ne n22, ap_ne n24, apN_ne n6, apN_ne n11, apN_ne n22] <;> assumption
theorem C2S.n24 (h : C2S w1 t x1 x2 T f gh W) (e : f 22 = false) : f 24 = false := ff_of (fun x => (h.up x).1) e
theorem C2S.s6 (h : C2S w1 t x1 x2 T f gh W) (hf : f 6 = false) : C2S w1 t x1 x2 T (upd f 6) (updN gh 6 (.slice (some ⟨W.heap.size, 0, none⟩) 0 0)) (W.alloc (.cells #[] 5)) := by
  have e11 := ff_of h.o11 hf; have e22 := ff_of h.o22 e11; have e24 := h.n24 e22
  have hB := below_new W (.cells #[] 5)
  have hz := (h.bel e24).size
  refine ⟨fun _ => (h.bel e24).trans (hB.mono hz), fun _ => ap_eq, fun e => ?_, fun _ _ => by rw [apN_eq]; exact Own.lit W 5 w1.heap.size [] #[] 0 rfl rfl hz (by omega), fun e => ?_, fun e => ?_, fun e => ?_⟩
  · rw [ap_ne (by decide), e22] at e; cases e
  · rw [ap_ne (by decide), e11] at e; cases e
  · rw [ap_ne (by decide), e22] at e; cases e
  · rw [ap_ne (by decide), e24] at e; cases e
theorem C2S.s11 {A2 : Option Addr} {B c2 : Nat} (h : C2S w1 t x1 x2 T f gh W) (h6 : f 6 = true) (hf : f 11 = false) (hs : SB w1 B A2 t x1) (ht64 : t ≤ 64) (tt ty : TypeId) (ht : Try.prog.underlying tt = some (.slice 5)) :
    ∃ v' W', (Builtin.append_ #[tt, tt] ty #[gh 6, .slice A2 t c2]).run Try.prog W = .ok v' W' ∧ C2S w1 t x1 x2 T (upd f 11) (updN gh 11 v') W' := by
  have e22 := ff_of h.o22 hf; have e24 := h.n24 e22
  have ho := h.a h6 hf
  have hz := (h.bel e24).size
  obtain ⟨v', W', hr, h2, h3, h4⟩ := run_append_bytes (P := Try.prog) W tt ty 5 w1.heap.size ht info5' (gh 6) 0 [] ho B A2 t c2 x1 (hs.keep (h.bel e24)) (by omega) hz
  refine ⟨v', W', hr, ⟨fun _ => (h.bel e24).trans (below_of_grown h3 hz (fun b e => (ho.block b e).1)), fun _ => by rw [ap_ne (by decide)]; exact h6, fun _ => ap_eq, fun _ e => ?_, fun _ _ => by rw [apN_eq]; simpa using h2, fun e => ?_, fun e => ?_⟩⟩
  · rw [ap_eq] at e; cases e
  · rw [ap_ne (by decide), e22] at e; cases e
  · rw [ap_ne (by decide), e24] at e; cases e
theorem C2S.s22 {A2 : Option Addr} {B c2 : Nat} (h : C2S w1 t x1 x2 T f gh W) (h11 : f 11 = true) (hf : f 22 = false) (hs : SB w1 B A2 (64 - t) x2) (ht64 : t ≤ 64) (tt ty : TypeId) (ht : Try.prog.underlying tt = some (.slice 5)) :
    ∃ v' W', (Builtin.append_ #[tt, tt] ty #[gh 11, .slice A2 (64 - t) c2]).run Try.prog W = .ok v' W' ∧ C2S w1 t x1 x2 T (upd f 22) (updN gh 22 v') W' := by
  have e24 := h.n24 hf
  have ho := h.b h11 hf
  have hz := (h.bel e24).size
  obtain ⟨v', W', hr, h2, h3, h4⟩ := run_append_bytes (P := Try.prog) W tt ty 5 w1.heap.size ht info5' (gh 11) t x1 ho B A2 (64 - t) c2 x2 (hs.keep (h.bel e24)) (by omega) hz
  rw [show t + (64 - t) = 64 by omega] at h2
  refine ⟨v', W', hr, ⟨fun _ => (h.bel e24).trans (below_of_grown h3 hz (fun b e => (ho.block b e).1)), fun e => by rw [ap_ne (by decide)] at e ⊢; exact h.o11 e, fun _ => by rw [ap_ne (by decide)]; exact h11, fun _ e => ?_, fun _ e => ?_, fun _ _ => by rw [apN_eq]; exact h2, fun e => ?_⟩⟩
  · rw [ap_ne (by decide), h11] at e; cases e
  · rw [ap_eq] at e; cases e
  · rw [ap_ne (by decide), e24] at e; cases e
theorem C2S.s24 (h : C2S w1 t x1 x2 T f gh W) (h22 : f 22 = true) (k : Value) (hT : T W') : C2S w1 t x1 x2 T (upd f 24) (updN gh 24 k) W' := by
  refine ⟨fun e => ?_, fun e => by rw [ap_ne (by decide)] at e ⊢; exact h.o11 e, fun e => by rw [ap_ne (by decide)] at e ⊢; exact h.o22 e, fun e e2 => ?_, fun _ e => ?_, fun _ e => ?_, fun _ => ⟨by rw [ap_ne (by decide)]; exact h22, hT⟩⟩
  · rw [ap_eq] at e; cases e
  · rw [ap_ne (by decide), h.o22 h22] at e2; cases e2
  · rw [ap_ne (by decide), h22] at e; cases e
  · rw [ap_eq] at e; cases e
end
theorem tear_put (l b : List UInt8) (i t : Nat) (ht : t ≤ 64) : tear l i b t = secPut l i (b.take t ++ (secAt l i).drop t) := by
  unfold tear secPut secAt
  have : l.drop (i * 64 + t) = ((l.drop (i * 64)).take 64).drop t ++ l.drop (i * 64 + 64) := by
    have h2 : l.drop (i * 64 + 64) = (l.drop (i * 64 + t)).drop (64 - t) := by rw [List.drop_drop]; congr 1; omega
    rw [List.drop_take, List.drop_drop, h2, List.take_append_drop]
  rw [this]
  simp [List.append_assoc]
/-- what the first writes that are kept make of a device -/
def ckS (s : DS) (keep : List Bool) (k : Nat) : DS := { s with img := (crashP s.img s.loose keep k).1 }
/-- a device while it crashes: a list of sectors, and blocks for bytes, as they are now -/
def CrI (w0 wr : World) (base g : Nat) (A R : Option Addr) (cA cR : Nat) (us : List Value) (D : List Nat) (m : Nat) (z : Int) (s' : DS) : Prop :=
  ∃ vs' D', RdIn wr base g A R cA cR vs' us D' m z s' ∧ (∀ b ∈ D', b ∈ D ∨ w0.heap.size ≤ b) ∧ Chg (g :: (rowOf A).toList) w0 wr
theorem CrI.store {w0 wr W : World} {base g la : Nat} {R : Option Addr} {cA cR : Nat} {us : List Value} {D : List Nat} {m : Nat} {z : Int} {s' : DS} {i : Nat} {x : List UInt8} {v : Value} (h : CrI w0 wr base g (some ⟨la, 0, none⟩) R cA cR us D m z s')
    (hok : s'.img.length = 64 * s'.n) (hi : i < s'.n) (hx : x.length = 64) (hW : Below wr.heap.size wr W) (ho : Own W wr.heap.size 5 v 64 x) :
    CrI w0 (W.setCell ⟨la, i, none⟩ v) base g (some ⟨la, 0, none⟩) R cA cR us D m z { s' with img := secPut s'.img i x } := by
  obtain ⟨vs', D', hI, hD, hc⟩ := h
  obtain ⟨q, c, e⟩ := Go.Joins.ownsRow_form ho (by omega)
  have hq := ho.block q (by rw [e]; rfl)
  have hlt := hI.lt
  have hI2 := (hI.keep hW).sec (i := i) (u := v) (x := x) (D' := q :: D') hok hi hx (fun b hb => List.mem_cons_of_mem _ hb) (fun b hb => by
    rcases List.mem_cons.1 hb with rfl | hb
    · right
      have h1 := hlt g (.inl rfl)
      have h2 := hlt la (.inr (.inl rfl))
      refine ⟨by omega, hq.2, by omega, by omega, fun e => ?_⟩
      have := hlt b (.inr (.inr (.inl e))); omega
    · exact .inl hb) (SecV.of_own ho (fun b eb => by rw [e] at eb; cases eb; simp))
  refine ⟨_, _, hI2, fun b hb => ?_, (hc.trans (Chg.of_below (L := []) hW) (fun _ hm => by cases hm)).trans (chg_set (L := [la]) (by simp) _ _) (fun b hb => .inl (by rw [List.mem_singleton.1 hb]; simp [rowOf]))⟩
  rcases List.mem_cons.1 hb with rfl | hb
  · right; have := hc.size; omega
  · exact hD b hb
theorem CrI.keep {w0 wr W : World} {base g : Nat} {A R : Option Addr} {cA cR : Nat} {us : List Value} {D : List Nat} {m : Nat} {z : Int} {s' : DS} (h : CrI w0 wr base g A R cA cR us D m z s') (hW : Below wr.heap.size wr W) : CrI w0 W base g A R cA cR us D m z s' := by
  obtain ⟨vs', D', hI, hD, hc⟩ := h
  exact ⟨vs', D', hI.keep hW, hD, hc.trans (Chg.of_below (L := []) hW) (fun _ hm => by cases hm)⟩
theorem ix_keep (b off n c k : Nat) (h : k < n) (W : World) : (Instr.indexAt 35 (.slice (some ⟨b, off, none⟩) n c) (.int .i64 (k : Int))).run Try.prog W = .ok (.pointer (some ⟨b, off + k, none⟩)) W := ix_bool b off n c k h W
def dcVal (g k la r b c xi sn ln cA cR : Nat) : Nat → Value → Value
  | 0, _ => .pointer (some ⟨g, 0, none⟩)
  | 1, _ => .pointer (some ⟨g, 0, none⟩)
  | 2, _ => .pointer (some ⟨g, 0, none⟩)
  | 3, _ => .slice (some ⟨la, 0, none⟩) sn cA
  | 4, _ => .pointer (some ⟨g, 0, none⟩)
  | 5, _ => .pointer (some ⟨g, 0, none⟩)
  | 6, _ => .pointer (some ⟨g, 1, none⟩)
  | 7, _ => .slice (some ⟨r, 0, none⟩) ln cR
  | 8, _ => .int .i64 (k : Int)
  | 9, _ => .pointer (some ⟨r, 2 * k, none⟩)
  | 10, _ => .pointer (some ⟨r, 2 * k, none⟩)
  | 11, _ => .int .i64 (xi : Int)
  | 12, k => k
  | 13, _ => .pointer (some ⟨g, 0, none⟩)
  | 14, _ => .pointer (some ⟨g, 0, none⟩)
  | 15, _ => .pointer (some ⟨g, 1, none⟩)
  | 16, _ => .slice (some ⟨r, 0, none⟩) ln cR
  | 17, _ => .int .i64 (k : Int)
  | 18, _ => .pointer (some ⟨r, 2 * k, none⟩)
  | 19, _ => .pointer (some ⟨r, 2 * k + 1, none⟩)
  | 20, _ => .slice (some ⟨b, 0, none⟩) 64 c
  | 21, k => k
  | 22, _ => .pointer (some ⟨la, xi, none⟩)
  | _, _ => undef
def dtVal (g la wq b c b2 c9 xi u sn cA : Nat) : Nat → Value → Value
  | 0, _ => .pointer (some ⟨g, 0, none⟩)
  | 1, _ => .pointer (some ⟨g, 0, none⟩)
  | 2, _ => .pointer (some ⟨g, 0, none⟩)
  | 3, _ => .slice (some ⟨la, 0, none⟩) sn cA
  | 4, _ => .pointer (some ⟨wq, 0, none⟩)
  | 5, _ => .int .i64 (xi : Int)
  | 6, k => k
  | 7, _ => .pointer (some ⟨wq, 1, none⟩)
  | 8, _ => .slice (some ⟨b, 0, none⟩) 64 c
  | 9, _ => .int .i64 (u : Int)
  | 10, _ => .slice (some ⟨b, 0, none⟩) u c
  | 11, k => k
  | 12, _ => .pointer (some ⟨g, 0, none⟩)
  | 13, _ => .pointer (some ⟨g, 0, none⟩)
  | 14, _ => .pointer (some ⟨g, 0, none⟩)
  | 15, _ => .slice (some ⟨la, 0, none⟩) sn cA
  | 16, _ => .pointer (some ⟨wq, 0, none⟩)
  | 17, _ => .int .i64 (xi : Int)
  | 18, _ => .pointer (some ⟨la, xi, none⟩)
  | 19, _ => .slice (some ⟨b2, 0, none⟩) 64 c9
  | 20, _ => .int .i64 (u : Int)
  | 21, _ => .slice (some ⟨b2, u, none⟩) (64 - u) (c9 - u)
  | 22, k => k
  | 23, _ => .pointer (some ⟨la, xi, none⟩)
  | _, _ => undef
section
variable (base g m : Nat) (F : List Nat) (s : DS) (w : World)
set_option maxHeartbeats 8000000 in
set_option maxRecDepth 20000 in
theorem rCrash_calls (nk ck : Nat) (Ak : Option Addr) (keep : List Bool) (t : Int) (h : RdB w base F g m s) (hlo : s.loose.length ≤ 1000000) (hkb : KB w Ak nk keep) (hne : 0 < nk → ∀ b off, Ak = some ⟨b, off, none⟩ → b ∉ F) (hnk : nk ≤ 1099511627776) :
    Calls Try.prog 23 #[.pointer (some ⟨g, 0, none⟩), .slice Ak nk ck, .int .i64 t] w (RdPost w base F g m (crashD s keep t) (.int .i64 (crashE t : Int))) := by
  have HS := hid h
  obtain ⟨A, R, cA, cR, vs, us, D, z, h, hok, hsn, hF, hlt⟩ := h
  by_cases ht : 0 ≤ t ∧ t < 64
  · obtain ⟨u, rfl⟩ : ∃ u : Nat, t = (u : Int) := ⟨t.toNat, by omega⟩
    have hu : u < 64 := by omega
    have HE := hid (show crashE (u : Int) = 0 from if_pos ht)
    have HSS := hid (show crashD s keep (u : Int) = { brokeS s keep u with fuse := none, out := false } from by unfold crashD; rw [if_pos ht]; rfl)
    have HFI := hid (show ∀ wr, CrI w wr base g A R cA cR us D m z { s with img := crashI s.img s.loose keep u } → ∀ w', Chg [g] wr w' → Blk w' g 86 #[.slice A s.n cA, .slice none 0 0, .bool false, .int .i64 z, .bool false] → RdPost w base F g m { brokeS s keep u with fuse := none, out := false } (.int .i64 0) (.returned (.int .i64 0)) w' from by
      rintro wr ⟨vs', D', hI, hD, hc⟩ w' hc2 hb
      have hbo := broke_ok hok keep (t := u) (by omega)
      refine RdPost.of hF hlt (hI.none_ (s' := { brokeS s keep u with fuse := none, out := false }) hc2 rfl rfl rfl hb (fun k hk => by cases hk)) ⟨hbo.n1, hbo.n2, hbo.nb, hbo.lo⟩ (by unfold Sane; exact broke_sane hok hsn keep (by omega)) ((hc.more (L' := F) (fun b hb => .inl ?_)).trans hc2 (fun b hb => .inl (by rw [List.mem_singleton.1 hb]; exact hF g (.inl rfl)))) (fun b hb => ?_) _
      · rcases List.mem_cons.1 hb with e | hb
        · exact hF b (.inl e)
        · exact hF b (.inr (.inl (by simpa using hb)))
      · rcases hb with hb | hb | hb | hb
        · exact .inl (hF b (.inl hb))
        · exact .inl (hF b (.inr (.inl hb)))
        · cases hb
        · rcases hD b hb with h1 | h1
          · exact .inl (hF b (.inr (.inr (.inr h1))))
          · exact .inr h1)
    have HOK := hid hok
    have HHD := hid (fun wr (hI : CrI w wr base g A R cA cR us D m z { s with img := crashI s.img s.loose keep u }) => (show Blk wr g 86 #[.slice A s.n cA, .slice R s.loose.length cR, .bool s.fuse.isSome, .int .i64 z, .bool s.out] from by obtain ⟨vs', D', hI, -⟩ := hI; exact hI.hd))
    have HCI := hid (show CrI w w base g A R cA cR us D m z (ckS s keep 0) from ⟨vs, D, h, fun b hb => .inl hb, Chg.refl _ _⟩)
    have HKB := hid (fun wr (hc : Chg (g :: (rowOf A).toList) w wr) => hkb.chg hc (fun hn b off e hm => hne hn b off e (by
      rcases List.mem_cons.1 hm with e | hm
      · exact hF b (.inl e)
      · exact hF b (.inr (.inl (by simpa using hm))))))
    have e1 : ¬ (u : Int) < 0 := by omega
    have e2 : ¬ (64 : Int) ≤ (u : Int) := by omega
    rw [HE.out, HSS.out]
    clear h hok hF hlt HS hsn hkb hne ht HE HSS
    generalize hs' : ({ brokeS s keep u with fuse := none, out := false } : DS) = s' at HFI ⊢
    clear hs'
    go_enter Try.func23, Try.ntmps23
    go_wp2_with fail
    go_loopw [7, 8] (fun l i wr => ∃ k : Nat, k ≤ s.loose.length ∧ i = .int .i64 (k : Int) ∧ l = .int .i64 (crashP s.img s.loose keep k).2 ∧ Hid (CrI w wr base g A R cA cR us D m z (ckS s keep k))) (fun _ i _ => s.loose.length - (intOf i).toNat)
    case atStart => exact ⟨0, Nat.zero_le _, rfl, rfl, HCI⟩
    case round =>
      clear HCI
      obtain ⟨k, hk, rfl, rfl, HCI⟩ := hrel
      have HP := hid (crashP_ok keep HOK.out.n2 HOK.out.lo k hk)
      obtain ⟨vs', D', hI, hD, hc⟩ := HCI.out
      have c1 : wr.cell? ⟨g, 1, none⟩ = some (.slice R s.loose.length cR) := hI.hd.cell 1 rfl
      have HKW := hid (HKB.out wr hc)
      have HIN := hid hI
      clear hD hc hI
      by_cases hlt : k < s.loose.length
      · obtain ⟨r, b, c, x, rfl, hx, k1, k2, hbD, hs, hu2, h64⟩ := RdIn.wrs base g (ckS s keep k) wr HIN.out (show k < (ckS s keep k).loose.length from hlt)
        have hx : s.loose[k]? = some x := hx
        have hxo := HOK.out.lo x (List.mem_of_getElem? hx)
        have hN := hid (crashP_next s.img s.loose keep k x hx)
        have q0 : (k : Int) < (s.loose.length : Int) := by omega
        have HLO := hid hlo
        by_cases hkn : k < nk
        · have q2 : (k : Int) < (nk : Int) := by omega
          obtain ⟨bk, ok, rfl, hkc⟩ := HKW.out.2 (by omega)
          have hkl : k < keep.length := by have := HKW.out.1; omega
          have hkv := hkc k _ (List.getElem?_eq_getElem hkl)
          have hixk := fun W => ix_keep bk ok nk ck k hkn W
          have HKA := hid (show keptAt keep k = keep[k] from by unfold keptAt; rw [List.getElem?_eq_getElem hkl]; rfl)
          clear hkc
          by_cases hkeep : keep[k] = true
          · rw [hkeep] at hkv
            have hN2 := hN.out
            rw [if_pos (by rw [HKA.out]; exact hkeep)] at hN2
            obtain ⟨la, b2, c2, rfl, -⟩ := RdIn.secs base g (ckS s keep k) wr HIN.out (show x.1 < (ckS s keep k).n from hxo.1)
            have hIL := (HIN.out.lt r (.inr (.inr (.inl rfl))))
            obtain ⟨T, hT⟩ : ∃ T : World → Prop, ∀ W, T W ↔ CrI w W base g (some ⟨la, 0, none⟩) (some ⟨r, 0, none⟩) cA cR us D m z (ckS s keep (k + 1)) := ⟨_, fun _ => Iff.rfl⟩
            have HNX := hid (show ∀ W v, Below wr.heap.size wr W → Own W wr.heap.size 5 v 64 x.2 → T (W.setCell ⟨la, x.1, none⟩ v) from fun W v hW ho => (hT _).2 (by
              have hI3 := HCI.out.store (i := x.1) (x := x.2) HP.out.1 hxo.1 hxo.2 hW ho
              have e : ({ ckS s keep k with img := secPut (ckS s keep k).img x.1 x.2 } : DS) = ckS s keep (k + 1) := by unfold ckS; rw [hN2]
              rw [e] at hI3
              exact hI3))
            have HC0 := hid (fun W (hW : Below wr.heap.size wr W) => ((hW.cell (lt_of_cell (HIN.out.hd.cell 0 rfl))).trans (HIN.out.hd.cell 0 rfl) : W.cell? ⟨g, 0, none⟩ = some (.slice (some ⟨la, 0, none⟩) s.n cA)))
            have HC1 := hid (fun W (hW : Below wr.heap.size wr W) => ((hW.cell (lt_of_cell c1)).trans c1 : W.cell? ⟨g, 1, none⟩ = some (.slice (some ⟨r, 0, none⟩) s.loose.length cR)))
            have HK1 := hid (fun W (hW : Below wr.heap.size wr W) => (hW.cell (lt_of_cell k1)).trans k1)
            have HK2 := hid (fun W (hW : Below wr.heap.size wr W) => (hW.cell (lt_of_cell k2)).trans k2)
            have HA0 := hid (fun W (hW : Below wr.heap.size wr W) => (show (∃ v, W.cell? ⟨la, x.1, none⟩ = some v) ∧ W.frozen? ⟨la, x.1, none⟩ = false from by
              have h1 := World.ownsRow.cellAt (HIN.out.keep hW).lr x.1 (by have := hxo.1; show x.1 < s.n * 1; omega)
              have h2 := World.ownsRow.frozenAt (HIN.out.keep hW).lr x.1
              obtain ⟨v, hv⟩ : ∃ v, vs'[x.1]? = some v := ⟨_, List.getElem?_eq_getElem (by rw [HIN.out.vl]; exact hxo.1)⟩
              exact ⟨⟨v, h1.trans hv⟩, h2⟩))
            have HSB := hid (show SB wr wr.heap.size (some ⟨b, 0, none⟩) 64 x.2 from hs.more (by have := (HIN.out.dd b hbD).2.1; omega))
            have HTT := hid hT
            have HPN := hid (show (crashP s.img s.loose keep (k + 1)).2 = (crashP s.img s.loose keep k).2 from by rw [hN2])
            have hixw := fun W => ix_wr r s.loose.length cR k hlt W
            have hixr := fun W => ix_row la s.n cA x.1 hxo.1 W
            clear hbD hs hu2 hx hxo k1 k2 h64 HIN HCI hN hN2 hT HKA HP hIL
            obtain ⟨xi, xb⟩ := x
            simp only at HNX HK1 HA0 hixr HSB
            generalize (crashP s.img s.loose keep k).2 = lst at HPN ⊢
            have HST := hid (CrS.start wr xb T)
            go_wp2_with fail
            clear c1 hkv
            refine wp_region_invG 101 (.pointer none) (dcVal g k la r b c xi s.n s.loose.length cA cR) (CrS wr xb T) (by kernel_rfl) (by kernel_rfl) (by exact Nat.le_refl 101) ?_ ?_ ?_
            · exact HST.out
            · intro i o f gh a W hi hf hdep hsame hcl hval hS
              rcases i with _ | _ | _ | _ | _ | _ | _ | _ | _ | _ | _ | _ | _ | _ | _ | _ | _ | _ | _ | _ | _ | _ | _ | _ | i
              all_goals simp only [List.getElem?_cons_succ, List.getElem?_cons_zero, List.getElem?_nil, Option.some.injEq, reduceCtorEq] at hi
              all_goals subst hi
              · have E0 : a.tmps[0]? = some (.pointer (some ⟨g, 0, none⟩)) := (same_of hsame 0 (by rfl)).trans rfl
                refine g_plain rfl ?_
                exact does_value (w' := W) (v := .pointer (some ⟨g, 0, none⟩)) (by go_simp) ⟨.pointer none, .inr rfl, hS.step 0 (.pointer none) (by decide) (by decide) (by decide)⟩
              · have E35 := hval 0 _ 35 rfl rfl (dep_of hdep 0 (by rfl))
                unfold dcVal at E35
                refine g_plain rfl ?_
                exact does_value (w' := W) (v := .pointer (some ⟨g, 0, none⟩)) (by go_simp) ⟨.pointer none, .inr rfl, hS.step 1 (.pointer none) (by decide) (by decide) (by decide)⟩
              · have E36 := hval 1 _ 36 rfl rfl (dep_of hdep 1 (by rfl))
                unfold dcVal at E36
                refine g_plain rfl ?_
                exact does_value (w' := W) (v := .pointer (some ⟨g, 0, none⟩)) (by go_simp) ⟨.pointer none, .inr rfl, hS.step 2 (.pointer none) (by decide) (by decide) (by decide)⟩
              · have E37 := hval 2 _ 37 rfl rfl (dep_of hdep 2 (by rfl))
                unfold dcVal at E37
                have n22 := not_yet hcl hf 22 (by rfl)
                have n23 := not_yet hcl n22 23 (by rfl)
                have c1 := HC0.out W (hS.bel n23)
                refine g_plain rfl ?_
                exact does_value (w' := W) (v := .slice (some ⟨la, 0, none⟩) s.n cA) (by go_simp) ⟨.pointer none, .inr rfl, hS.step 3 (.pointer none) (by decide) (by decide) (by decide)⟩
              · have E0 : a.tmps[0]? = some (.pointer (some ⟨g, 0, none⟩)) := (same_of hsame 0 (by rfl)).trans rfl
                refine g_plain rfl ?_
                exact does_value (w' := W) (v := .pointer (some ⟨g, 0, none⟩)) (by go_simp) ⟨.pointer none, .inr rfl, hS.step 4 (.pointer none) (by decide) (by decide) (by decide)⟩
              · have E39 := hval 4 _ 39 rfl rfl (dep_of hdep 4 (by rfl))
                unfold dcVal at E39
                refine g_plain rfl ?_
                exact does_value (w' := W) (v := .pointer (some ⟨g, 0, none⟩)) (by go_simp) ⟨.pointer none, .inr rfl, hS.step 5 (.pointer none) (by decide) (by decide) (by decide)⟩
              · have E40 := hval 5 _ 40 rfl rfl (dep_of hdep 5 (by rfl))
                unfold dcVal at E40
                refine g_plain rfl ?_
                exact does_value (w' := W) (v := .pointer (some ⟨g, 1, none⟩)) (by go_simp) ⟨.pointer none, .inr rfl, hS.step 6 (.pointer none) (by decide) (by decide) (by decide)⟩
              · have E41 := hval 6 _ 41 rfl rfl (dep_of hdep 6 (by rfl))
                unfold dcVal at E41
                have n9 := not_yet hcl hf 9 (by rfl)
                have n10 := not_yet hcl n9 10 (by rfl)
                have n11 := not_yet hcl n10 11 (by rfl)
                have n22 := not_yet hcl n11 22 (by rfl)
                have n23 := not_yet hcl n22 23 (by rfl)
                have c1 := HC1.out W (hS.bel n23)
                refine g_plain rfl ?_
                exact does_value (w' := W) (v := .slice (some ⟨r, 0, none⟩) s.loose.length cR) (by go_simp) ⟨.pointer none, .inr rfl, hS.step 7 (.pointer none) (by decide) (by decide) (by decide)⟩
              · have E8 : a.tmps[8]? = some (.int .i64 (k : Int)) := (same_of hsame 8 (by rfl)).trans rfl
                refine g_plain rfl ?_
                exact does_value (w' := W) (v := .int .i64 (k : Int)) (by go_simp) ⟨.pointer none, .inr rfl, hS.step 8 (.pointer none) (by decide) (by decide) (by decide)⟩
              · have E42 := hval 7 _ 42 rfl rfl (dep_of hdep 7 (by rfl))
                have E43 := hval 8 _ 43 rfl rfl (dep_of hdep 8 (by rfl))
                unfold dcVal at E42 E43
                refine g_plain rfl ?_
                exact does_value (w' := W) (v := .pointer (some ⟨r, 2 * k, none⟩)) (by go_simp) ⟨.pointer none, .inr rfl, hS.step 9 (.pointer none) (by decide) (by decide) (by decide)⟩
              · have E44 := hval 9 _ 44 rfl rfl (dep_of hdep 9 (by rfl))
                unfold dcVal at E44
                refine g_plain rfl ?_
                exact does_value (w' := W) (v := .pointer (some ⟨r, 2 * k, none⟩)) (by go_simp) ⟨.pointer none, .inr rfl, hS.step 10 (.pointer none) (by decide) (by decide) (by decide)⟩
              · have E45 := hval 10 _ 45 rfl rfl (dep_of hdep 10 (by rfl))
                unfold dcVal at E45
                have n22 := not_yet hcl hf 22 (by rfl)
                have n23 := not_yet hcl n22 23 (by rfl)
                have c1 := HK1.out W (hS.bel n23)
                refine g_plain rfl ?_
                exact does_value (w' := W) (v := .int .i64 (xi : Int)) (by go_simp) ⟨.pointer none, .inr rfl, hS.step 11 (.pointer none) (by decide) (by decide) (by decide)⟩
              · refine g_plain rfl ?_
                exact does_value (w' := W.alloc (.cells #[] 5)) (v := .slice (some ⟨W.heap.size, 0, none⟩) 0 0) (by go_simp) ⟨.slice (some ⟨W.heap.size, 0, none⟩) 0 0, .inr rfl, hS.s12 hf⟩
              · have E0 : a.tmps[0]? = some (.pointer (some ⟨g, 0, none⟩)) := (same_of hsame 0 (by rfl)).trans rfl
                refine g_plain rfl ?_
                exact does_value (w' := W) (v := .pointer (some ⟨g, 0, none⟩)) (by go_simp) ⟨.pointer none, .inr rfl, hS.step 13 (.pointer none) (by decide) (by decide) (by decide)⟩
              · have E48 := hval 13 _ 48 rfl rfl (dep_of hdep 13 (by rfl))
                unfold dcVal at E48
                refine g_plain rfl ?_
                exact does_value (w' := W) (v := .pointer (some ⟨g, 0, none⟩)) (by go_simp) ⟨.pointer none, .inr rfl, hS.step 14 (.pointer none) (by decide) (by decide) (by decide)⟩
              · have E49 := hval 14 _ 49 rfl rfl (dep_of hdep 14 (by rfl))
                unfold dcVal at E49
                refine g_plain rfl ?_
                exact does_value (w' := W) (v := .pointer (some ⟨g, 1, none⟩)) (by go_simp) ⟨.pointer none, .inr rfl, hS.step 15 (.pointer none) (by decide) (by decide) (by decide)⟩
              · have E50 := hval 15 _ 50 rfl rfl (dep_of hdep 15 (by rfl))
                unfold dcVal at E50
                have n18 := not_yet hcl hf 18 (by rfl)
                have n19 := not_yet hcl n18 19 (by rfl)
                have n20 := not_yet hcl n19 20 (by rfl)
                have n21 := not_yet hcl n20 21 (by rfl)
                have n23 := not_yet hcl n21 23 (by rfl)
                have c1 := HC1.out W (hS.bel n23)
                refine g_plain rfl ?_
                exact does_value (w' := W) (v := .slice (some ⟨r, 0, none⟩) s.loose.length cR) (by go_simp) ⟨.pointer none, .inr rfl, hS.step 16 (.pointer none) (by decide) (by decide) (by decide)⟩
              · have E8 : a.tmps[8]? = some (.int .i64 (k : Int)) := (same_of hsame 8 (by rfl)).trans rfl
                refine g_plain rfl ?_
                exact does_value (w' := W) (v := .int .i64 (k : Int)) (by go_simp) ⟨.pointer none, .inr rfl, hS.step 17 (.pointer none) (by decide) (by decide) (by decide)⟩
              · have E51 := hval 16 _ 51 rfl rfl (dep_of hdep 16 (by rfl))
                have E52 := hval 17 _ 52 rfl rfl (dep_of hdep 17 (by rfl))
                unfold dcVal at E51 E52
                refine g_plain rfl ?_
                exact does_value (w' := W) (v := .pointer (some ⟨r, 2 * k, none⟩)) (by go_simp) ⟨.pointer none, .inr rfl, hS.step 18 (.pointer none) (by decide) (by decide) (by decide)⟩
              · have E53 := hval 18 _ 53 rfl rfl (dep_of hdep 18 (by rfl))
                unfold dcVal at E53
                refine g_plain rfl ?_
                exact does_value (w' := W) (v := .pointer (some ⟨r, 2 * k + 1, none⟩)) (by go_simp) ⟨.pointer none, .inr rfl, hS.step 19 (.pointer none) (by decide) (by decide) (by decide)⟩
              · have E54 := hval 19 _ 54 rfl rfl (dep_of hdep 19 (by rfl))
                unfold dcVal at E54
                have n21 := not_yet hcl hf 21 (by rfl)
                have n23 := not_yet hcl n21 23 (by rfl)
                have c1 := HK2.out W (hS.bel n23)
                refine g_plain rfl ?_
                exact does_value (w' := W) (v := .slice (some ⟨b, 0, none⟩) 64 c) (by go_simp) ⟨.pointer none, .inr rfl, hS.step 20 (.pointer none) (by decide) (by decide) (by decide)⟩
              · have E47 := hval 12 _ 47 rfl rfl (dep_of hdep 12 (by rfl))
                have E55 := hval 20 _ 55 rfl rfl (dep_of hdep 20 (by rfl))
                unfold dcVal at E47 E55
                refine g_plain rfl ?_
                obtain ⟨v', W', hr, hS'⟩ := hS.s21 (c2 := c) (dep_of hdep 12 (by rfl)) hf HSB.out 34 34 Try.underlying34
                exact does_append _ _ _ rfl (by rw [eval_getD, E47]; rfl) (by rw [eval_getD, E55]; rfl) hr ⟨v', .inr rfl, hS'⟩
              · have E38 := hval 3 _ 38 rfl rfl (dep_of hdep 3 (by rfl))
                have E46 := hval 11 _ 46 rfl rfl (dep_of hdep 11 (by rfl))
                unfold dcVal at E38 E46
                refine g_plain rfl ?_
                exact does_value (w' := W) (v := .pointer (some ⟨la, xi, none⟩)) (by go_simp) ⟨.pointer none, .inr rfl, hS.step 22 (.pointer none) (by decide) (by decide) (by decide)⟩
              · have E57 := hval 22 _ 57 rfl rfl (dep_of hdep 22 (by rfl))
                have E56 := hval 21 _ 56 rfl rfl (dep_of hdep 21 (by rfl))
                unfold dcVal at E57 E56
                refine g_plain rfl ?_
                have hB := hS.bel hf
                obtain ⟨⟨v0, c0⟩, z0⟩ := HA0.out W hB
                have hown := hS.b (dep_of hdep 21 (by rfl)) hf
                obtain ⟨q8, c8, e8⟩ := Go.Joins.ownsRow_form hown (by omega)
                have hTN := HNX.out W _ hB hown
                rw [e8] at E56 hTN
                exact does_skip (w' := W.setCell ⟨la, xi, none⟩ (.slice (some ⟨q8, 0, none⟩) 64 c8)) (by go_simp) ⟨.pointer none, .inl rfl, hS.s23 (dep_of hdep 21 (by rfl)) (.pointer none) hTN⟩
            · intro gh w8 hS
              have HI8 := hid ((HTT.out w8).1 (hS.up rfl).2)
              clear hS HST HTT HNX HC0 HC1 HK1 HK2 HA0 HSB
              simp only [putAll, dcVal, Nat.reduceAdd, Nat.zero_add, Act.put, List.setIfInBounds_toArray, List.set_cons_zero, List.set_cons_succ]
              have hlo9 := HLO.out
              go_wp2_with fail
              go_roundw
              case rel => exact ⟨k + 1, by omega, by go_num, by rw [HPN.out], HI8⟩
              case measure => simp [intOf]; omega
          · have hkf : keep[k] = false := by simpa using hkeep
            rw [hkf] at hkv
            have hN2 := hN.out
            rw [if_neg (by rw [HKA.out]; exact hkeep)] at hN2
            have HCI2 := hid (show CrI w wr base g A (some ⟨r, 0, none⟩) cA cR us D m z (ckS s keep (k + 1)) from by unfold ckS; rw [hN2]; exact HCI.out)
            have HPN := hid (show (crashP s.img s.loose keep (k + 1)).2 = (k : Int) from by rw [hN2])
            clear hN hN2 HCI HIN HKW HP hs hbD hu2 hx hxo k1 k2 h64 HKA hkeep hkf
            generalize (crashP s.img s.loose keep k).2 = lst
            have hlo9 := HLO.out
            go_wp2_with fail
            go_roundw
            case rel => exact ⟨k + 1, by omega, by go_num, by rw [HPN.out], HCI2⟩
            case measure => simp [intOf]; omega
        · have q2 : ¬ (k : Int) < (nk : Int) := by omega
          have hN2 := hN.out
          rw [if_neg (by unfold keptAt; rw [List.getElem?_eq_none (by have := HKW.out.1; omega)]; decide)] at hN2
          have HCI2 := hid (show CrI w wr base g A (some ⟨r, 0, none⟩) cA cR us D m z (ckS s keep (k + 1)) from by unfold ckS; rw [hN2]; exact HCI.out)
          have HPN := hid (show (crashP s.img s.loose keep (k + 1)).2 = (k : Int) from by rw [hN2])
          clear hN hN2 HCI HIN HKW HP hs hbD hu2 hx hxo k1 k2 h64
          generalize (crashP s.img s.loose keep k).2 = lst
          have hlo9 := HLO.out
          go_wp2_with fail
          go_roundw
          case rel => exact ⟨k + 1, by omega, by go_num, by rw [HPN.out], HCI2⟩
          case measure => simp [intOf]; omega
      · obtain rfl : k = s.loose.length := by omega
        have q0 : ¬ (s.loose.length : Int) < (s.loose.length : Int) := by omega
        have f1 := HIN.out.hd.frozen 1
        have f2 := HIN.out.hd.frozen 2
        have f4 := HIN.out.hd.frozen 4
        have c2 : wr.cell? ⟨g, 2, none⟩ = some (.bool s.fuse.isSome) := HIN.out.hd.cell 2 rfl
        have c4 : wr.cell? ⟨g, 4, none⟩ = some (.bool s.out) := HIN.out.hd.cell 4 rfl
        by_cases hl : 0 ≤ (crashP s.img s.loose keep s.loose.length).2
        · obtain ⟨l, hle⟩ : ∃ l : Nat, (crashP s.img s.loose keep s.loose.length).2 = (l : Int) := ⟨(crashP s.img s.loose keep s.loose.length).2.toNat, by omega⟩
          have hll : l < s.loose.length := by have := HP.out.2.2; omega
          obtain ⟨r, b, c, x, rfl, hx, k1, k2, hbD, hs, hu2, h64⟩ := RdIn.wrs base g (ckS s keep s.loose.length) wr HIN.out (show l < (ckS s keep s.loose.length).loose.length from hll)
          have hx : s.loose[l]? = some x := hx
          have hxo := HOK.out.lo x (List.mem_of_getElem? hx)
          obtain ⟨la, b2, c9, rfl, hca, hb2D, hs2, h642, -⟩ := RdIn.secs base g (ckS s keep s.loose.length) wr HIN.out (show x.1 < (ckS s keep s.loose.length).n from hxo.1)
          have hixl := fun W => ix_wr r s.loose.length cR l hll W
          have q3 : (0 : Int) ≤ (l : Int) := by omega
          rw [hle]
          have hb5 := below_new wr (.cells #[.int .i64 (x.1 : Int), .slice (some ⟨b, 0, none⟩) 64 c] 98)
          have hk5 := Blk.new wr 98 #[.int .i64 (x.1 : Int), .slice (some ⟨b, 0, none⟩) 64 c]
          have HB5 := hid hb5; have HK5 := hid hk5
          have HSL := hid (show (secAt (ckS s keep s.loose.length).img x.1).length = 64 from hs2.1)
          have HIM := hid (show ({ ckS s keep s.loose.length with img := secPut (ckS s keep s.loose.length).img x.1 (x.2.take u ++ (secAt (ckS s keep s.loose.length).img x.1).drop u) } : DS) = { s with img := crashI s.img s.loose keep u } from by
            unfold ckS
            simp only
            rw [← tear_put _ _ _ _ (by omega), crashI_pos (p1 := (crashP s.img s.loose keep s.loose.length).1) (by rw [← hle]) hx])
          have HX1 := hid (show (x.2.take u ++ (secAt (ckS s keep s.loose.length).img x.1).drop u).length = 64 from by
            rw [List.length_append, List.length_take, List.length_drop, HSL.out, hxo.2]; omega)
          obtain ⟨x2, hx2⟩ : ∃ x2, (secAt (ckS s keep s.loose.length).img x.1).drop u = x2 := ⟨_, rfl⟩
          obtain ⟨T, hT⟩ : ∃ T : World → Prop, ∀ W, T W ↔ CrI w W base g (some ⟨la, 0, none⟩) (some ⟨r, 0, none⟩) cA cR us D m z { s with img := crashI s.img s.loose keep u } := ⟨_, fun _ => Iff.rfl⟩
          have HNX := hid (fun (w5 : World) (h5 : Below wr.heap.size wr w5) => (show ∀ W v, Below w5.heap.size w5 W → Own W w5.heap.size 5 v 64 (x.2.take u ++ x2) → T (W.setCell ⟨la, x.1, none⟩ v) from fun W v hW ho => (hT _).2 (by
            rw [← hx2] at ho
            have hI3 := (HCI.out.keep h5).store (i := x.1) (x := x.2.take u ++ (secAt (ckS s keep s.loose.length).img x.1).drop u) HP.out.1 hxo.1 HX1.out hW ho
            rw [HIM.out] at hI3
            exact hI3)))
          have HSB1 := hid (fun (w5 : World) (h5 : Below wr.heap.size wr w5) => (show SB w5 w5.heap.size (some ⟨b, 0, none⟩) u (x.2.take u) from ((show SB wr wr.heap.size (some ⟨b, 0, none⟩) 64 x.2 from hs.more (by have := (HIN.out.dd b hbD).2.1; omega)).take u (by omega)).keep h5 |>.more h5.size))
          have HSB2 := hid (fun (w5 : World) (h5 : Below wr.heap.size wr w5) => (show SB w5 w5.heap.size (some ⟨b2, u, none⟩) (64 - u) x2 from by
            have hd := (((show SB wr wr.heap.size (some ⟨b2, 0, none⟩) 64 _ from hs2.more (by have := (HIN.out.dd b2 hb2D).2.1; omega)).drop (k := u) (c := c9) (by omega) h642).keep h5).more h5.size
            rw [if_neg (by omega), Option.map_some, Addr.add_lit, Nat.zero_add, hx2] at hd
            exact hd))
          have hcu : ¬ c < u := by omega
          have hcu9 : ¬ c9 = u := by omega
          have hu9 : (u : Int) ≤ 64 := by omega
          have HHC := hid (fun (W : World) (hW : Below wr.heap.size wr W) => ((hW.cell (lt_of_cell (HIN.out.hd.cell 0 rfl))).trans (HIN.out.hd.cell 0 rfl) : W.cell? ⟨g, 0, none⟩ = some (.slice (some ⟨la, 0, none⟩) s.n cA)))
          have HKC := hid (fun (W : World) (hW : Below wr.heap.size wr W) => (hW.cell (lt_of_cell hca)).trans hca)
          have HA5 := hid (fun W (hW : Below wr.heap.size wr W) => (show (∃ v, W.cell? ⟨la, x.1, none⟩ = some v) ∧ W.frozen? ⟨la, x.1, none⟩ = false from by
            have h1 := World.ownsRow.cellAt (HIN.out.keep hW).lr x.1 (by have := hxo.1; show x.1 < s.n * 1; omega)
            have h2 := World.ownsRow.frozenAt (HIN.out.keep hW).lr x.1
            obtain ⟨v, hv⟩ : ∃ v, vs'[x.1]? = some v := ⟨_, List.getElem?_eq_getElem (by rw [HIN.out.vl]; exact hxo.1)⟩
            exact ⟨⟨v, h1.trans hv⟩, h2⟩))
          have HTT := hid hT
          have HU64 := hid (show u ≤ 64 by omega)
          have hixr := fun W => ix_row la s.n cA x.1 hxo.1 W
          go_wp2_with fail
          obtain ⟨xi, xb⟩ := x
          simp only at HB5 HK5 HNX HSB1 HKC HA5 hixr ⊢
          generalize hw5 : wr.alloc (.cells #[.int .i64 (xi : Int), .slice (some ⟨b, 0, none⟩) 64 c] 98) = w5 at HB5 HK5 ⊢
          generalize wr.heap.size = wq at HK5 ⊢
          have HNX5 := hid (HNX.out w5 HB5.out); have HSB15 := hid (HSB1.out w5 HB5.out); have HSB25 := hid (HSB2.out w5 HB5.out)
          have HC0 := hid (fun W (hW : Below w5.heap.size w5 W) => HHC.out W (HB5.out.trans (hW.mono HB5.out.size)))
          have HK2 := hid (fun W (hW : Below w5.heap.size w5 W) => HKC.out W (HB5.out.trans (hW.mono HB5.out.size)))
          have HA0 := hid (fun W (hW : Below w5.heap.size w5 W) => HA5.out W (HB5.out.trans (hW.mono HB5.out.size)))
          have HW0 := hid (fun W (hW : Below w5.heap.size w5 W) => (HK5.out.keep hW).cell 0 rfl)
          have HW1 := hid (fun W (hW : Below w5.heap.size w5 W) => (HK5.out.keep hW).cell 1 rfl)
          have HFI2 := hid (fun w8 (h8 : T w8) => HFI.out w8 ((HTT.out w8).1 h8))
          have HHD2 := hid (fun w8 (h8 : T w8) => HHD.out w8 ((HTT.out w8).1 h8))
          clear hw5 HNX HSB1 HSB2 HHC HKC HA5 HTT HFI HHD HIN HCI HKW HP HB5 HK5 HIM HX1 HSL hT hx2 hs hs2 hu2 hbD hb2D hca k1 k2 hx hxo hb5 hk5 hle f1 f2 f4 c2 c4 c1
          have HSB1 := HSB15; have HSB2 := HSB25; have HNX := HNX5
          clear HSB15 HSB25 HNX5
          have HST := hid (C2S.start w5 u (xb.take u) x2 T)
          refine wp_region_invG 101 (.pointer none) (dtVal g la wq b c b2 c9 xi u s.n cA) (C2S w5 u (xb.take u) x2 T) (by kernel_rfl) (by kernel_rfl) (by exact Nat.le_refl 101) ?_ ?_ ?_
          · exact HST.out
          · intro i o f gh a W hi hf hdep hsame hcl hval hS
            rcases i with _ | _ | _ | _ | _ | _ | _ | _ | _ | _ | _ | _ | _ | _ | _ | _ | _ | _ | _ | _ | _ | _ | _ | _ | _ | i
            all_goals simp only [List.getElem?_cons_succ, List.getElem?_cons_zero, List.getElem?_nil, Option.some.injEq, reduceCtorEq] at hi
            all_goals subst hi
            · have E0 : a.tmps[0]? = some (.pointer (some ⟨g, 0, none⟩)) := (same_of hsame 0 (by rfl)).trans rfl
              refine g_plain rfl ?_
              exact does_value (w' := W) (v := .pointer (some ⟨g, 0, none⟩)) (by go_simp) ⟨.pointer none, .inr rfl, hS.step 0 (.pointer none) (by decide) (by decide) (by decide) (by decide)⟩
            · have E68 := hval 0 _ 68 rfl rfl (dep_of hdep 0 (by rfl))
              unfold dtVal at E68
              refine g_plain rfl ?_
              exact does_value (w' := W) (v := .pointer (some ⟨g, 0, none⟩)) (by go_simp) ⟨.pointer none, .inr rfl, hS.step 1 (.pointer none) (by decide) (by decide) (by decide) (by decide)⟩
            · have E69 := hval 1 _ 69 rfl rfl (dep_of hdep 1 (by rfl))
              unfold dtVal at E69
              refine g_plain rfl ?_
              exact does_value (w' := W) (v := .pointer (some ⟨g, 0, none⟩)) (by go_simp) ⟨.pointer none, .inr rfl, hS.step 2 (.pointer none) (by decide) (by decide) (by decide) (by decide)⟩
            · have E70 := hval 2 _ 70 rfl rfl (dep_of hdep 2 (by rfl))
              unfold dtVal at E70
              have n23 := not_yet hcl hf 23 (by rfl)
              have n24 := not_yet hcl n23 24 (by rfl)
              have c1 := HC0.out W (hS.bel n24)
              refine g_plain rfl ?_
              exact does_value (w' := W) (v := .slice (some ⟨la, 0, none⟩) s.n cA) (by go_simp) ⟨.pointer none, .inr rfl, hS.step 3 (.pointer none) (by decide) (by decide) (by decide) (by decide)⟩
            · have E9 : a.tmps[9]? = some (.pointer (some ⟨wq, 0, none⟩)) := (same_of hsame 9 (by rfl)).trans rfl
              refine g_plain rfl ?_
              exact does_value (w' := W) (v := .pointer (some ⟨wq, 0, none⟩)) (by go_simp) ⟨.pointer none, .inr rfl, hS.step 4 (.pointer none) (by decide) (by decide) (by decide) (by decide)⟩
            · have E72 := hval 4 _ 72 rfl rfl (dep_of hdep 4 (by rfl))
              unfold dtVal at E72
              have n23 := not_yet hcl hf 23 (by rfl)
              have n24 := not_yet hcl n23 24 (by rfl)
              have c1 := HW0.out W (hS.bel n24)
              refine g_plain rfl ?_
              exact does_value (w' := W) (v := .int .i64 (xi : Int)) (by go_simp) ⟨.pointer none, .inr rfl, hS.step 5 (.pointer none) (by decide) (by decide) (by decide) (by decide)⟩
            · refine g_plain rfl ?_
              exact does_value (w' := W.alloc (.cells #[] 5)) (v := .slice (some ⟨W.heap.size, 0, none⟩) 0 0) (by go_simp) ⟨.slice (some ⟨W.heap.size, 0, none⟩) 0 0, .inr rfl, hS.s6 hf⟩
            · have E9 : a.tmps[9]? = some (.pointer (some ⟨wq, 0, none⟩)) := (same_of hsame 9 (by rfl)).trans rfl
              refine g_plain rfl ?_
              exact does_value (w' := W) (v := .pointer (some ⟨wq, 1, none⟩)) (by go_simp) ⟨.pointer none, .inr rfl, hS.step 7 (.pointer none) (by decide) (by decide) (by decide) (by decide)⟩
            · have E75 := hval 7 _ 75 rfl rfl (dep_of hdep 7 (by rfl))
              unfold dtVal at E75
              have n10 := not_yet hcl hf 10 (by rfl)
              have n11 := not_yet hcl n10 11 (by rfl)
              have n22 := not_yet hcl n11 22 (by rfl)
              have n24 := not_yet hcl n22 24 (by rfl)
              have c1 := HW1.out W (hS.bel n24)
              refine g_plain rfl ?_
              exact does_value (w' := W) (v := .slice (some ⟨b, 0, none⟩) 64 c) (by go_simp) ⟨.pointer none, .inr rfl, hS.step 8 (.pointer none) (by decide) (by decide) (by decide) (by decide)⟩
            · have E2 : a.tmps[2]? = some (.int .i64 (u : Int)) := (same_of hsame 2 (by rfl)).trans rfl
              refine g_plain rfl ?_
              exact does_value (w' := W) (v := .int .i64 (u : Int)) (by go_simp) ⟨.pointer none, .inr rfl, hS.step 9 (.pointer none) (by decide) (by decide) (by decide) (by decide)⟩
            · have E76 := hval 8 _ 76 rfl rfl (dep_of hdep 8 (by rfl))
              have E77 := hval 9 _ 77 rfl rfl (dep_of hdep 9 (by rfl))
              unfold dtVal at E76 E77
              refine g_plain rfl ?_
              exact does_value (w' := W) (v := .slice (some ⟨b, 0, none⟩) u c) (by go_simp) ⟨.pointer none, .inr rfl, hS.step 10 (.pointer none) (by decide) (by decide) (by decide) (by decide)⟩
            · have E74 := hval 6 _ 74 rfl rfl (dep_of hdep 6 (by rfl))
              have E78 := hval 10 _ 78 rfl rfl (dep_of hdep 10 (by rfl))
              unfold dtVal at E74 E78
              refine g_plain rfl ?_
              obtain ⟨v', W', hr, hS'⟩ := hS.s11 (c2 := c) (dep_of hdep 6 (by rfl)) hf HSB1.out HU64.out 34 34 Try.underlying34
              exact does_append _ _ _ rfl (by rw [eval_getD, E74]; rfl) (by rw [eval_getD, E78]; rfl) hr ⟨v', .inr rfl, hS'⟩
            · have E0 : a.tmps[0]? = some (.pointer (some ⟨g, 0, none⟩)) := (same_of hsame 0 (by rfl)).trans rfl
              refine g_plain rfl ?_
              exact does_value (w' := W) (v := .pointer (some ⟨g, 0, none⟩)) (by go_simp) ⟨.pointer none, .inr rfl, hS.step 12 (.pointer none) (by decide) (by decide) (by decide) (by decide)⟩
            · have E80 := hval 12 _ 80 rfl rfl (dep_of hdep 12 (by rfl))
              unfold dtVal at E80
              refine g_plain rfl ?_
              exact does_value (w' := W) (v := .pointer (some ⟨g, 0, none⟩)) (by go_simp) ⟨.pointer none, .inr rfl, hS.step 13 (.pointer none) (by decide) (by decide) (by decide) (by decide)⟩
            · have E81 := hval 13 _ 81 rfl rfl (dep_of hdep 13 (by rfl))
              unfold dtVal at E81
              refine g_plain rfl ?_
              exact does_value (w' := W) (v := .pointer (some ⟨g, 0, none⟩)) (by go_simp) ⟨.pointer none, .inr rfl, hS.step 14 (.pointer none) (by decide) (by decide) (by decide) (by decide)⟩
            · have E82 := hval 14 _ 82 rfl rfl (dep_of hdep 14 (by rfl))
              unfold dtVal at E82
              have n18 := not_yet hcl hf 18 (by rfl)
              have n19 := not_yet hcl n18 19 (by rfl)
              have n21 := not_yet hcl n19 21 (by rfl)
              have n22 := not_yet hcl n21 22 (by rfl)
              have n24 := not_yet hcl n22 24 (by rfl)
              have c1 := HC0.out W (hS.bel n24)
              refine g_plain rfl ?_
              exact does_value (w' := W) (v := .slice (some ⟨la, 0, none⟩) s.n cA) (by go_simp) ⟨.pointer none, .inr rfl, hS.step 15 (.pointer none) (by decide) (by decide) (by decide) (by decide)⟩
            · have E9 : a.tmps[9]? = some (.pointer (some ⟨wq, 0, none⟩)) := (same_of hsame 9 (by rfl)).trans rfl
              refine g_plain rfl ?_
              exact does_value (w' := W) (v := .pointer (some ⟨wq, 0, none⟩)) (by go_simp) ⟨.pointer none, .inr rfl, hS.step 16 (.pointer none) (by decide) (by decide) (by decide) (by decide)⟩
            · have E84 := hval 16 _ 84 rfl rfl (dep_of hdep 16 (by rfl))
              unfold dtVal at E84
              have n18 := not_yet hcl hf 18 (by rfl)
              have n19 := not_yet hcl n18 19 (by rfl)
              have n21 := not_yet hcl n19 21 (by rfl)
              have n22 := not_yet hcl n21 22 (by rfl)
              have n24 := not_yet hcl n22 24 (by rfl)
              have c1 := HW0.out W (hS.bel n24)
              refine g_plain rfl ?_
              exact does_value (w' := W) (v := .int .i64 (xi : Int)) (by go_simp) ⟨.pointer none, .inr rfl, hS.step 17 (.pointer none) (by decide) (by decide) (by decide) (by decide)⟩
            · have E83 := hval 15 _ 83 rfl rfl (dep_of hdep 15 (by rfl))
              have E85 := hval 17 _ 85 rfl rfl (dep_of hdep 17 (by rfl))
              unfold dtVal at E83 E85
              refine g_plain rfl ?_
              exact does_value (w' := W) (v := .pointer (some ⟨la, xi, none⟩)) (by go_simp) ⟨.pointer none, .inr rfl, hS.step 18 (.pointer none) (by decide) (by decide) (by decide) (by decide)⟩
            · have E86 := hval 18 _ 86 rfl rfl (dep_of hdep 18 (by rfl))
              unfold dtVal at E86
              have n21 := not_yet hcl hf 21 (by rfl)
              have n22 := not_yet hcl n21 22 (by rfl)
              have n24 := not_yet hcl n22 24 (by rfl)
              have c1 := HK2.out W (hS.bel n24)
              refine g_plain rfl ?_
              exact does_value (w' := W) (v := .slice (some ⟨b2, 0, none⟩) 64 c9) (by go_simp) ⟨.pointer none, .inr rfl, hS.step 19 (.pointer none) (by decide) (by decide) (by decide) (by decide)⟩
            · have E2 : a.tmps[2]? = some (.int .i64 (u : Int)) := (same_of hsame 2 (by rfl)).trans rfl
              refine g_plain rfl ?_
              exact does_value (w' := W) (v := .int .i64 (u : Int)) (by go_simp) ⟨.pointer none, .inr rfl, hS.step 20 (.pointer none) (by decide) (by decide) (by decide) (by decide)⟩
            · have E87 := hval 19 _ 87 rfl rfl (dep_of hdep 19 (by rfl))
              have E88 := hval 20 _ 88 rfl rfl (dep_of hdep 20 (by rfl))
              unfold dtVal at E87 E88
              refine g_plain rfl ?_
              exact does_value (w' := W) (v := .slice (some ⟨b2, u, none⟩) (64 - u) (c9 - u)) (by go_simp) ⟨.pointer none, .inr rfl, hS.step 21 (.pointer none) (by decide) (by decide) (by decide) (by decide)⟩
            · have E79 := hval 11 _ 79 rfl rfl (dep_of hdep 11 (by rfl))
              have E89 := hval 21 _ 89 rfl rfl (dep_of hdep 21 (by rfl))
              unfold dtVal at E79 E89
              refine g_plain rfl ?_
              obtain ⟨v', W', hr, hS'⟩ := hS.s22 (c2 := c9 - u) (dep_of hdep 11 (by rfl)) hf HSB2.out HU64.out 34 34 Try.underlying34
              exact does_append _ _ _ rfl (by rw [eval_getD, E79]; rfl) (by rw [eval_getD, E89]; rfl) hr ⟨v', .inr rfl, hS'⟩
            · have E71 := hval 3 _ 71 rfl rfl (dep_of hdep 3 (by rfl))
              have E73 := hval 5 _ 73 rfl rfl (dep_of hdep 5 (by rfl))
              unfold dtVal at E71 E73
              refine g_plain rfl ?_
              exact does_value (w' := W) (v := .pointer (some ⟨la, xi, none⟩)) (by go_simp) ⟨.pointer none, .inr rfl, hS.step 23 (.pointer none) (by decide) (by decide) (by decide) (by decide)⟩
            · have E91 := hval 23 _ 91 rfl rfl (dep_of hdep 23 (by rfl))
              have E90 := hval 22 _ 90 rfl rfl (dep_of hdep 22 (by rfl))
              unfold dtVal at E91 E90
              refine g_plain rfl ?_
              have hB := hS.bel hf
              obtain ⟨⟨v0, c0⟩, z0⟩ := HA0.out W hB
              have hown := hS.c (dep_of hdep 22 (by rfl)) hf
              obtain ⟨q8, c8, e8⟩ := Go.Joins.ownsRow_form hown (by omega)
              have hTN := HNX.out W _ hB hown
              rw [e8] at E90 hTN
              exact does_skip (w' := W.setCell ⟨la, xi, none⟩ (.slice (some ⟨q8, 0, none⟩) 64 c8)) (by go_simp) ⟨.pointer none, .inl rfl, hS.s24 (dep_of hdep 22 (by rfl)) (.pointer none) hTN⟩
          · intro gh w8 hS
            have HFX := hid (HFI2.out w8 (hS.up rfl).2)
            have HHX := hid (HHD2.out w8 (hS.up rfl).2)
            clear hS HST HNX HC0 HK2 HA0 HW0 HW1 HSB1 HSB2 HFI2 HHD2
            have f1 := HHX.out.frozen 1
            have f2 := HHX.out.frozen 2
            have f4 := HHX.out.frozen 4
            have c1 : w8.cell? ⟨g, 1, none⟩ = some (.slice (some ⟨r, 0, none⟩) s.loose.length cR) := HHX.out.cell 1 rfl
            have c2 : w8.cell? ⟨g, 2, none⟩ = some (.bool s.fuse.isSome) := HHX.out.cell 2 rfl
            have c4 : w8.cell? ⟨g, 4, none⟩ = some (.bool s.out) := HHX.out.cell 4 rfl
            simp only [putAll, dtVal, Nat.reduceAdd, Nat.zero_add, Act.put, List.setIfInBounds_toArray, List.set_cons_zero, List.set_cons_succ]
            go_wp2_with fail
            go_ret
            exact HFX.out _ (((chg_set (L := [g]) (by simp) 1 _).trans (chg_set (L := [g]) (by simp) 2 _) (fun b hb => .inl hb)).trans (chg_set (L := [g]) (by simp) 4 _) (fun b hb => .inl hb)) (by simpa using ((HHX.out.set_ 1 (.slice none 0 0)).set_ 2 (.bool false)).set_ 4 (.bool false))
        · have hle : (crashP s.img s.loose keep s.loose.length).2 < 0 := by omega
          have HHD2 := hid (HHD.out wr (by
            have e : ({ s with img := crashI s.img s.loose keep u } : DS) = ckS s keep s.loose.length := by unfold ckS; rw [crashI_neg hl]
            rw [e]; exact HCI.out))
          have HF2 := hid (HFI.out wr (by
            have e : ({ s with img := crashI s.img s.loose keep u } : DS) = ckS s keep s.loose.length := by unfold ckS; rw [crashI_neg hl]
            rw [e]; exact HCI.out))
          clear HIN HCI HFI HP HKW hl HHD
          generalize (crashP s.img s.loose keep s.loose.length).2 = lst at hle ⊢
          go_wp2_with fail
          go_ret
          exact HF2.out _ (((chg_set (L := [g]) (by simp) 1 _).trans (chg_set (L := [g]) (by simp) 2 _) (fun b hb => .inl hb)).trans (chg_set (L := [g]) (by simp) 4 _) (fun b hb => .inl hb)) (by simpa using ((HHD2.out.set_ 1 (.slice none 0 0)).set_ 2 (.bool false)).set_ 4 (.bool false))
  · have HK := hid (show RdPost w base F g m (crashD s keep t) (.int .i64 (crashE t : Int)) (.returned (.int .i64 2)) w from by
      rw [show crashE t = 2 from if_neg ht, show crashD s keep t = s from if_neg ht]; exact RdPost.same HS.out (Nat.le_refl _) _)
    clear h hok hF hlt HS hsn hkb hne
    generalize crashD s keep t = s' at HK ⊢
    generalize crashE t = e' at HK ⊢
    by_cases e1 : t < 0
    · go_enter Try.func23, Try.ntmps23
      go_wp2_with fail
      go_ret
      exact HK.out
    · have e2 : (64 : Int) ≤ t := by omega
      clear ht
      go_enter Try.func23, Try.ntmps23
      go_wp2_with fail
      go_ret
      exact HK.out
end
end Go.Proofs.Ytiejndkchcljdaa
/- A device of the program's beside one of the plain reference, and blocks that are neither's. -/
namespace Go.Proofs.Ytiejndkchcljdaa
open Go.RowKit

/-- blocks that are held stay as they are -/
def HeldW (H : List Nat) (W W' : World) : Prop := ∃ L, Chg L W W' ∧ ∀ b ∈ H, b ∉ L
structure DX (w : World) (base bx g gx m : Nat) (H : List Nat) (s1 s2 : DS) (W : World) : Prop where
  ex : ∃ F Fx, DevB W base F g s1 ∧ RdB W bx Fx gx m s2 ∧ (∀ b ∈ Fx, b ∉ F) ∧ (∀ b ∈ H, b < W.heap.size ∧ b ∉ F ∧ b ∉ Fx)
  bel : Below w.heap.size w W
  hb : w.heap.size ≤ base
  hx : w.heap.size ≤ bx
  bb : base ≤ W.heap.size
  bxb : bx ≤ W.heap.size
theorem RdPost.up {w w' : World} {base g m m' : Nat} {F : List Nat} {s' : DS} {v : Value} {e : Ending} (h : RdPost w base F g m s' v e w') (hm : m ≤ m') : RdPost w base F g m' s' v e w' := by
  obtain ⟨h1, F', h2, h3⟩ := h
  exact ⟨h1, F', h2.up hm, h3⟩
theorem held_below {H : List Nat} {W W' : World} (hb : Below W.heap.size W W') : HeldW H W W' := ⟨[], Chg.of_below hb, fun _ _ => by simp⟩
section
variable {w W W' : World} {base bx g gx m m' : Nat} {H H' : List Nat} {s1 s2 s' : DS}
theorem HeldW.blk {t : TypeId} {cs : Array Value} {T : Nat} (h : HeldW H W W') (hb : Blk W T t cs) (hm : T ∈ H) : Blk W' T t cs := by
  obtain ⟨L, hc, hl⟩ := h
  exact hb.chg hc (hl T hm)
theorem HeldW.own {e : TypeId} {v : Value} {n bs : _} {k : Nat} (h : HeldW H W W') (ho : Own W k e v n bs) (hm : ∀ b, v.ownBlock = some b → b ∈ H) : Own W' k e v n bs := by
  obtain ⟨L, hc, hl⟩ := h
  exact ho.chg hc (fun b e => hl b (hm b e))
theorem HeldW.size (h : HeldW H W W') : W.heap.size ≤ W'.heap.size := by
  obtain ⟨L, hc, -⟩ := h
  exact hc.size
theorem HeldW.less (h : HeldW H W W') (hl : ∀ b ∈ H', b ∈ H) : HeldW H' W W' := by
  obtain ⟨L, hc, h2⟩ := h
  exact ⟨L, hc, fun b hb => h2 b (hl b hb)⟩
theorem DX.own (h : DX w base bx g gx m H s1 s2 W) {fn : FuncId} {args : Array Value} {v : Value}
    (hc : ∀ F, DevB W base F g s1 → (∀ b ∈ H, b ∉ F) → Calls Try.prog fn args W (DevPost W base F g s' v)) :
    Calls Try.prog fn args W fun e W' => e = .returned v ∧ DX w base bx g gx m H s' s2 W' ∧ HeldW H W W' := by
  obtain ⟨⟨F, Fx, hw, hr, hd, hh⟩, bel, hb, hx, bb, bxb⟩ := h
  refine (hc F hw (fun b hm => (hh b hm).2.1)).mono ?_
  rintro e W' ⟨he, F', hw', hc, hm⟩
  refine ⟨he, ⟨⟨F', Fx, hw', hr.chg hc hd, fun b hb1 hb2 => ?_, fun b hb' => ⟨Nat.lt_of_lt_of_le (hh b hb').1 hc.size, fun hb2 => ?_, (hh b hb').2.2⟩⟩, bel.trans (hc.below (fun b hb' => Nat.le_trans hb (hw.lt b hb').1) bel.size), hb, hx, Nat.le_trans bb hc.size, Nat.le_trans bxb hc.size⟩, F, hc, fun b hb' => (hh b hb').2.1⟩
  · rcases hm b hb2 with h1 | h1
    · exact hd b hb1 h1
    · have := (hr.lt b hb1).2; omega
  · rcases hm b hb2 with h1 | h1
    · exact (hh b hb').2.1 h1
    · have := (hh b hb').1; omega
theorem DX.ref (h : DX w base bx g gx m H s1 s2 W) {fn : FuncId} {args : Array Value} {v : Value}
    (hc : ∀ Fx, RdB W bx Fx gx m s2 → (∀ b ∈ H, b ∉ Fx) → Calls Try.prog fn args W (RdPost W bx Fx gx m' s' v)) :
    Calls Try.prog fn args W fun e W' => e = .returned v ∧ DX w base bx g gx m' H s1 s' W' ∧ HeldW H W W' := by
  obtain ⟨⟨F, Fx, hw, hr, hd, hh⟩, bel, hb, hx, bb, bxb⟩ := h
  refine (hc Fx hr (fun b hm => (hh b hm).2.2)).mono ?_
  rintro e W' ⟨he, Fx', hr', hc, hm⟩
  refine ⟨he, ⟨⟨F, Fx', hw.chg hc (fun b hb' hm' => hd b hm' hb'), hr', fun b hb1 hb2 => ?_, fun b hb' => ⟨Nat.lt_of_lt_of_le (hh b hb').1 hc.size, (hh b hb').2.1, fun hb2 => ?_⟩⟩, bel.trans (hc.below (fun b hb' => Nat.le_trans hx (hr.lt b hb').1) bel.size), hb, hx, Nat.le_trans bb hc.size, Nat.le_trans bxb hc.size⟩, Fx, hc, fun b hb' => (hh b hb').2.2⟩
  · rcases hm b hb1 with h1 | h1
    · exact hd b h1 hb2
    · have := (hw.lt b hb2).2; omega
  · rcases hm b hb2 with h1 | h1
    · exact (hh b hb').2.2 h1
    · have := (hh b hb').1; omega
theorem DX.keep (h : DX w base bx g gx m H s1 s2 W) (hB : Below W.heap.size W W') : DX w base bx g gx m H s1 s2 W' := by
  obtain ⟨⟨F, Fx, hw, hr, hd, hh⟩, bel, hb, hx, bb, bxb⟩ := h
  exact ⟨⟨F, Fx, hw.keep hB, hr.keep hB, hd, fun b hm => ⟨Nat.lt_of_lt_of_le (hh b hm).1 hB.size, (hh b hm).2⟩⟩, bel.trans (hB.mono bel.size), hb, hx, Nat.le_trans bb hB.size, Nat.le_trans bxb hB.size⟩
theorem DX.less (h : DX w base bx g gx m H s1 s2 W) (hl : ∀ b ∈ H', b ∈ H) : DX w base bx g gx m H' s1 s2 W := by
  obtain ⟨⟨F, Fx, hw, hr, hd, hh⟩, bel, hb, hx, bb, bxb⟩ := h
  exact ⟨⟨F, Fx, hw, hr, hd, fun b hm => hh b (hl b hm)⟩, bel, hb, hx, bb, bxb⟩
/-- new blocks are held -/
theorem DX.more (h : DX w base bx g gx m H s1 s2 W) (hB : Below W.heap.size W W') (hl : ∀ b ∈ H', b ∈ H ∨ (W.heap.size ≤ b ∧ b < W'.heap.size)) : DX w base bx g gx m H' s1 s2 W' := by
  obtain ⟨⟨F, Fx, hw, hr, hd, hh⟩, bel, hb, hx, bb, bxb⟩ := h
  refine ⟨⟨F, Fx, hw.keep hB, hr.keep hB, hd, fun b hm => ?_⟩, bel.trans (hB.mono bel.size), hb, hx, Nat.le_trans bb hB.size, Nat.le_trans bxb hB.size⟩
  rcases hl b hm with h1 | ⟨h1, h2⟩
  · exact ⟨Nat.lt_of_lt_of_le (hh b h1).1 hB.size, (hh b h1).2⟩
  · exact ⟨h2, fun hm' => by have := (hw.lt b hm').2; omega, fun hm' => by have := (hr.lt b hm').2; omega⟩
/-- a change of blocks that are held -/
theorem DX.high (h : DX w base bx g gx m H s1 s2 W) {L : List Nat} (hc : Chg L W W') (hl : ∀ b ∈ L, b ∈ H ∧ w.heap.size ≤ b) : DX w base bx g gx m H s1 s2 W' := by
  obtain ⟨⟨F, Fx, hw, hr, hd, hh⟩, bel, hb, hx, bb, bxb⟩ := h
  exact ⟨⟨F, Fx, hw.chg hc (fun b hm hm' => (hh b (hl b hm').1).2.1 hm), hr.chg hc (fun b hm hm' => (hh b (hl b hm').1).2.2 hm), hd, fun b hm => ⟨Nat.lt_of_lt_of_le (hh b hm).1 hc.size, (hh b hm).2⟩⟩, bel.trans (hc.below (fun b hm => (hl b hm).2) bel.size), hb, hx, Nat.le_trans bb hc.size, Nat.le_trans bxb hc.size⟩
end
end Go.Proofs.Ytiejndkchcljdaa
