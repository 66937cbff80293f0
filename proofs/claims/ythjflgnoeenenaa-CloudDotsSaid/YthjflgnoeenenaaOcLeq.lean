/- Contract of clouds: Leq. Written by tools/mkoc10.py. -/
import Derived.Test.YthjflgnoeenenaaOcTog
namespace Go.Proofs.Ythjflgnoeenenaa
open Go Go.RowKit Go.Shelf Cl
attribute [local go_sem] Oper.semAt_some vc_mkf

theorem load_errT (w : World) (ad : Addr) (v : Value) (h : w.cell? ad = some v) : (loadVar 33 ad).run Try.prog w = .ok v w := by
  have hagg : (isAgg 33).run Try.prog w = .ok false w := by
    unfold isAgg
    rw [Sem.run_bind, run_underlying Try.underlying33 w]
    simp
  simp [loadVar, Sem.run_bind, hagg, h]
theorem results_two {fn : Func} {p q : Tmp} (h : fn.results = #[.cell p 4, .cell q 33]) (tmps : Array Value) (w : World) (g1 g2 : Nat) (b : Bool) (z : Int) (hp : tmps.getD p undef = .pointer (some ⟨g1, 0, none⟩)) (hq : tmps.getD q undef = .pointer (some ⟨g2, 0, none⟩)) (h1 : w.cell? ⟨g1, 0, none⟩ = some (.bool b)) (h2 : w.cell? ⟨g2, 0, none⟩ = some (.int .i64 z)) :
    (results fn tmps).run Try.prog w = .ok (.tuple #[.bool b, .int .i64 z]) w := by
  have hp' : tmps[p]?.getD undef = .pointer (some ⟨g1, 0, none⟩) := by simpa using hp
  have hq' : tmps[q]?.getD undef = .pointer (some ⟨g2, 0, none⟩) := by simpa using hq
  simp [results, h, hp', hq', asAddr, load_boolT w _ _ h1, load_errT w _ _ h2]
/-- is a dot of both lists in the second cloud? -/
def okB (v2 : List Int) (it : Mi) : Bool := it.2.2 || hasV v2 it.1.1 it.1.2
theorem leq_all {a b : Cd} (ha : OKC a) (hb : OKC b) (hA : checkC a = 0) (hB : checkC b = 0) (h : ∀ it ∈ mrg a.2 b.2, okB b.1 it = true) : leqB a b = (leqV a.1 b.1, 0) := by
  obtain ⟨_, h2, h3⟩ := mrg_spec _ a.2 b.2 (Nat.le_refl _) ha.rg.2.2 hb.rg.2.2 ha.can.sorted hb.can.sorted
  have hin : ∀ d ∈ a.2, isC b d := fun d hd => by
    obtain ⟨it, hit, rfl⟩ := List.mem_map.1 ((h2 d).2 (.inl hd))
    have h4 := h it hit
    unfold okB at h4
    rw [h3 it hit, Bool.or_eq_true] at h4
    refine ⟨(ha.rg.2.2 _ hd).2.2.1, ?_⟩
    rcases h4 with h4 | h4
    · exact .inr (of_decide_eq_true h4)
    · rw [hasV_frs hb.rg.2.1 (ha.rg.2.2 _ hd).2.2.1] at h4
      exact .inl (of_decide_eq_true h4)
  cases hl : leqV a.1 b.1 with
  | true =>
    refine leqB_yes hA hB ⟨fun r hr1 _ n h5 h6 => ?_, hin⟩
    unfold leqV at hl
    rw [List.all_eq_true] at hl
    have h7 : frs a.1 r ≤ frs b.1 r := by
      by_cases h8 : (r - 1).toNat < max a.1.length b.1.length
      · have := of_decide_eq_true (hl (r - 1).toNat (List.mem_range.2 h8))
        have e1 := atV_frs ha.rg.2.1 r
        have e2 := atV_frs hb.rg.2.1 r
        rw [atV_at (by omega)] at e1 e2
        omega
      · rw [frs_far (v := a.1) (by omega)]
        exact hb.nonneg r
    omega
  | false =>
    unfold leqV at hl
    rw [List.all_eq_false] at hl
    obtain ⟨i, _, hi⟩ := hl
    have hi : nth b.1 i < nth a.1 i := by simpa using hi
    have e1 := atV_frs ha.rg.2.1 ((i : Int) + 1)
    have e2 := atV_frs hb.rg.2.1 ((i : Int) + 1)
    rw [atV_nat] at e1 e2
    have h0 := hb.nonneg ((i : Int) + 1)
    refine leqB_no hA hB (d := ((i : Int) + 1, frs b.1 ((i : Int) + 1) + 1)) ⟨by show 1 ≤ frs b.1 ((i : Int) + 1) + 1; omega, .inl (by show frs b.1 ((i : Int) + 1) + 1 ≤ frs a.1 ((i : Int) + 1); omega)⟩ ?_
    rintro ⟨_, h5 | h5⟩
    · have h5 : frs b.1 ((i : Int) + 1) + 1 ≤ frs b.1 ((i : Int) + 1) := h5
      omega
    · have := hb.can.gap _ h5
      have : frs b.1 ((i : Int) + 1) + 1 < frs b.1 ((i : Int) + 1) + 1 := this
      omega
theorem leq_one {a b : Cd} (ha : OKC a) (hb : OKC b) (hA : checkC a = 0) (hB : checkC b = 0) {it : Mi} (hit : it ∈ mrg a.2 b.2) (h : okB b.1 it = false) : leqB a b = (false, 0) := by
  obtain ⟨_, h2, h3⟩ := mrg_spec _ a.2 b.2 (Nat.le_refl _) ha.rg.2.2 hb.rg.2.2 ha.can.sorted hb.can.sorted
  unfold okB at h
  rw [h3 it hit, Bool.or_eq_false_iff] at h
  obtain ⟨h4, h5⟩ := h
  have h4 := of_decide_eq_false h4
  have hd := (h2 it.1).1 (List.mem_map.2 ⟨it, hit, rfl⟩)
  have hda : it.1 ∈ a.2 := hd.resolve_right h4
  have h1 := (ha.rg.2.2 _ hda).2.2.1
  rw [hasV_frs hb.rg.2.1 h1] at h5
  have h5 := of_decide_eq_false h5
  exact leqB_no hA hB (d := it.1) ⟨h1, .inr hda⟩ (fun k => k.2.elim h5 h4)
/-- the two iterators, and the merging one, in whatever order they were made -/
structure LqS (w5 : World) (n1 c1 n2 c2 : Nat) (B B2 : Option Addr) (la lb : List Dt) (f : Nat → Bool) (gh : Nat → Value) (W : World) : Prop where
  bel : Below w5.heap.size w5 W
  a : f 2 = true → ∃ x, gh 2 = srcV x ∧ w5.heap.size ≤ x ∧ Blk W x 23 #[.slice B n1 c1]
  b : f 5 = true → ∃ x, gh 5 = srcV x ∧ w5.heap.size ≤ x ∧ Blk W x 23 #[.slice B2 n2 c2]
  ne : f 2 = true → f 5 = true → gh 2 ≠ gh 5
  m : f 6 = true → ∃ q1 q2 xa xb, gh 6 = .func (.func 78) #[] #[.pointer (some ⟨q1, 0, none⟩), .pointer (some ⟨q2, 0, none⟩)] ∧ w5.heap.size ≤ q1 ∧ w5.heap.size ≤ q2 ∧ MgP w5.heap.size q1 q2 xa xb (Aof B n1) (Aof B2 n2) W.heap.size ∧ MgW q1 q2 xa xb (Aof B n1) (Aof B2 n2) la lb W
section
variable {w5 : World} {n1 c1 n2 c2 : Nat} {B B2 : Option Addr} {la lb : List Dt} {f : Nat → Bool} {gh : Nat → Value} {W W' : World}
theorem LqS.start (gh : Nat → Value) : LqS w5 n1 c1 n2 c2 B B2 la lb (fun j => decide (7 ≤ j)) gh w5.drew where
  bel := (Below.refl _ _).drew
  a := fun e => by simp at e
  b := fun e => by simp at e
  ne := fun e => by simp at e
  m := fun e => by simp at e
theorem LqS.same (h : LqS w5 n1 c1 n2 c2 B B2 la lb f gh W) (i : Nat) (v : Value) (k2 : 2 ≠ i) (k5 : 5 ≠ i) (k6 : 6 ≠ i) : LqS w5 n1 c1 n2 c2 B B2 la lb (upd f i) (updN gh i v) W where
  bel := h.bel
  a := fun e => by rw [un_ne k2] at e; rw [unN_ne k2]; exact h.a e
  b := fun e => by rw [un_ne k5] at e; rw [unN_ne k5]; exact h.b e
  ne := fun e e2 => by rw [un_ne k2] at e; rw [un_ne k5] at e2; rw [unN_ne k2, unN_ne k5]; exact h.ne e e2
  m := fun e => by rw [un_ne k6] at e; rw [unN_ne k6]; exact h.m e
theorem srcV_inj {x y : Nat} (h : srcV x = srcV y) : x = y := by
  unfold srcV at h
  injection h with _ _ h
  have := congrArg (fun a : Array Value => a[0]?) h
  simp at this
  exact this
theorem LqS.ea (h : LqS w5 n1 c1 n2 c2 B B2 la lb f gh W) (k6 : f 6 = false) : LqS w5 n1 c1 n2 c2 B B2 la lb (upd f 2) (updN gh 2 (srcV W.heap.size)) (W.alloc (.cells #[.slice B n1 c1] 23)) := by
  have hb := below_new W (.cells #[.slice B n1 c1] 23)
  exact {
    bel := h.bel.trans (hb.mono h.bel.size)
    a := fun _ => by rw [unN_eq]; exact ⟨_, rfl, h.bel.size, Blk.new _ _ _⟩
    b := fun e => by
      rw [un_ne (by decide)] at e
      rw [unN_ne (by decide)]
      obtain ⟨x, e1, e2, e3⟩ := h.b e
      exact ⟨x, e1, e2, e3.keep hb⟩
    ne := fun _ e => by
      rw [un_ne (by decide)] at e
      rw [unN_eq, unN_ne (by decide)]
      obtain ⟨x, e1, e2, e3⟩ := h.b e
      rw [e1]
      intro k
      have := srcV_inj k
      have := e3.lt
      omega
    m := fun e => by rw [un_ne (by decide), k6] at e; cases e }
theorem LqS.eb (h : LqS w5 n1 c1 n2 c2 B B2 la lb f gh W) (k6 : f 6 = false) : LqS w5 n1 c1 n2 c2 B B2 la lb (upd f 5) (updN gh 5 (srcV W.heap.size)) (W.alloc (.cells #[.slice B2 n2 c2] 23)) := by
  have hb := below_new W (.cells #[.slice B2 n2 c2] 23)
  exact {
    bel := h.bel.trans (hb.mono h.bel.size)
    b := fun _ => by rw [unN_eq]; exact ⟨_, rfl, h.bel.size, Blk.new _ _ _⟩
    a := fun e => by
      rw [un_ne (by decide)] at e
      rw [unN_ne (by decide)]
      obtain ⟨x, e1, e2, e3⟩ := h.a e
      exact ⟨x, e1, e2, e3.keep hb⟩
    ne := fun e _ => by
      rw [un_ne (by decide)] at e
      rw [unN_eq, unN_ne (by decide)]
      obtain ⟨x, e1, e2, e3⟩ := h.a e
      rw [e1]
      intro k
      have := srcV_inj k
      have := e3.lt
      omega
    m := fun e => by rw [un_ne (by decide), k6] at e; cases e }
theorem LqS.mrg (h : LqS w5 n1 c1 n2 c2 B B2 la lb f gh W) (e2 : f 2 = true) (e5 : f 5 = true) (hn1 : ND w5 B n1 la) (hn2 : ND w5 B2 n2 lb) (hc1 : n1 ≤ c1) (hc2 : n2 ≤ c2) : ∃ xa xb, gh 2 = srcV xa ∧ gh 5 = srcV xb ∧ LqS w5 n1 c1 n2 c2 B B2 la lb (upd f 6) (updN gh 6 (.func (.func 78) #[] #[.pointer (some ⟨W.heap.size, 0, none⟩), .pointer (some ⟨W.heap.size + 1, 0, none⟩)])) ((W.alloc (.cells #[srcV xa] 77)).alloc (.cells #[srcV xb] 77)) := by
  obtain ⟨xa, a1, a2, a3⟩ := h.a e2
  obtain ⟨xb, b1, b2, b3⟩ := h.b e5
  have hne := h.ne e2 e5
  rw [a1, b1] at hne
  have hxx : xa ≠ xb := fun e => hne (by rw [e])
  refine ⟨xa, xb, a1, b1, ?_⟩
  have hb1 := below_new W (.cells #[srcV xa] 77)
  have hk1 := Blk.new W 77 #[srcV xa]
  have hs1 := size_new W (.cells #[srcV xa] 77)
  obtain ⟨W1, hW1⟩ : ∃ W1, W.alloc (.cells #[srcV xa] 77) = W1 := ⟨_, rfl⟩
  rw [hW1] at hb1 hk1 hs1 ⊢
  have hb2 := below_new W1 (.cells #[srcV xb] 77)
  have hk2 := Blk.new W1 77 #[srcV xb]
  have hs2 := size_new W1 (.cells #[srcV xb] 77)
  have hbb := hb1.trans (hb2.mono hb1.size)
  have hbl := h.bel.trans (hbb.mono h.bel.size)
  have l1 := hn1.1; have l2 := hn2.1
  have al := a3.lt; have bl := b3.lt
  have hsz := h.bel.size
  exact {
    bel := hbl
    a := fun e => by rw [unN_ne (by decide)]; exact ⟨xa, a1, a2, a3.keep hbb⟩
    b := fun e => by rw [unN_ne (by decide)]; exact ⟨xb, b1, b2, b3.keep hbb⟩
    ne := fun _ _ => by rw [unN_ne (by decide), unN_ne (by decide), a1, b1]; exact hne
    m := fun _ => by
      rw [unN_eq]
      refine ⟨W.heap.size, W.heap.size + 1, xa, xb, rfl, hsz, by omega, ⟨hxx, a2, b2, by omega, ⟨by omega, by omega, by omega⟩, ⟨by omega, by omega, by omega⟩, by omega, by omega, fun b hb => ?_, fun b hb => ?_⟩, ⟨hk1.keep hb2, ?_, ?_, ?_⟩⟩
      · have := nd_lt hn1 hb; omega
      · have := nd_lt hn2 hb; omega
      · rw [← hs1]; exact hk2
      · exact ⟨B, c1, by rw [l1]; exact a3.keep hbb, by omega, by rw [l1]; exact hn1.keep hbl, fun b off e0 hn => ⟨off, e0, by omega⟩⟩
      · exact ⟨B2, c2, by rw [l2]; exact b3.keep hbb, by omega, by rw [l2]; exact hn2.keep hbl, fun b off e0 hn => ⟨off, e0, by omega⟩⟩ }
end
theorem KpC.of_below {C : Nat → Prop} {A B : World} (h : Below A.heap.size A B) (hl : ∀ b, C b → b < A.heap.size) : KpC C C A B := ⟨h.size, fun b h1 _ => h.block b h1, fun _ hb => .inl hb, fun b hb => Nat.lt_of_lt_of_le (hl b hb) h.size⟩
structure TwoSet (w W W' : World) (L4 L5 : Nat) (y4 y5 : Value) : Prop where
  k4 : Blk W' L4 4 #[y4]
  k5 : Blk W' L5 33 #[y5]
  bel : Below w.heap.size w W'
  other : ∀ b, b < W.heap.size → b ≠ L4 → b ≠ L5 → W'.heap[b]? = W.heap[b]?
  size : W'.heap.size = W.heap.size
theorem two_set {w W : World} {L4 L5 : Nat} {x4 x5 : Value} (y4 y5 : Value) (h4 : Blk W L4 4 #[x4]) (h5 : Blk W L5 33 #[x5]) (hl : L4 ≠ L5) (hb : Below w.heap.size w W) (g4 : w.heap.size ≤ L4) (g5 : w.heap.size ≤ L5) : TwoSet w W ((W.setCell ⟨L4, 0, none⟩ y4).setCell ⟨L5, 0, none⟩ y5) L4 L5 y4 y5 := by
  have s4 : Blk (W.setCell ⟨L4, 0, none⟩ y4) L4 4 #[y4] := by have := h4.set_ 0 y4; simpa using this
  have f5 : Blk (W.setCell ⟨L4, 0, none⟩ y4) L5 33 #[x5] := h5.far (p := ⟨L4, 0, none⟩) (fun e => hl e.symm) y4
  have f4 : Blk ((W.setCell ⟨L4, 0, none⟩ y4).setCell ⟨L5, 0, none⟩ y5) L4 4 #[y4] := s4.far (p := ⟨L5, 0, none⟩) (fun e => hl e) y5
  have s5 : Blk ((W.setCell ⟨L4, 0, none⟩ y4).setCell ⟨L5, 0, none⟩ y5) L5 33 #[y5] := by have := f5.set_ 0 y5; simpa using this
  have hg1 := grown_setCell W L4 0 y4
  have hg2 := grown_setCell (W.setCell ⟨L4, 0, none⟩ y4) L5 0 y5
  refine ⟨f4, s5, (hb.setCell (p := ⟨L4, 0, none⟩) g4 y4).setCell (p := ⟨L5, 0, none⟩) g5 y5, fun b h1 n4 n5 => ?_, by simp⟩
  exact (hg2.block b (by simpa using h1) (fun e => n5 (by cases e; rfl))).trans (hg1.block b h1 (fun e => n4 (by cases e; rfl)))
theorem done_two (w W : World) (D L4 L5 : Nat) (b : Bool) (z : Int) (h4 : Blk W L4 4 #[.bool b]) (h5 : Blk W L5 33 #[.int .i64 z]) (hb : Below w.heap.size w W) (n4 : D ≠ L4) (n5 : D ≠ L5) (hD : w.heap.size ≤ D) : Blk (W.putObj D (.deferred none)) L4 4 #[.bool b] ∧ Blk (W.putObj D (.deferred none)) L5 33 #[.int .i64 z] ∧ Below w.heap.size w (W.putObj D (.deferred none)) :=
  ⟨(World.putObj_heap_other (fun e => n4 e.symm)).trans h4, (World.putObj_heap_other (fun e => n5 e.symm)).trans h5, below_putObj hb hD hb.size _⟩
def vLq (B : Option Addr) (m : Nat) (e : Nat) (p : Nat) (p2 : Nat) (B2 : Option Addr) (m2 : Nat) (e2 : Nat) : Nat → Value → Value
  | 0, _ => .pointer (some ⟨p, 1, none⟩)
  | 1, _ => .slice B m e
  | 2, k => k
  | 3, _ => .pointer (some ⟨p2, 1, none⟩)
  | 4, _ => .slice B2 m2 e2
  | 5, k => k
  | 6, k => k
  | _, _ => undef
structure LqJ (w5 : World) (L4 L5 : Nat) (v2 : List Int) (C : Nat → Prop) (pre : List Mi) (W : World) : Prop where
  own : C = fun b => b = L4 ∨ b = L5
  bel : Below w5.heap.size w5 W
  all : ∀ it ∈ pre, okB v2 it = true
structure LqY (w : World) (L4 L5 : Nat) (v2 : List Int) (C : Nat → Prop) (pre : List Mi) (W : World) : Prop where
  own : C L4 ∧ C L5
  bel : Below w.heap.size w W
  b4 : Blk W L4 4 #[.bool false]
  b5 : Blk W L5 33 #[.int .i64 0]
  bad : ∃ it ∈ pre, okB v2 it = false
theorem LqJ.move {w5 : World} {L4 L5 : Nat} {v2 : List Int} (C : Nat → Prop) (pre : List Mi) (A B : World) (h : LqJ w5 L4 L5 v2 C pre A) (k : MvC w5.heap.size C A B) : LqJ w5 L4 L5 v2 C pre B := ⟨h.own, k.below h.bel (Nat.le_refl _) h.bel.size, h.all⟩
theorem LqY.move {w : World} {base L4 L5 : Nat} {v2 : List Int} (hb : w.heap.size ≤ base) (C : Nat → Prop) (pre : List Mi) (A B : World) (h : LqY w L4 L5 v2 C pre A) (k : MvC base C A B) : LqY w L4 L5 v2 C pre B := ⟨h.own, k.below h.bel hb h.bel.size, (k.block _ h.b4.lt (.inl h.own.1)).trans h.b4, (k.block _ h.b5.lt (.inl h.own.2)).trans h.b5, h.bad⟩
set_option maxRecDepth 100000 in
set_option maxHeartbeats 8000000 in
theorem ocLeq_calls (n c m e n2 c2 m2 e2 : Nat) (A B A2 B2 : Option Addr) (v v2 : List Int) (ds ds2 : List Dt) (w : World) (h1 : NI w A n v) (h2 : ND w B m ds) (h3 : NI w A2 n2 v2) (h4 : ND w B2 m2 ds2) (hn : n ≤ 1000000) (hn2 : n2 ≤ 1000000) (hm : m + m2 ≤ 900000) (hnc : n ≤ c) (hnc2 : n2 ≤ c2) (hme : m ≤ e) (hme2 : m2 ≤ e2) :
    Calls Try.prog 29 #[cdv A n c B m e, cdv A2 n2 c2 B2 m2 e2] w fun x w' => x = .returned (.tuple #[.bool (leqB (v, ds) (v2, ds2)).1, .int .i64 (leqB (v, ds) (v2, ds2)).2]) ∧ Below w.heap.size w w' := by
  have hzd := (zero_of_info info_dot0).1
  have hzs := (zero_of_info info_sides).1
  obtain ⟨w1, hw1, k1, k2, hb⟩ := two_clouds w #[.slice A n c, .slice B m e] #[.slice A2 n2 c2, .slice B2 m2 e2]
  have hs1 : w1.heap.size = w.heap.size + 2 := by rw [hw1]; simp
  have b3 := below_new w1 (.cells #[.bool false] 4)
  have k3 := Blk.new w1 4 #[.bool false]
  have s3 := size_new w1 (.cells #[.bool false] 4)
  obtain ⟨w3, hw3⟩ : ∃ w3, w1.alloc (.cells #[.bool false] 4) = w3 := ⟨_, rfl⟩
  rw [hw3] at b3 k3 s3
  have b4 := below_new w3 (.cells #[.int .i64 0] 33)
  have k4 := Blk.new w3 33 #[.int .i64 0]
  obtain ⟨w4, hw4⟩ : ∃ w4, w3.alloc (.cells #[.int .i64 0] 33) = w4 := ⟨_, rfl⟩
  rw [hw4] at b4 k4
  obtain ⟨p, hp⟩ : ∃ p, w.heap.size = p := ⟨_, rfl⟩
  obtain ⟨p2, hp2⟩ : ∃ p2, p + 1 = p2 := ⟨_, rfl⟩
  obtain ⟨L4, hL4⟩ : ∃ L4, p2 + 1 = L4 := ⟨_, rfl⟩
  obtain ⟨L5, hL5⟩ : ∃ L5, L4 + 1 = L5 := ⟨_, rfl⟩
  rw [hp] at k1 k2
  rw [hp2] at k2
  rw [show w1.heap.size = L4 by omega] at k3
  rw [show w3.heap.size = L5 by omega] at k4
  have bb := hb.trans ((b3.trans (b4.mono b3.size)).mono hb.size)
  have HW1 := hid hw1; have HW3 := hid hw3; have HW4 := hid hw4; have HB := hid bb; have HPP := hid hp; have HPP2 := hid hp2; have HL4 := hid hL4; have HL5 := hid hL5
  have HC := hid (ocBoth_calls n c m e n2 c2 m2 e2 A B A2 B2 v v2 ds ds2 w4 (h1.keep bb) (h2.keep bb) (h3.keep bb) (h4.keep bb) hn (by omega) hn2 (by omega) hnc hnc2)
  have K1 := hid ((k1.keep b3).keep b4); have K2 := hid ((k2.keep b3).keep b4); have K3 := hid (k3.keep b4); have K4 := hid k4
  have H1 := hid (h1.keep bb); have H2 := hid (h2.keep bb); have H3 := hid (h3.keep bb); have H4 := hid (h4.keep bb)
  have M2 := hid h2; have M4 := hid h4
  obtain ⟨ck, hck⟩ : ∃ ck, bothC (v, ds) (v2, ds2) = ck := ⟨_, rfl⟩
  rw [hck] at HC
  have HCK := hid hck
  have HEG := hid (enters_of Try.func78 (by kernel_rfl) rfl)
  have c0 := K1.out.cell 0 rfl; have c1 := K1.out.cell 1 rfl; have c3 := K2.out.cell 0 rfl; have c4 := K2.out.cell 1 rfl
  have L2 := hid h2.1; have L4' := hid h4.1
  clear h1 h2 h3 h4 hw1 hw3 hw4 hb b3 b4 bb hp hp2 hL4 hL5 k1 k2 k3 k4 hck hs1 s3
  unfold cdv at HC
  show Calls Try.prog 29 #[.agg #[.slice A n c, .slice B m e], .agg #[.slice A2 n2 c2, .slice B2 m2 e2]] w _
  refine (callsIn_wide (n := 3)).1 (callsIn_of_wp_marks Try.func29 rfl trivial (wpIn_wide.2 ?_))
  simp only [Try.ntmps29, List.size_toArray, List.length_cons, List.length_nil, Nat.reduceAdd, Nat.reduceSub, Array.replicate_succ, Array.replicate_zero, List.push_toArray, List.append_toArray, List.nil_append, List.cons_append]
  go_wp2_with fail
  rw [← HW1.out, HW3.out, HW4.out, HPP.out, HPP2.out, HL4.out, HL5.out]
  go_wp2_with fail
  refine HC.out.mono ?_
  rintro x W5 ⟨rfl, hb5⟩
  have HB5 := hid (HB.out.trans (hb5.mono HB.out.size))
  have KA := hid (K1.out.keep hb5); have KB := hid (K2.out.keep hb5); have KQ := hid (K3.out.keep hb5); have KR := hid (K4.out.keep hb5)
  have HA1 := hid (H1.out.keep hb5); have HA2 := hid (H2.out.keep hb5); have HA3 := hid (H3.out.keep hb5); have HA4 := hid (H4.out.keep hb5)
  clear hb5 c0 c1 c3 c4 HC
  by_cases h0 : ck = 0
  · have hcc := (both_iff (v, ds) (v2, ds2)).1 (HCK.out.trans h0)
    have HC1 := hid hcc.1; have HC2 := hid hcc.2
    have HOK1 := hid (check_ok hcc.1); have HOK2 := hid (check_ok hcc.2)
    subst h0
    clear hcc HCK
    go_wp2_with fail
    refine wp_region_invG 39 (.pointer none) (vLq B m e p p2 B2 m2 e2) (LqS W5 m e m2 e2 B B2 ds ds2) (by kernel_rfl) (by kernel_rfl) (by exact Nat.le_refl 39) ?_ ?_ ?_
    · exact LqS.start _
    · intro i o f gh a W hi hf hdep hsame hcl hval hS
      rcases i with _ | _ | _ | _ | _ | _ | _ | i
      all_goals simp only [List.getElem?_cons_succ, List.getElem?_cons_zero, List.getElem?_nil, Option.some.injEq, reduceCtorEq] at hi
      all_goals subst hi
      · have E2 : a.tmps[2]? = some (.pointer (some ⟨p, 0, none⟩)) := (same_of hsame 2 (by rfl)).trans rfl
        refine g_plain rfl ?_
        exact does_value (w' := W) (v := .pointer (some ⟨p, 1, none⟩)) (by go_simp) ⟨(.pointer none), .inr rfl, hS.same 0 _ (by decide) (by decide) (by decide)⟩
      · have E15 := hval 0 _ 15 rfl rfl (dep_of hdep 0 (by rfl))
        unfold vLq at E15
        have ka := KA.out.keep hS.bel
        have kb := KB.out.keep hS.bel
        have t1 := ka.cell 1 rfl
        have t3 := kb.cell 1 rfl
        refine g_plain rfl ?_
        exact does_value (w' := W) (v := .slice B m e) (by go_simp) ⟨(.pointer none), .inr rfl, hS.same 1 _ (by decide) (by decide) (by decide)⟩
      · have E16 := hval 1 _ 16 rfl rfl (dep_of hdep 1 (by rfl))
        unfold vLq at E16
        refine g_plain rfl ?_
        have n6 := not_yet hcl hf 6 (by rfl)
        refine does_call 59 #[.slice B m e] (by go_simp) ((ocEach_calls m e B W).mono ?_)
        rintro _ W' ⟨rfl, rfl⟩
        exact ⟨_, rfl, _, .inr rfl, hS.ea n6⟩
      · have E3 : a.tmps[3]? = some (.pointer (some ⟨p2, 0, none⟩)) := (same_of hsame 3 (by rfl)).trans rfl
        refine g_plain rfl ?_
        exact does_value (w' := W) (v := .pointer (some ⟨p2, 1, none⟩)) (by go_simp) ⟨(.pointer none), .inr rfl, hS.same 3 _ (by decide) (by decide) (by decide)⟩
      · have E18 := hval 3 _ 18 rfl rfl (dep_of hdep 3 (by rfl))
        unfold vLq at E18
        have ka := KA.out.keep hS.bel
        have kb := KB.out.keep hS.bel
        have t1 := ka.cell 1 rfl
        have t3 := kb.cell 1 rfl
        refine g_plain rfl ?_
        exact does_value (w' := W) (v := .slice B2 m2 e2) (by go_simp) ⟨(.pointer none), .inr rfl, hS.same 4 _ (by decide) (by decide) (by decide)⟩
      · have E19 := hval 4 _ 19 rfl rfl (dep_of hdep 4 (by rfl))
        unfold vLq at E19
        refine g_plain rfl ?_
        have n6 := not_yet hcl hf 6 (by rfl)
        refine does_call 59 #[.slice B2 m2 e2] (by go_simp) ((ocEach_calls m2 e2 B2 W).mono ?_)
        rintro _ W' ⟨rfl, rfl⟩
        exact ⟨_, rfl, _, .inr rfl, hS.eb n6⟩
      · have E17 := hval 2 _ 17 rfl rfl (dep_of hdep 2 (by rfl))
        have E20 := hval 5 _ 20 rfl rfl (dep_of hdep 5 (by rfl))
        unfold vLq at E17 E20
        refine g_plain rfl ?_
        obtain ⟨xa, xb, ea, eb, hS'⟩ := hS.mrg (dep_of hdep 2 (by rfl)) (dep_of hdep 5 (by rfl)) HA2.out HA4.out hme hme2
        rw [ea] at E17
        rw [eb] at E20
        unfold srcV at E17 E20
        refine does_call 58 #[srcV xa, srcV xb] (by unfold srcV; go_simp) ((ocMerge_calls _ _ _ _ W).mono ?_)
        rintro _ W' ⟨rfl, rfl⟩
        exact ⟨_, rfl, _, .inr rfl, hS'⟩
    · intro gh W6 hS
      obtain ⟨q1, q2, xa, xb, e6, hq1, hq2, hp, hw⟩ := hS.m rfl
      have HP := hid hp; have HQ := hid (⟨hq1, hq2⟩ : W5.heap.size ≤ q1 ∧ W5.heap.size ≤ q2)
      have HSQ := hid (ocMrg_seq 2 W5.heap.size q1 q2 xa xb _ _ ds ds2 W6 hp hw HOK1.out.rg.2.2 HOK2.out.rg.2.2 (by have := L2.out; omega) (by have := L4'.out; omega))
      have HB6 := hid hS.bel
      clear hS hp hw hq1 hq2
      simp only [putAll, vLq, Nat.reduceAdd, Nat.zero_add, Act.put, List.setIfInBounds_toArray, List.set_cons_zero, List.set_cons_succ]
      generalize gh 2 = g2; generalize gh 5 = g5
      generalize gh 6 = g6 at e6 ⊢
      subst e6
      go_wp2_with fail
      have hlt : L4 ≠ L5 := by have := HL5.out; omega
      have hw4 : w.heap.size ≤ L4 := by have := HPP.out; have := HPP2.out; have := HL4.out; omega
      have hw5 : w.heap.size ≤ L5 := by have := HL5.out; omega
      have l45 : L4 < W5.heap.size ∧ L5 < W5.heap.size := ⟨KQ.out.lt, KR.out.lt⟩
      have HG := hid (show ∀ b, mgG q1 q2 xa xb (Aof B m) (Aof B2 m2) b → b < W6.heap.size ∧ b ≠ L4 ∧ b ≠ L5 from fun b hb => by
        have h5 := HQ.out
        have h6 := HP.out
        have h7 := HPP.out; have h8 := HPP2.out; have h9 := HL4.out; have h10 := HL5.out
        refine ⟨mg_low HP.out hb, ?_⟩
        rcases hb with rfl | rfl | rfl | rfl | hb | hb
        · omega
        · omega
        · have := h6.b1; omega
        · have := h6.b2; omega
        · have := nd_lt M2.out hb; omega
        · have := nd_lt M4.out hb; omega)
      have HBW := hid (HB5.out.trans (HB6.out.mono HB5.out.size))
      have HJ0 : LqJ W5 L4 L5 v2 (fun b => b = L4 ∨ b = L5) [] W6 := ⟨rfl, HB6.out, fun it h => by cases h⟩
      have hs56 := HB6.out.size
      refine wpIn_wide.1 (rangeC (n := 3) (P := Try.prog) (encs := mEnc) rfl HEG.out HSQ.out (Below.refl _ _) hs56 (fun b hb => (HG.out b hb).1) (fun _ => rfl) (LqJ W5 L4 L5 v2) (LqY w L4 L5 v2) LqJ.move (LqY.move HB5.out.size) (fun b => b = L4 ∨ b = L5) (fun b hb => ⟨fun h => by have := (HG.out b h).2; omega, by omega⟩) HJ0
        (fun it a' W => ∃ g s, a' = { tmps := #[.agg #[.slice A n c, .slice B m e], .agg #[.slice A2 n2 c2, .slice B2 m2 e2], .pointer (some ⟨p, 0, none⟩), .pointer (some ⟨p2, 0, none⟩), .pointer (some ⟨L4, 0, none⟩), .pointer (some ⟨L5, 0, none⟩), .int .i64 0, .pointer (some ⟨g, 0, none⟩), .pointer (some ⟨s, 0, none⟩), .agg #[.slice A n c, .slice B m e], .agg #[.slice A2 n2 c2, .slice B2 m2 e2], .int .i64 0, .int .i64 0, .bool false, undef, .pointer (some ⟨p, 1, none⟩), .slice B m e, g2, .pointer (some ⟨p2, 1, none⟩), .slice B2 m2 e2, g5, .func (.func 78) #[] #[.pointer (some ⟨q1, 0, none⟩), .pointer (some ⟨q2, 0, none⟩)], dvv it.1, .agg #[.bool it.2.1, .bool it.2.2], undef, undef, undef, undef, undef, undef, undef, undef, undef, undef, undef, undef, undef, undef, undef], defers := [] } ∧ Blk W g 27 (dcell it.1) ∧ Blk W s 80 #[.bool it.2.1, .bool it.2.2]) ?ax ?assign ?body ?done ?stop)
      case ax =>
        rintro x a' W o' hlt2 ⟨r, hr⟩ ⟨g, s, he, hg, hs⟩
        refine ⟨g, s, he, (World.putObj_heap_other (fun e => ?_)).trans hg, (World.putObj_heap_other (fun e => ?_)).trans hs⟩
        · have hg2 : W.heap[g]? = some (.cells (dcell x.1) 27 (0, 0)) := hg
          rw [e, hr] at hg2
          cases hg2
        · have hg2 : W.heap[s]? = some (.cells #[.bool x.2.1, .bool x.2.2] 80 (0, 0)) := hs
          rw [e, hr] at hg2
          cases hg2
      case assign =>
        intro l x W K hK
        have hb1 := below_new W (.cells (dcell x.1) 27)
        have hb2 := below_new (W.alloc (.cells (dcell x.1) 27)) (.cells #[.bool x.2.1, .bool x.2.2] 80)
        have hz := size_new W (.cells (dcell x.1) 27)
        have hk2 := Blk.new (W.alloc (.cells (dcell x.1) 27)) 80 #[.bool x.2.1, .bool x.2.2]
        rw [hz] at hk2
        have HKK := hid (hK _ _ (hb1.trans (hb2.mono hb1.size)) ⟨W.heap.size, W.heap.size + 1, rfl, (Blk.new W 27 (dcell x.1)).keep hb2, hk2⟩)
        clear hK hb1 hb2 hz hk2 HSQ HG HP HQ HJ0
        unfold mEnc dvv
        gi_wp2
        have h := HKK.out
        unfold dvv dcell at h
        simpa using h
      case body =>
        rintro l C pre x post a' W hit hI ⟨g, s, rfl, hg, hs⟩ hlo _
        obtain ⟨rfl, hbl, hall⟩ := hI
        have HBL := hid hbl; have HALL := hid hall; have HLO := hid hlo
        have HBWW := hid (HB5.out.trans (hbl.mono HB5.out.size))
        have HIT := hid hit
        have k2 := KB.out.keep hbl
        have c3 := k2.cell 0 rfl; have c4 := k2.cell 1 rfl
        have s1 : W.cell? ⟨s, 1, none⟩ = some (.bool x.2.2) := hs.cell 1 rfl
        have d0 : W.cell? ⟨g, 0, none⟩ = some (.int .i64 x.1.1) := hg.cell 0 rfl
        have d1 : W.cell? ⟨g, 1, none⟩ = some (.int .i64 x.1.2) := hg.cell 1 rfl
        have HHC := hid (vHas_calls n2 c2 A2 v2 x.1.1 x.1.2 W (HA3.out.keep hbl) (by omega))
        have HS4 := hid (KQ.out.keep hbl); have HS5 := hid (KR.out.keep hbl)
        clear hg hs hlo hbl hall hit HSQ HG HP HQ HJ0 k2
        obtain ⟨⟨xr, xn⟩, xi, xs⟩ := x
        cases xs with
        | true =>
          have HEnd := hid (show ∃ C', KpC (fun b => b = L4 ∨ b = L5) C' W W ∧ LqJ W5 L4 L5 v2 C' (pre ++ [((xr, xn), xi, true)]) W from ⟨_, KpC.of_below (Below.refl _ _) HLO.out, rfl, HBL.out, fun it hi => by
            rcases List.mem_append.1 hi with hi | hi
            · exact HALL.out it hi
            · rw [List.mem_singleton.1 hi]; rfl⟩)
          clear HALL
          gi_wp2
          refine ⟨trivial, ?_⟩
          gi_wp2
          exact HEnd.out
        | false =>
          gi_wp2
          refine ⟨trivial, callsIn_any (l2 := l) (.inr rfl) (HHC.out.mono ?_)⟩
          rintro e W2 ⟨rfl, hb2⟩
          have hsz := hb2.size
          cases hh : hasV v2 xr xn with
          | true =>
            have HEnd := hid (show ∃ C', KpC (fun b => b = L4 ∨ b = L5) C' W W2 ∧ LqJ W5 L4 L5 v2 C' (pre ++ [((xr, xn), xi, false)]) W2 from ⟨_, KpC.of_below hb2 HLO.out, rfl, HBL.out.trans (hb2.mono HBL.out.size), fun it hi => by
              rcases List.mem_append.1 hi with hi | hi
              · exact HALL.out it hi
              · rw [List.mem_singleton.1 hi]; show (false || hasV v2 xr xn) = true; rw [hh]; rfl⟩)
            clear HALL hb2 hh
            gi_wp2
            exact HEnd.out
          | false =>
            have HTS := hid (two_set (w := w) (.bool false) (.int .i64 0) (HS4.out.keep hb2) (HS5.out.keep hb2) (by have := HL5.out; omega) (HBWW.out.trans (hb2.mono HBWW.out.size)) (by have := HPP.out; have := HPP2.out; have := HL4.out; omega) (by have := HPP.out; have := HPP2.out; have := HL4.out; have := HL5.out; omega))
            have HEnd := hid (show ∃ C', KpC (fun b => b = L4 ∨ b = L5) C' W ((W2.setCell ⟨L4, 0, none⟩ (.bool false)).setCell ⟨L5, 0, none⟩ (.int .i64 0)) ∧ LqY w L4 L5 v2 C' (pre ++ [((xr, xn), xi, false)]) ((W2.setCell ⟨L4, 0, none⟩ (.bool false)).setCell ⟨L5, 0, none⟩ (.int .i64 0)) from by
              have hs2 := HTS.out.size
              refine ⟨fun b => b = L4 ∨ b = L5, ⟨by omega, fun b h1 hn => ?_, fun b hb => .inl hb, fun b hb => ?_⟩, ⟨.inl rfl, .inr rfl⟩, HTS.out.bel, HTS.out.k4, HTS.out.k5, _, List.mem_append.2 (.inr (List.mem_singleton.2 rfl)), ?_⟩
              · exact (HTS.out.other b (by omega) (fun e => hn (.inl e)) (fun e => hn (.inr e))).trans (hb2.block b h1)
              · have := HLO.out b hb; omega
              · show (false || hasV v2 xr xn) = false; rw [hh]; rfl)
            have k4 := HS4.out.keep hb2
            have g4 : W2.cell? ⟨L4, 0, none⟩ = some (.bool false) := k4.cell 0 rfl
            have f4 := k4.frozen 0
            have k5 := (HS5.out.keep hb2).far (p := ⟨L4, 0, none⟩) (fun e => hlt e.symm) (.bool false)
            have g5 : (W2.setCell ⟨L4, 0, none⟩ (.bool false)).cell? ⟨L5, 0, none⟩ = some (.int .i64 0) := k5.cell 0 rfl
            have f5 := k5.frozen 0
            clear HALL hb2 hh k4 k5 HTS hlt
            gi_wp2
            exact HEnd.out
      case done =>
        intro D C W hI hK hD
        obtain ⟨rfl, hbl, hall⟩ := hI
        have HBWW := hid (HB5.out.trans (hbl.mono HB5.out.size))
        have HN1 := hid (HA1.out.keep hbl); have HN2 := hid (HA3.out.keep hbl)
        have k1 := KA.out.keep hbl; have k2 := KB.out.keep hbl
        have c0 := k1.cell 0 rfl; have c1 := k1.cell 1 rfl; have c3 := k2.cell 0 rfl; have c4 := k2.cell 1 rfl
        have HLQ := hid (leq_calls n c n2 c2 A A2 v v2 W (HA1.out.keep hbl) (HA3.out.keep hbl) hn hn2)
        have HS4 := hid (KQ.out.keep hbl); have HS5 := hid (KR.out.keep hbl)
        have HE := hid (leq_all HOK1.out HOK2.out HC1.out HC2.out hall)
        have HK2 := hid hK; have HD := hid hD
        clear hbl hall hK k1 k2 HSQ HG HP HQ HJ0
        go_wp2_with fail
        refine HLQ.out.mono ?_
        rintro x W7 ⟨rfl, hb7⟩
        have h7 := HBWW.out.trans (hb7.mono HBWW.out.size)
        have k4 := HS4.out.keep hb7; have k5 := HS5.out.keep hb7
        have HTS := hid (two_set (w := w) (.bool (leqV v v2)) (.int .i64 0) k4 k5 (by have := HL5.out; omega) h7 (by have := HPP.out; have := HPP2.out; have := HL4.out; omega) (by have := HPP.out; have := HPP2.out; have := HL4.out; have := HL5.out; omega))
        have g4 : W7.cell? ⟨L4, 0, none⟩ = some (.bool false) := k4.cell 0 rfl
        have f4 := k4.frozen 0
        have k6 := k5.far (p := ⟨L4, 0, none⟩) (fun e => hlt e.symm) (.bool (leqV v v2))
        have g5 : (W7.setCell ⟨L4, 0, none⟩ (.bool (leqV v v2))).cell? ⟨L5, 0, none⟩ = some (.int .i64 0) := k6.cell 0 rfl
        have f5 := k6.frozen 0
        have hz : W.heap.size ≤ W7.heap.size := hb7.size
        have hD7 : W7.heap[D]? = some (.deferred (some [])) := (hb7.block D (Array.getElem?_eq_some_iff.1 HK2.out).1).trans HK2.out
        have HKD := hid (show ((W7.setCell ⟨L4, 0, none⟩ (.bool (leqV v v2))).setCell ⟨L5, 0, none⟩ (.int .i64 0)).heap[D]? = some (.deferred (some [])) from (HTS.out.other D (Array.getElem?_eq_some_iff.1 hD7).1 (by have := HD.out; omega) (by have := HD.out; omega)).trans hD7)
        have HEnd := hid (done_two w ((W7.setCell ⟨L4, 0, none⟩ (.bool (leqV v v2))).setCell ⟨L5, 0, none⟩ (.int .i64 0)) D L4 L5 (leqV v v2) 0 HTS.out.k4 HTS.out.k5 HTS.out.bel (by have := HD.out; omega) (by have := HD.out; omega) (by have := HD.out; have := HBW.out.size; omega))
        clear hb7 h7 k4 k5 k6 HTS hD7
        go_wp2_with fail
        refine ⟨by simp, .inl ⟨_, _, rfl, run_takeDeferred HKD.out, ?_⟩⟩
        refine ⟨_, results_two rfl _ _ L4 L5 _ _ rfl rfl (HEnd.out.1.cell 0 rfl) (HEnd.out.2.1.cell 0 rfl), ?_⟩
        exact ⟨by rw [HE.out], HEnd.out.2.2⟩
      case stop =>
        rintro D C pre x post W hit ⟨hown, hbl, h4, h5, it, hi, hib⟩ hK hD
        have HE := hid (leq_one HOK1.out HOK2.out HC1.out HC2.out (it := it) (by
          rw [hit]
          rcases List.mem_append.1 hi with hi | hi
          · exact List.mem_append.2 (.inl hi)
          · exact List.mem_append.2 (.inr (by rw [List.mem_singleton.1 hi]; exact List.mem_cons_self ..))) hib)
        have HEnd := hid (done_two w W D L4 L5 false 0 h4 h5 hbl (by omega) (by omega) (by have := HBW.out.size; omega))
        have HK2 := hid hK
        clear hK hbl h4 h5 hi hib HSQ HG HP HQ HJ0
        refine wpIn_wide.2 ?_
        go_wp2_with fail
        refine ⟨by simp, .inl ⟨_, _, rfl, run_takeDeferred HK2.out, ?_⟩⟩
        refine ⟨_, results_two rfl _ _ L4 L5 _ _ rfl rfl (HEnd.out.1.cell 0 rfl) (HEnd.out.2.1.cell 0 rfl), ?_⟩
        exact ⟨by rw [HE.out], HEnd.out.2.2⟩
  · have HE := hid (show leqB (v, ds) (v2, ds2) = (false, ck) from by rw [leqB_bad (by rw [HCK.out]; exact h0), HCK.out])
    have hcb : (ck == 0) = false := by simpa using h0
    have hlt : L4 ≠ L5 := by have := HL5.out; omega
    have k5 := KR.out.far (p := ⟨L4, 0, none⟩) (fun e => hlt e.symm) (.bool false)
    have g4 : W5.cell? ⟨L4, 0, none⟩ = some (.bool false) := KQ.out.cell 0 rfl
    have f4 := KQ.out.frozen 0
    have g5 : (W5.setCell ⟨L4, 0, none⟩ (.bool false)).cell? ⟨L5, 0, none⟩ = some (.int .i64 0) := k5.cell 0 rfl
    have f5 := k5.frozen 0
    clear h0 hlt
    have HTS := hid (two_set (w := w) (.bool false) (.int .i64 ck) KQ.out KR.out (by have := HL5.out; omega) HB5.out (by have := HPP.out; have := HPP2.out; have := HL4.out; omega) (by have := HPP.out; have := HPP2.out; have := HL4.out; have := HL5.out; omega))
    go_wp2_with fail
    refine ⟨_, results_two rfl _ _ L4 L5 _ _ rfl rfl (HTS.out.k4.cell 0 rfl) (HTS.out.k5.cell 0 rfl), ?_⟩
    exact ⟨by rw [HE.out], HTS.out.bel⟩
end Go.Proofs.Ythjflgnoeenenaa
