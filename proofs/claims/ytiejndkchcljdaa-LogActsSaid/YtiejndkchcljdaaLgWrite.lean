/- Contract: a log's Write. -/
import Derived.Test.YtiejndkchcljdaaLgInv
namespace Go.Proofs.Ytiejndkchcljdaa
open Go.RowKit Go.Shelf
set_option linter.unusedSimpArgs false
set_option linter.unusedVariables false

/-- what Write leaves, and answers -/
def logWR (s : DS) (a : AR) (at_ : Int) (rec : List UInt8) : DS × Int × Nat :=
  if checkE s.n a = 0 then
    if at_ < 0 ∨ a.b - a.a < at_ then (s, 0, 3) else if 1048576 < rec.length then (s, 0, 4) else if a.b - a.a - at_ < (needN rec.length : Int) then (s, 0, 10)
    else if (writesS s (a.a + at_) (recSecs a.g.toNat at_.toNat rec)).2 = 0 then ((writesS s (a.a + at_) (recSecs a.g.toNat at_.toNat rec)).1, at_ + (needN rec.length : Int), 0)
    else ((writesS s (a.a + at_) (recSecs a.g.toNat at_.toNat rec)).1, 0, (writesS s (a.a + at_) (recSecs a.g.toNat at_.toNat rec)).2)
  else (s, 0, checkE s.n a)
theorem load_int {ty : TypeId} {k : IntKind} (hu : Try.prog.underlying ty = some (.int k)) (w : World) (ad : Addr) (v : Value) (h : w.cell? ad = some v) : (loadVar ty ad).run Try.prog w = .ok v w := by
  have hagg : (isAgg ty).run Try.prog w = .ok false w := by
    unfold isAgg
    rw [Sem.run_bind, run_underlying hu w]
    simp
  simp [loadVar, Sem.run_bind, hagg, h]
theorem results_cells2 {fn : Func} {p q : Tmp} {t1 t2 : TypeId} (h : fn.results = #[.cell p t1, .cell q t2]) (tmps : Array Value) (w : World) (a1 a2 : Addr) (v1 v2 : Value) (hp : tmps.getD p undef = .pointer (some a1)) (hq : tmps.getD q undef = .pointer (some a2))
    (h1 : (loadVar t1 a1).run Try.prog w = .ok v1 w) (h2 : (loadVar t2 a2).run Try.prog w = .ok v2 w) : (results fn tmps).run Try.prog w = .ok (.tuple #[v1, v2]) w := by
  have hp' : tmps[p]?.getD undef = .pointer (some a1) := by simpa using hp
  have hq' : tmps[q]?.getD undef = .pointer (some a2) := by simpa using hq
  simp only [results, h]
  simp [Sem.run_bind, hp', hq', h1, h2, asAddr]
theorem five_new (w : World) (c1 c2 c3 c4 c5 : Array Value) (t1 t2 t3 t4 t5 : TypeId) : ∃ W, W = ((((w.alloc (.cells c1 t1)).alloc (.cells c2 t2)).alloc (.cells c3 t3)).alloc (.cells c4 t4)).alloc (.cells c5 t5) ∧
    Blk W w.heap.size t1 c1 ∧ Blk W (w.heap.size + 1) t2 c2 ∧ Blk W (w.heap.size + 1 + 1) t3 c3 ∧ Blk W (w.heap.size + 1 + 1 + 1) t4 c4 ∧ Blk W (w.heap.size + 1 + 1 + 1 + 1) t5 c5 ∧ Below w.heap.size w W ∧ W.heap.size = w.heap.size + 1 + 1 + 1 + 1 + 1 := by
  obtain ⟨W3, e3, k1, k2, k3, b3⟩ := three_new w c1 c2 c3 t1 t2 t3
  have hs3 : W3.heap.size = w.heap.size + 1 + 1 + 1 := by rw [e3]; simp
  obtain ⟨W5, e5, k4, k5, b5⟩ := two_new W3 c4 c5 t4 t5
  rw [hs3] at k4 k5
  refine ⟨W5, by rw [e5, e3], k1.keep b5, k2.keep b5, k3.keep b5, k4, k5, b3.trans (b5.mono b3.size), by rw [e5]; simp [hs3]⟩
theorem new_int (w : World) (t : TypeId) (z v : Value) : ∃ W, W = (w.alloc (.cells #[z] t)).setCell ⟨w.heap.size, 0, none⟩ v ∧ Blk W w.heap.size t #[v] ∧ Below w.heap.size w W := by
  refine ⟨_, rfl, ?_, (below_new w _).setCell (p := ⟨w.heap.size, 0, none⟩) (Nat.le_refl _) v⟩
  have := (Blk.new w t #[z]).set_ 0 v
  simpa using this
theorem set_two {w : World} {g3 g4 : Nat} {t3 t4 : TypeId} {x y : Value} (h3 : Blk w g3 t3 #[x]) (h4 : Blk w g4 t4 #[y]) (hne : g3 ≠ g4) (u v : Value) :
    Blk ((w.setCell ⟨g3, 0, none⟩ u).setCell ⟨g4, 0, none⟩ v) g3 t3 #[u] ∧ Blk ((w.setCell ⟨g3, 0, none⟩ u).setCell ⟨g4, 0, none⟩ v) g4 t4 #[v] := by
  constructor
  · have := (h3.set_ 0 u).far (p := ⟨g4, 0, none⟩) hne v
    simpa using this
  · have := (h4.far (p := ⟨g3, 0, none⟩) hne.symm u).set_ 0 v
    simpa using this
/-- the variables of a Write -/
structure WL (W : World) (G g : Nat) (a0 a1 a2 at_ : Int) : Prop where
  k0 : Blk W G 24 #[.pointer (some ⟨g, 0, none⟩)]
  k1 : Blk W (G + 1) 33 #[.int .i64 a0, .int .i64 a1, .int .i64 a2]
  k2 : Blk W (G + 1 + 1) 3 #[.int .i64 at_]
  k3 : Blk W (G + 1 + 1 + 1) 3 #[.int .i64 0]
  k4 : Blk W (G + 1 + 1 + 1 + 1) 25 #[.int .i64 0]
section
variable {W W' : World} {G g : Nat} {a0 a1 a2 at_ : Int}
theorem WL.keep (h : WL W G g a0 a1 a2 at_) (hb : Below W.heap.size W W') : WL W' G g a0 a1 a2 at_ := ⟨h.k0.keep hb, h.k1.keep hb, h.k2.keep hb, h.k3.keep hb, h.k4.keep hb⟩
theorem WL.drew (h : WL W G g a0 a1 a2 at_) : WL W.drew G g a0 a1 a2 at_ := h.keep ((Below.refl _ _).drew)
theorem WL.chg {L : List Nat} (h : WL W G g a0 a1 a2 at_) (hc : Chg L W W') (hl : ∀ b ∈ L, b < G ∨ G + 5 ≤ b) : WL W' G g a0 a1 a2 at_ :=
  ⟨h.k0.chg hc (fun hm => by have := hl _ hm; omega), h.k1.chg hc (fun hm => by have := hl _ hm; omega), h.k2.chg hc (fun hm => by have := hl _ hm; omega), h.k3.chg hc (fun hm => by have := hl _ hm; omega), h.k4.chg hc (fun hm => by have := hl _ hm; omega)⟩
theorem WL.cells (h : WL W G g a0 a1 a2 at_) : W.cell? ⟨G, 0, none⟩ = some (.pointer (some ⟨g, 0, none⟩)) ∧ W.cell? ⟨G + 1, 0, none⟩ = some (.int .i64 a0) ∧ W.cell? ⟨G + 1, 1, none⟩ = some (.int .i64 a1) ∧ W.cell? ⟨G + 1, 2, none⟩ = some (.int .i64 a2) ∧ W.cell? ⟨G + 1 + 1, 0, none⟩ = some (.int .i64 at_) :=
  ⟨h.k0.cell 0 rfl, h.k1.cell 0 rfl, h.k1.cell 1 rfl, h.k1.cell 2 rfl, h.k2.cell 0 rfl⟩
theorem WL.outs (h : WL W G g a0 a1 a2 at_) : W.cell? ⟨G + 1 + 1 + 1, 0, none⟩ = some (.int .i64 0) ∧ W.cell? ⟨G + 1 + 1 + 1 + 1, 0, none⟩ = some (.int .i64 0) ∧ W.frozen? ⟨G + 1 + 1 + 1, 0, none⟩ = false ∧ W.frozen? ⟨G + 1 + 1 + 1 + 1, 0, none⟩ = false :=
  ⟨h.k3.cell 0 rfl, h.k4.cell 0 rfl, h.k3.frozen 0, h.k4.frozen 0⟩
end
def WC (w W : World) (G gn g : Nat) (a0 a1 a2 at_ nd : Int) : Prop := WL W G g a0 a1 a2 at_ ∧ Blk W gn 3 #[.int .i64 nd] ∧ Below G w W
section
variable {w W W' : World} {G gn g : Nat} {a0 a1 a2 at_ nd : Int}
theorem WC.keep (h : WC w W G gn g a0 a1 a2 at_ nd) (hb : Below W.heap.size W W') : WC w W' G gn g a0 a1 a2 at_ nd := ⟨h.1.keep hb, h.2.1.keep hb, h.2.2.trans (hb.mono (Nat.le_of_lt h.1.k0.lt))⟩
theorem WC.drew (h : WC w W G gn g a0 a1 a2 at_ nd) : WC w W.drew G gn g a0 a1 a2 at_ nd := h.keep ((Below.refl _ _).drew)
end
/-- what the results' cells hold at a return -/
theorem two_results {fn : Func} (h : fn.results = #[.cell 8 3, .cell 9 25]) (tmps : Array Value) {w : World} {G : Nat} {x e y z : Value} (h8 : tmps.getD 8 undef = .pointer (some ⟨G + 1 + 1 + 1, 0, none⟩)) (h9 : tmps.getD 9 undef = .pointer (some ⟨G + 1 + 1 + 1 + 1, 0, none⟩))
    (k3 : Blk w (G + 1 + 1 + 1) 3 #[y]) (k4 : Blk w (G + 1 + 1 + 1 + 1) 25 #[z]) :
    (results fn tmps).run Try.prog ((w.setCell ⟨G + 1 + 1 + 1, 0, none⟩ x).setCell ⟨G + 1 + 1 + 1 + 1, 0, none⟩ e) = .ok (.tuple #[x, e]) ((w.setCell ⟨G + 1 + 1 + 1, 0, none⟩ x).setCell ⟨G + 1 + 1 + 1 + 1, 0, none⟩ e) := by
  obtain ⟨q3, q4⟩ := set_two k3 k4 (by omega) x e
  exact results_cells2 h tmps _ _ _ _ _ h8 h9 (load_int Try.underlying3 _ _ _ (q3.cell 0 rfl)) (load_int Try.underlying25 _ _ _ (q4.cell 0 rfl))
/-- a range over a function with one variable -/
theorem rangeFunc_one {α : Type} {P : Program} {n : Nat} {g : Operand} {p q : Tmp} {assign body : Code} {Q : Exit → Act → World → Prop} {a : Act} {w : World}
    (h1 : 1 ≤ n) {gf : Nat} {lb : Array Value} (hg : a.eval g = .func (.func gf) #[] lb) (eg : ∀ args w, (callFunc gf args).run P w = .ok (.enter gf args) w)
    (enc : α → Value) {Kp : World → World → Prop} {S Sp : List α → Prop} {N : Nat} {w0 : World} (hseq : SeqStopsK Fence.wide (n - 1) P gf lb (fun x => #[enc x]) Kp S Sp N w0)
    (hKt : ∀ {A B C : World}, Kp A B → Kp B C → Kp A C) (hKb : ∀ (W : World) (l : Nat) (o o' : Obj), w.heap.size ≤ l → W.heap[l]? = some o → o.isCells = false → o.isWalk = false → Kp W (W.putObj l o')) (hb0 : Below w0.heap.size w0 w)
    (I : List α → World → Prop) (Ix : Code → List α → World → Prop) (hI : OwnFrom w.heap.size I) (hIx : ∀ c, OwnFrom w.heap.size (Ix c)) (h0 : I [] w)
    (hassign : ∀ (l : Nat) (x : α) (W : World) (K : Act → World → Prop), K { tmps := (a.tmps.setIfInBounds p (enc x)).setIfInBounds q (enc x), defers := [] } W →
      assign.wpIn (Fence.wide.inRound l) (n - 1 - 1) P (Exit.then K (fun _ _ _ => False)) { tmps := a.tmps.setIfInBounds p (enc x), defers := [] } W)
    (hbody : ∀ (l : Nat) (pre : List α) (x : α) (W : World), I pre W → pre.length < N → body.wpIn (Fence.wide.inRound l) (n - 1 - 1) P (ownPostG w.heap.size Kp I Ix (pre ++ [x]) W) { tmps := (a.tmps.setIfInBounds p (enc x)).setIfInBounds q (enc x), defers := [] } W)
    (hdone : ∀ (D : Nat) (xs : List α) (W : World), w.heap.size ≤ D → S xs → I xs W → W.heap[D]? = some (.deferred (some [])) → Q .normal { a with defers := { target := .collected D, args := #[] } :: a.defers } W)
    (hstop : ∀ (D : Nat) (c : Code) (pre : List α) (W : World), w.heap.size ≤ D → Sp pre → Ix c pre W → W.heap[D]? = some (.deferred (some [])) → c.wpIn Fence.wide n P Q { a with defers := { target := .collected D, args := #[] } :: a.defers } W) :
    (Code.rangeFunc g #[p] assign body).wp P Q a w :=
  wpIn_wide.1 (wpIn_rangeFunc_ownG (F := Fence.wide) rfl h1 hg trivial eg hseq (fun h k => hKt h k) hKb hb0 (fun _ => rfl) I Ix hI hIx h0 (fun x => { tmps := (a.tmps.setIfInBounds p (enc x)).setIfInBounds q (enc x), defers := [] }) (fun l x W K h => by have := hassign l x W K h; simpa using this) hbody hdone hstop)
/-- what holds between two rounds -/
structure WI (w : World) (hi : Nat) (base g : Nat) (F : List Nat) (s : DS) (G gn gi : Nat) (a0 a1 a2 at_ nd : Int) (A : Option Addr) (rec : List UInt8) (N : Nat) (pre : List Nat) (W : World) : Prop where
  wl : WL W G g a0 a1 a2 at_
  kn : Blk W gn 3 #[.int .i64 nd]
  ki : Blk W gi 3 #[.int .i64 (at_ + (pre.length : Int))]
  sb : SB W w.heap.size A rec.length rec
  sz : hi ≤ W.heap.size
  dv : ∃ s' : DS, DevH w hi base F g s' W ∧ fuseOK s' ∧ s'.loose.length ≤ s.loose.length + pre.length ∧ s'.n = s.n ∧ writesS s (a0 + at_) (secsP a2.toNat at_.toNat N rec pre) = (s', 0)
/-- what holds when a write has failed -/
structure WX (w : World) (hi : Nat) (base g : Nat) (F : List Nat) (s : DS) (G : Nat) (a0 a2 at_ : Int) (rec : List UInt8) (N : Nat) (pre : List Nat) (W : World) : Prop where
  dv : ∃ (s' : DS) (e : Nat), ¬ e = 0 ∧ Blk W (G + 1 + 1 + 1) 3 #[.int .i64 0] ∧ Blk W (G + 1 + 1 + 1 + 1) 25 #[.int .i64 (e : Int)] ∧ DevH w hi base F g s' W ∧ writesS s (a0 + at_) (secsP a2.toNat at_.toNat N rec pre) = (s', e)
section
variable {w w5 : World} {base g : Nat} {F : List Nat} {s : DS} {G gn gi : Nat} {a0 a1 a2 at_ nd : Int} {A : Option Addr} {rec : List UInt8} {N : Nat}
theorem WI.own (hw : w.heap.size ≤ w5.heap.size) : OwnFrom w5.heap.size (WI w w5.heap.size base g F s G gn gi a0 a1 a2 at_ nd A rec N) := fun pre W W' row h hg hr => by
  have hnc : ncRow W row := fun r e => (hr r e).2
  have hB : ∀ r, row = some r → w.heap.size ≤ r := fun r e => Nat.le_trans hw (hr r e).1
  obtain ⟨s', d1, d2, d3, d4, d5⟩ := h.dv
  exact ⟨⟨h.wl.k0.nc hg hnc, h.wl.k1.nc hg hnc, h.wl.k2.nc hg hnc, h.wl.k3.nc hg hnc, h.wl.k4.nc hg hnc⟩, h.kn.nc hg hnc, h.ki.nc hg hnc, h.sb.nc hg hnc, Nat.le_trans h.sz hg.size, s', d1.nc hg hnc hB, d2, d3, d4, d5⟩
theorem WX.own (hw : w.heap.size ≤ w5.heap.size) (c : Code) : OwnFrom w5.heap.size (fun pre W => c = .ret ∧ WX w w5.heap.size base g F s G a0 a2 at_ rec N pre W) := fun pre W W' row h hg hr => by
  have hnc : ncRow W row := fun r e => (hr r e).2
  have hB : ∀ r, row = some r → w.heap.size ≤ r := fun r e => Nat.le_trans hw (hr r e).1
  obtain ⟨s', e, d0, d1, d2, d3, d4⟩ := h.2.dv
  exact ⟨h.1, s', e, d0, d1.nc hg hnc, d2.nc hg hnc, d3.nc hg hnc hB, d4⟩
end
section
variable (base g : Nat) (F : List Nat) (s : DS) (w : World)
attribute [local go_sem] steady
attribute [local go_sem] Oper.semAt_some
attribute [local irreducible] wpQuiet
attribute [local irreducible] wpPhase
set_option maxRecDepth 20000 in
set_option maxHeartbeats 8000000 in
theorem lgWrite_calls (a : AR) (at_ : Int) (A : Option Addr) (n c B : Nat) (rec : List UInt8) (h : DevB w base F g s) (hbase : base ≤ w.heap.size) (hf : fuseOK s) (hlo : s.loose.length + 65536 ≤ 1000000) (hs : SB w B A n rec) (hc : n ≤ c) (hne : 0 < n → ∀ b off, A = some ⟨b, off, none⟩ → b ∉ F) :
    Calls Try.prog 17 #[.pointer (some ⟨g, 0, none⟩), arv a, .int .i64 at_, .slice A n c] w fun e w' => e = .returned (.tuple #[.int .i64 (logWR s a at_ rec).2.1, .int .i64 ((logWR s a at_ rec).2.2 : Int)]) ∧ DevAt w base F g (logWR s a at_ rec).1 w' := by
  have hnb := h.ok.nb
  have hlen := hs.1
  obtain ⟨a0, a1, a2⟩ := a
  have HCK := hid (fun W (hW : Below w.heap.size w W) => check_calls base g F s W ⟨a0, a1, a2⟩ (h.keep hW))
  have HH := hid h; have HS := hid hs
  obtain ⟨RR, hRR⟩ : ∃ RR, logWR s ⟨a0, a1, a2⟩ at_ rec = RR := ⟨_, rfl⟩
  rw [hRR]
  have HRR := hid hRR
  clear h hs hRR
  unfold arv at HCK ⊢
  dsimp only at HCK ⊢
  obtain ⟨W5, hW5, k0, k1, k2, k3, k4, hB, hsz⟩ := five_new w #[.pointer (some ⟨g, 0, none⟩)] #[.int .i64 a0, .int .i64 a1, .int .i64 a2] #[.int .i64 at_] #[.int .i64 0] #[.int .i64 0] 24 33 3 3 25
  have HW5 := hid hW5; have K0 := hid k0; have K1 := hid k1; have K2 := hid k2; have K3 := hid k3; have K4 := hid k4; have HB := hid hB; have HSZ := hid hsz
  have d0 := k0.cell 0 rfl
  have d1 := k1.cell 0 rfl
  have d2 := k1.cell 1 rfl
  have d3 := k1.cell 2 rfl
  rw [hW5] at d0 d1 d2 d3
  clear hW5 k0 k1 k2 k3 k4 hB hsz
  refine (callsIn_wide (n := 3)).1 (callsIn_of_wp_marks Try.func17 rfl trivial (wpIn_wide.2 ?_))
  simp only [Try.ntmps17, List.size_toArray, List.length_cons, List.length_nil, Nat.reduceAdd, Nat.reduceSub, Array.replicate_succ, Array.replicate_zero, List.push_toArray, List.append_toArray, List.nil_append, List.cons_append]
  go_wp2_with fail
  rw [← HW5.out]
  clear d0 d1 d2 d3 HW5
  refine (HCK.out W5 HB.out).mono ?_
  rintro _ w1 ⟨rfl, hb1⟩
  have BW := hid (HB.out.trans (hb1.mono HB.out.size))
  have HL := hid (show WL w1 w.heap.size g a0 a1 a2 at_ from ⟨K0.out.keep hb1, K1.out.keep hb1, K2.out.keep hb1, K3.out.keep hb1, K4.out.keep hb1⟩)
  have hsz1 : w.heap.size + 5 ≤ w1.heap.size := by have := hb1.size; rw [HSZ.out] at this; omega
  clear hb1 HCK HB HSZ K0 K1 K2 K3 K4
  have HRET := hid (show ∀ (W : World) (u v : Value), Below w.heap.size w W → Below w.heap.size w ((W.setCell ⟨w.heap.size + 1 + 1 + 1, 0, none⟩ u).setCell ⟨w.heap.size + 1 + 1 + 1 + 1, 0, none⟩ v) from fun W u v h => (h.setCell (p := ⟨w.heap.size + 1 + 1 + 1, 0, none⟩) (by show w.heap.size ≤ w.heap.size + 1 + 1 + 1; omega) u).setCell (p := ⟨w.heap.size + 1 + 1 + 1 + 1, 0, none⟩) (by show w.heap.size ≤ w.heap.size + 1 + 1 + 1 + 1; omega) v)
  generalize hge : w.heap.size = G at HL hsz1 HRET ⊢
  by_cases hC : checkE s.n ⟨a0, a1, a2⟩ = 0
  · have hk := check_ok hC
    have hR1 := HRR.out
    rw [show logWR s ⟨a0, a1, a2⟩ at_ rec = _ from if_pos hC] at hR1
    dsimp only at hR1
    have HR1 := hid hR1
    rw [hC]
    clear hR1 HRR hC
    obtain ⟨q1, q2, q3, q4, q5⟩ := hk
    dsimp only at q1 q2 q3 q4 q5
    have HNE := hid (fun W => need_calls (n : Int) W)
    go_wp2_with fail
    refine (HNE.out _).mono ?_
    rintro _ _ ⟨rfl, rfl⟩
    clear HNE
    go_wp2_with fail
    have kn := Blk.new w1 3 #[.int .i64 (needE (n : Int) : Int)]
    have hbn := below_new w1 (.cells #[.int .i64 (needE (n : Int) : Int)] 3)
    have hw2 : WC w (w1.alloc (.cells #[.int .i64 (needE (n : Int) : Int)] 3)) G w1.heap.size g a0 a1 a2 at_ (needE (n : Int) : Int) := ⟨HL.out.keep hbn, kn, (by rw [← hge]; exact BW.out.trans (hbn.mono BW.out.size))⟩
    have HW := hid hw2
    clear hw2 kn hbn HL BW
    generalize w1.alloc (.cells #[.int .i64 (needE (n : Int) : Int)] 3) = w2 at HW ⊢
    generalize hgn : w1.heap.size = gn at HW hsz1 ⊢
    generalize hnd : (needE (n : Int) : Int) = nd at HW ⊢
    have HCN := hid (fun W => show Calls Try.prog 50 #[.agg #[.int .i64 a0, .int .i64 a1, .int .i64 a2]] W fun e w' => e = .returned (.int .i64 (a1 - a0)) ∧ Below W.heap.size W w' from count_calls a0 a1 a2 W (IntWalk.i64_in _ (by omega)))
    by_cases hat : at_ < 0
    · have HRX := hid (show (s, (0 : Int), (3 : Nat)) = RR from by have := HR1.out; rw [if_pos (.inl hat)] at this; exact this)
      clear HR1
      refine wp_region_class (fun w' => WC w w' G gn g a0 a1 a2 at_ nd) (by kernel_rfl) (by kernel_rfl) HW.out.drew ?_
      intro S _ st hS hin
      have HhS := hid hS; have Hin := hid hin
      have e0 := fun x => (hS x).1.cells.1
      have e1 := fun x => (hS x).1.cells.2.1
      have e2 := fun x => (hS x).1.cells.2.2.1
      have e3 := fun x => (hS x).1.cells.2.2.2.1
      have e4 := fun x => (hS x).1.cells.2.2.2.2
      have e5 := fun x => (hS x).2.1.cell 0 rfl
      clear hS hin
      (refine wpQuiet_step (fun K hK => ?_); go_simp; refine hK _ ?_; clear hK K)
      (refine wpQuiet_step (fun K hK => ?_); go_simp; refine hK _ ?_; clear hK K)
      (refine wpQuiet_step (fun K hK => ?_); go_simp; refine hK _ ?_; clear hK K)
      (refine wpQuiet_step (fun K hK => ?_); go_simp; refine hK _ ?_; clear hK K)
      (refine wpQuiet_step (fun K hK => ?_); go_simp; refine hK _ ?_; clear hK K)
      (refine wpQuiet_step (fun K hK => ?_); go_simp; refine hK _ ?_; clear hK K)
      (refine wpQuiet_step (fun K hK => ?_); go_simp; refine hK _ ?_; clear hK K)
      (refine wpQuiet_step (fun K hK => ?_); go_simp; refine hK _ ?_; clear hK K)
      (refine wpQuiet_step (fun K hK => ?_); go_simp; refine hK _ ?_; clear hK K)
      refine wpQuiet_nil ?_
      clear e0 e1 e2 e3 e4 e5 HhS Hin
      rintro w3 hW
      have HW := hid hW
      clear hW
      have HR2 := hid (show (s, (0 : Int), (3 : Nat)) = RR from HRX.out)
      clear HRX
      obtain ⟨u3, u4, v3, v4⟩ := HW.out.1.outs
      go_wp2_with fail
      refine ⟨_, two_results (x := .int .i64 (0)) (e := .int .i64 (3)) rfl _ rfl rfl HW.out.1.k3 HW.out.1.k4, ?_⟩
      rw [← HR2.out]
      exact ⟨rfl, DevAt.start HH.out (by rw [hge]; exact HRET.out _ _ _ HW.out.2.2)⟩
    by_cases hat2 : a1 - a0 < at_
    · have HRX := hid (show (s, (0 : Int), (3 : Nat)) = RR from by have := HR1.out; rw [if_pos (.inr hat2)] at this; exact this)
      clear HR1
      refine wp_region_class (fun w' => WC w w' G gn g a0 a1 a2 at_ nd) (by kernel_rfl) (by kernel_rfl) HW.out.drew ?_
      intro S _ st hS hin
      have HhS := hid hS; have Hin := hid hin
      have e0 := fun x => (hS x).1.cells.1
      have e1 := fun x => (hS x).1.cells.2.1
      have e2 := fun x => (hS x).1.cells.2.2.1
      have e3 := fun x => (hS x).1.cells.2.2.2.1
      have e4 := fun x => (hS x).1.cells.2.2.2.2
      have e5 := fun x => (hS x).2.1.cell 0 rfl
      clear hS hin
      (refine wpQuiet_step (fun K hK => ?_); go_simp; refine hK _ ?_; clear hK K)
      (refine wpQuiet_step (fun K hK => ?_); go_simp; refine hK _ ?_; clear hK K)
      (refine wpQuiet_step (fun K hK => ?_); go_simp; refine hK _ ?_; clear hK K)
      (refine wpQuiet_step (fun K hK => ?_); go_simp; refine hK _ ?_; clear hK K)
      (refine wpQuiet_step (fun K hK => ?_); go_simp; refine hK _ ?_; clear hK K)
      (refine wpQuiet_step (fun K hK => ?_); (refine quiet_callK rfl 50 #[.agg #[.int .i64 a0, .int .i64 a1, .int .i64 a2]] (fun w => by go_simp) (.int .i64 (a1 - a0)) (fun z => (HCN.out _).mono fun e w' ⟨he, hw⟩ => ⟨he, Hin.out w' ((HhS.out z).keep hw)⟩) ?_); go_simp; refine hK _ ?_; clear hK K)
      (refine wpQuiet_step (fun K hK => ?_); go_simp; refine hK _ ?_; clear hK K)
      (refine wpQuiet_step (fun K hK => ?_); go_simp; refine hK _ ?_; clear hK K)
      (refine wpQuiet_step (fun K hK => ?_); go_simp; refine hK _ ?_; clear hK K)
      refine wpQuiet_nil ?_
      clear e0 e1 e2 e3 e4 e5 HhS Hin
      rintro w3 hW
      have HW := hid hW
      clear hW
      have HR2 := hid (show (s, (0 : Int), (3 : Nat)) = RR from HRX.out)
      clear HRX
      obtain ⟨u3, u4, v3, v4⟩ := HW.out.1.outs
      go_wp2_with fail
      refine ⟨_, two_results (x := .int .i64 (0)) (e := .int .i64 (3)) rfl _ rfl rfl HW.out.1.k3 HW.out.1.k4, ?_⟩
      rw [← HR2.out]
      exact ⟨rfl, DevAt.start HH.out (by rw [hge]; exact HRET.out _ _ _ HW.out.2.2)⟩
    have hR1 := HR1.out
    rw [if_neg (by omega)] at hR1
    have HR1 := hid hR1
    clear hR1
    refine wp_region_class (fun w' => WC w w' G gn g a0 a1 a2 at_ nd) (by kernel_rfl) (by kernel_rfl) HW.out.drew ?_
    intro S _ st hS hin
    have HhS := hid hS; have Hin := hid hin
    have e0 := fun x => (hS x).1.cells.1
    have e1 := fun x => (hS x).1.cells.2.1
    have e2 := fun x => (hS x).1.cells.2.2.1
    have e3 := fun x => (hS x).1.cells.2.2.2.1
    have e4 := fun x => (hS x).1.cells.2.2.2.2
    have e5 := fun x => (hS x).2.1.cell 0 rfl
    clear hS hin
    (refine wpQuiet_step (fun K hK => ?_); go_simp; refine hK _ ?_; clear hK K)
    (refine wpQuiet_step (fun K hK => ?_); go_simp; refine hK _ ?_; clear hK K)
    (refine wpQuiet_step (fun K hK => ?_); go_simp; refine hK _ ?_; clear hK K)
    (refine wpQuiet_step (fun K hK => ?_); go_simp; refine hK _ ?_; clear hK K)
    (refine wpQuiet_step (fun K hK => ?_); go_simp; refine hK _ ?_; clear hK K)
    (refine wpQuiet_step (fun K hK => ?_); (refine quiet_callK rfl 50 #[.agg #[.int .i64 a0, .int .i64 a1, .int .i64 a2]] (fun w => by go_simp) (.int .i64 (a1 - a0)) (fun z => (HCN.out _).mono fun e w' ⟨he, hw⟩ => ⟨he, Hin.out w' ((HhS.out z).keep hw)⟩) ?_); go_simp; refine hK _ ?_; clear hK K)
    (refine wpQuiet_step (fun K hK => ?_); go_simp; refine hK _ ?_; clear hK K)
    (refine wpQuiet_step (fun K hK => ?_); go_simp; refine hK _ ?_; clear hK K)
    (refine wpQuiet_step (fun K hK => ?_); go_simp; refine hK _ ?_; clear hK K)
    refine wpQuiet_nil ?_
    clear e0 e1 e2 e3 e4 e5 HhS Hin
    rintro w3 hW
    have HW := hid hW
    clear hW
    by_cases hlong : 1048576 < n
    · have HRX := hid (show (s, (0 : Int), (4 : Nat)) = RR from by have := HR1.out; rw [if_pos (by rw [hlen]; exact hlong)] at this; exact this)
      have hlong' : (1048576 : Int) < (n : Int) := by omega
      clear HR1
      have HR2 := hid (show (s, (0 : Int), (4 : Nat)) = RR from HRX.out)
      clear HRX
      obtain ⟨u3, u4, v3, v4⟩ := HW.out.1.outs
      go_wp2_with fail
      refine ⟨_, two_results (x := .int .i64 (0)) (e := .int .i64 (4)) rfl _ rfl rfl HW.out.1.k3 HW.out.1.k4, ?_⟩
      rw [← HR2.out]
      exact ⟨rfl, DevAt.start HH.out (by rw [hge]; exact HRET.out _ _ _ HW.out.2.2)⟩
    have hlong' : ¬ (1048576 : Int) < (n : Int) := by omega
    have hR1 := HR1.out
    rw [if_neg (by rw [hlen]; exact hlong), hlen] at hR1
    have HR1 := hid hR1
    clear hR1
    have hnd2 : nd = (needN n : Int) := by rw [← hnd]; unfold needE; rw [if_neg (by omega), Int.toNat_natCast]
    have HND := hid hnd2
    have hnd3 : 1 ≤ nd ∧ nd ≤ 21400 := by rw [hnd2]; unfold needN; omega
    clear hnd hnd2
    have hwr : IntKind.i64.wrap (a1 - a0 - at_) = a1 - a0 - at_ := IntWalk.i64_in _ (by omega)
    by_cases hfull : a1 - a0 - at_ < nd
    · have HRX := hid (show (s, (0 : Int), (10 : Nat)) = RR from by have := HR1.out; rw [← HND.out, if_pos hfull] at this; exact this)
      clear HR1
      go_wp2_with fail
      refine wp_region_class (fun w' => WC w w' G gn g a0 a1 a2 at_ nd) (by kernel_rfl) (by kernel_rfl) HW.out.drew ?_
      intro S _ st hS hin
      have HhS := hid hS; have Hin := hid hin
      have e0 := fun x => (hS x).1.cells.1
      have e1 := fun x => (hS x).1.cells.2.1
      have e2 := fun x => (hS x).1.cells.2.2.1
      have e3 := fun x => (hS x).1.cells.2.2.2.1
      have e4 := fun x => (hS x).1.cells.2.2.2.2
      have e5 := fun x => (hS x).2.1.cell 0 rfl
      clear hS hin
      (refine wpQuiet_step (fun K hK => ?_); go_simp; refine hK _ ?_; clear hK K)
      (refine wpQuiet_step (fun K hK => ?_); go_simp; refine hK _ ?_; clear hK K)
      (refine wpQuiet_step (fun K hK => ?_); (refine quiet_callK rfl 50 #[.agg #[.int .i64 a0, .int .i64 a1, .int .i64 a2]] (fun w => by go_simp) (.int .i64 (a1 - a0)) (fun z => (HCN.out _).mono fun e w' ⟨he, hw⟩ => ⟨he, Hin.out w' ((HhS.out z).keep hw)⟩) ?_); go_simp; refine hK _ ?_; clear hK K)
      (refine wpQuiet_step (fun K hK => ?_); go_simp; refine hK _ ?_; clear hK K)
      (refine wpQuiet_step (fun K hK => ?_); go_simp; refine hK _ ?_; clear hK K)
      (refine wpQuiet_step (fun K hK => ?_); go_simp; refine hK _ ?_; clear hK K)
      (refine wpQuiet_step (fun K hK => ?_); go_simp; refine hK _ ?_; clear hK K)
      refine wpQuiet_nil ?_
      clear e0 e1 e2 e3 e4 e5 HhS Hin
      rintro w3 hW
      have HW := hid hW
      clear hW
      have HR2 := hid (show (s, (0 : Int), (10 : Nat)) = RR from HRX.out)
      clear HRX
      obtain ⟨u3, u4, v3, v4⟩ := HW.out.1.outs
      go_wp2_with fail
      refine ⟨_, two_results (x := .int .i64 (0)) (e := .int .i64 (10)) rfl _ rfl rfl HW.out.1.k3 HW.out.1.k4, ?_⟩
      rw [← HR2.out]
      exact ⟨rfl, DevAt.start HH.out (by rw [hge]; exact HRET.out _ _ _ HW.out.2.2)⟩
    have hR1 := HR1.out
    rw [← HND.out, if_neg hfull] at hR1
    have HR1 := hid hR1
    clear hR1
    go_wp2_with fail
    refine wp_region_class (fun w' => WC w w' G gn g a0 a1 a2 at_ nd) (by kernel_rfl) (by kernel_rfl) HW.out.drew ?_
    intro S _ st hS hin
    have HhS := hid hS; have Hin := hid hin
    have e0 := fun x => (hS x).1.cells.1
    have e1 := fun x => (hS x).1.cells.2.1
    have e2 := fun x => (hS x).1.cells.2.2.1
    have e3 := fun x => (hS x).1.cells.2.2.2.1
    have e4 := fun x => (hS x).1.cells.2.2.2.2
    have e5 := fun x => (hS x).2.1.cell 0 rfl
    clear hS hin
    (refine wpQuiet_step (fun K hK => ?_); go_simp; refine hK _ ?_; clear hK K)
    (refine wpQuiet_step (fun K hK => ?_); go_simp; refine hK _ ?_; clear hK K)
    (refine wpQuiet_step (fun K hK => ?_); (refine quiet_callK rfl 50 #[.agg #[.int .i64 a0, .int .i64 a1, .int .i64 a2]] (fun w => by go_simp) (.int .i64 (a1 - a0)) (fun z => (HCN.out _).mono fun e w' ⟨he, hw⟩ => ⟨he, Hin.out w' ((HhS.out z).keep hw)⟩) ?_); go_simp; refine hK _ ?_; clear hK K)
    (refine wpQuiet_step (fun K hK => ?_); go_simp; refine hK _ ?_; clear hK K)
    (refine wpQuiet_step (fun K hK => ?_); go_simp; refine hK _ ?_; clear hK K)
    (refine wpQuiet_step (fun K hK => ?_); go_simp; refine hK _ ?_; clear hK K)
    (refine wpQuiet_step (fun K hK => ?_); go_simp; refine hK _ ?_; clear hK K)
    refine wpQuiet_nil ?_
    clear e0 e1 e2 e3 e4 e5 HhS Hin
    rintro w3 hW
    have HW := hid hW
    clear hW
    obtain ⟨d0, d1, d2, d3, d4⟩ := HW.out.1.cells
    go_wp2_with fail
    clear d0 d1 d2 d3 d4
    have kI := Blk.new w3 3 #[.int .i64 at_]
    have hbI := below_new w3 (.cells #[.int .i64 at_] 3)
    have hszI := size_new w3 (.cells #[.int .i64 at_] 3)
    have HW4 := hid (HW.out.keep hbI); have KI := hid kI
    generalize w3.alloc (.cells #[.int .i64 at_] 3) = w4 at HW4 KI hszI ⊢
    have hgnI : gn < w3.heap.size := HW.out.2.1.lt
    generalize hgi : w3.heap.size = gi at KI hszI hgnI ⊢
    have hGw : G ≤ gn := by omega
    clear kI hbI hgi HW
    have HS4 := hid (HS.out.keep (by rw [hge]; exact HW4.out.2.2))
    refine (parts_calls A n c B rec w4 HS4.out (by omega) hc).mono ?_
    rintro _ w5 ⟨gf, lb, rfl, hb5, eg, hseq⟩
    have HW5 := hid (HW4.out.keep hb5); have KI5 := hid (KI.out.keep hb5); have HS5 := hid (HS4.out.keep hb5)
    have hs45 := hb5.size
    have HD5 := hid (DevAt.start (HH.out.keep (by rw [hge]; exact HW5.out.2.2)) (Below.refl w5.heap.size w5))
    have HSEQ := hid (hseq 2); have HEG := hid eg
    have HS6 := hid (show SB w5 w.heap.size A rec.length rec from by rw [hlen]; exact HS.out.fit.keep (by rw [hge]; exact HW5.out.2.2))
    clear hb5 hseq eg HW4 KI HS4 HS5
    go_wp2_with fail
    have hG5 : w.heap.size ≤ w5.heap.size := by have := HW5.out.2.1.lt; omega
    have hh5 : G + 5 ≤ gn := by omega
    have hg45 : gi < w4.heap.size := by omega
    have HFL := hid (show ∀ b ∈ F, b < G from fun b hb => by rw [← hge]; exact (HH.out.lt b hb).2)
    have h0 : WI w w5.heap.size base g F s G gn gi a0 a1 a2 at_ nd A rec (needN n) [] w5 := ⟨HW5.out.1, HW5.out.2.1, by simpa using KI5.out, HS6.out, Nat.le_refl _, s, DevH.start HH.out (by rw [hge]; exact HW5.out.2.2) _, hf, by simp, rfl, rfl⟩
    have hq1 : 0 ≤ a0 + at_ ∧ a0 + at_ + nd ≤ 65536 := by omega
    have hnN : nd = (needN n : Int) := HND.out
    have HNN := hid hnN
    have h21 : needN n ≤ 21400 := by omega
    have hqa : ((a2.toNat : Nat) : Int) = a2 ∧ ((at_.toNat : Nat) : Int) = at_ := by omega
    have HQA := hid hqa
    have hq4' : 0 ≤ a2 ∧ a2 ≤ 2147483647 := by omega
    have hat0 : 0 ≤ at_ := by omega
    clear hnN hqa HND
    refine rangeFunc_one (n := 3) (by omega) rfl HEG.out (partV A n) HSEQ.out (fun h k => KpR.trans h k) (KpR.put (Nat.le_refl _)) (Below.refl _ _) (WI w w5.heap.size base g F s G gn gi a0 a1 a2 at_ nd A rec (needN n)) (fun c pre W => c = .ret ∧ WX w w5.heap.size base g F s G a0 a2 at_ rec (needN n) pre W) (WI.own hG5) (fun c => WX.own hG5 c) h0 (q := 13) ?assign ?body ?done ?stop
    case assign =>
      intro l x W K hK
      gi_wp2
      simpa using hK
    case body =>
      intro l pre x W hI hlt
      clear h0 HW5 KI5 HS6 HSEQ HEG HR1 hfull
      obtain ⟨s', hd1, hd2, hd3, hd4, hd5⟩ := hI.dv
      obtain ⟨A', m, hpv, hm49, hsp⟩ := sb_part (n := n) (by have := hI.sb; rwa [hlen] at this) x
      have hsz5 : w5.heap.size ≤ W.heap.size := hI.sz
      have HI := hid hI; have HD := hid hd1; have HF := hid hd2; have H5 := hid hd5; have HSP := hid hsp
      obtain ⟨j, hj⟩ : ∃ j, pre.length = j := ⟨_, rfl⟩
      have HJ := hid hj
      rw [hj] at hlt hd3
      clear hI hd1 hd2 hd5 hsp
      have HNS := hid (fun W' (hW : Below W.heap.size W W') => show Calls Try.prog 52 #[.int .i64 a2, .int .i64 (at_ + (j : Int)), .int .u8 (kindN j (needN n) : Int), .slice A' m m] W' fun e w' => e = .returned (.agg (bcs (secL a2.toNat (at_.toNat + j) (kindN j (needN n)) (partN rec x))).toArray) ∧ Below W'.heap.size W' w' from by
        have := newSector_calls a2.toNat (at_.toNat + j) (kindN j (needN n)) m _ m A' (partN rec x) W' (HSP.out.keep hW) (by omega) (by omega) (kindN_lt _ _) hm49
        rw [HQA.out.1, show ((at_.toNat + j : Nat) : Int) = at_ + (j : Int) by have := HQA.out.2; omega] at this
        exact this)
      have HKO := hid (fun W' => show Calls Try.prog 53 #[.int .i64 (j : Int), .int .i64 nd] W' fun e w' => e = .returned (.int .u8 (kindN j (needN n) : Int)) ∧ W' = w' from by
        rw [HNN.out]; exact kindOf_calls j (needN n) W' (need_pos _) (by omega) (by omega))
      have hS64 : (secL a2.toNat (at_.toNat + j) (kindN j (needN n)) (partN rec x)).length = 64 := secL_length (by rw [HSP.out.1]; exact hm49)
      have HSC := hid (show secsP a2.toNat at_.toNat (needN n) rec (pre ++ [x]) = secsP a2.toNat at_.toNat (needN n) rec pre ++ [secL a2.toNat (at_.toNat + j) (kindN j (needN n)) (partN rec x)] from by rw [secsP_snoc, hj])
      have HSL := hid (show (secsP a2.toNat at_.toNat (needN n) rec pre).length = j from by rw [secsP_length, hj])
      have hsub : IntKind.i64.wrap (at_ + (j : Int) - at_) = (j : Int) := by rw [IntWalk.i64_in _ (by omega)]; omega
      have hsum : IntKind.i64.wrap (a0 + (at_ + (j : Int))) = a0 + (at_ + (j : Int)) := IntWalk.i64_in _ (by omega)
      have hinc : IntKind.i64.wrap (at_ + (j : Int) + 1) = at_ + (j : Int) + 1 := IntWalk.i64_in _ (by omega)
      obtain ⟨SS, hSS⟩ : ∃ SS, secL a2.toNat (at_.toNat + j) (kindN j (needN n)) (partN rec x) = SS := ⟨_, rfl⟩
      rw [hSS] at HNS hS64 HSC
      clear hSS
      generalize kindN j (needN n) = kd at HNS HKO
      rw [hpv]
      have hcl := HI.out.wl.cells
      have hki : W.cell? ⟨gi, 0, none⟩ = some (.int .i64 (at_ + (j : Int))) := by rw [← hj]; exact HI.out.ki.cell 0 rfl
      have hkn : W.cell? ⟨gn, 0, none⟩ = some (.int .i64 nd) := HI.out.kn.cell 0 rfl
      have HCL := hid hcl; have HKI := hid hki; have HKN := hid hkn
      clear hpv hm49 hcl hki hkn hj
      gi_wp2
      refine wpIn_region_round (by kernel_rfl) (by kernel_rfl) (by rintro ⟨a, w, h⟩; exact h) ?_
      have HC := hid (show ∀ w' : World, Below W.heap.size W w' → w'.cell? ⟨G + 1, 2, none⟩ = some (.int .i64 a2) ∧ w'.cell? ⟨G + 1 + 1, 0, none⟩ = some (.int .i64 at_) ∧ w'.cell? ⟨gi, 0, none⟩ = some (.int .i64 (at_ + (j : Int))) ∧ w'.cell? ⟨gn, 0, none⟩ = some (.int .i64 nd) from fun w' hw' =>
        ⟨(hw'.cell (p := ⟨G + 1, 2, none⟩) (lt_of_cell HCL.out.2.2.2.1)).trans HCL.out.2.2.2.1, (hw'.cell (p := ⟨G + 1 + 1, 0, none⟩) (lt_of_cell HCL.out.2.2.2.2)).trans HCL.out.2.2.2.2, (hw'.cell (p := ⟨gi, 0, none⟩) (lt_of_cell HKI.out)).trans HKI.out, (hw'.cell (p := ⟨gn, 0, none⟩) (lt_of_cell HKN.out)).trans HKN.out⟩)
      have HBW := hid ((Below.refl W.heap.size W).drew)
      have Hsz := hid (show (Try.prog.info? 88).map (·.size) = some (bcs SS).toArray.size from by rw [size_sec]; simp [bcs, hS64])
      have HST := hid (show ∀ (w' : World) (b : Nat), Blk w' b 88 ns0.toArray → (storeVar 88 ⟨b, 0, none⟩ (.agg (bcs SS).toArray)).run Try.prog w' = .ok () (w'.setRow b (bcs SS).toArray) from fun w' b hb => by
        have := part_store (P := Try.prog) (pre := []) (post := []) (mid := ns0) (cs := bcs SS) (by rw [part_whole]; exact hb) 88 (off := 0) rfl (by rw [size_sec, bcs_length, hS64]) (by rw [bcs_length, hS64]; rfl) (bcs_oneCell SS)
        rw [part_whole] at this
        exact this)
      refine wpAny_of_held (S := fun w' => Below W.heap.size W w') _ _ _ _ ?_
      refine take_at (i := 0) rfl (.pointer (some ⟨G + 1, 2, none⟩)) (by kernel_rfl) (by kernel_rfl) (by kernel_rfl) (fun _ _ _ h => h) rfl (fun w' hw' => by obtain ⟨e1, e2, e3, e4⟩ := HC.out w' hw'; go_simp) HBW.out ?_
      simp only [Act.put, List.setIfInBounds_toArray, List.set_cons_zero, List.set_cons_succ]
      refine take_at (i := 1) rfl (.int .i64 a2) (by kernel_rfl) (by kernel_rfl) (by kernel_rfl) (fun _ _ _ h => h) rfl (fun w' hw' => by obtain ⟨e1, e2, e3, e4⟩ := HC.out w' hw'; go_simp) HBW.out ?_
      simp only [Act.put, List.setIfInBounds_toArray, List.set_cons_zero, List.set_cons_succ]
      refine take_at (i := 2) rfl (.int .i64 (at_ + (j : Int))) (by kernel_rfl) (by kernel_rfl) (by kernel_rfl) (fun _ _ _ h => h) rfl (fun w' hw' => by obtain ⟨e1, e2, e3, e4⟩ := HC.out w' hw'; go_simp) HBW.out ?_
      simp only [Act.put, List.setIfInBounds_toArray, List.set_cons_zero, List.set_cons_succ]
      refine take_at (i := 3) rfl (.int .i64 (at_ + (j : Int))) (by kernel_rfl) (by kernel_rfl) (by kernel_rfl) (fun _ _ _ h => h) rfl (fun w' hw' => by obtain ⟨e1, e2, e3, e4⟩ := HC.out w' hw'; go_simp) HBW.out ?_
      simp only [Act.put, List.setIfInBounds_toArray, List.set_cons_zero, List.set_cons_succ]
      refine take_at (i := 4) rfl (.int .i64 at_) (by kernel_rfl) (by kernel_rfl) (by kernel_rfl) (fun _ _ _ h => h) rfl (fun w' hw' => by obtain ⟨e1, e2, e3, e4⟩ := HC.out w' hw'; go_simp) HBW.out ?_
      simp only [Act.put, List.setIfInBounds_toArray, List.set_cons_zero, List.set_cons_succ]
      refine take_at (i := 5) rfl (.int .i64 (j : Int)) (by kernel_rfl) (by kernel_rfl) (by kernel_rfl) (fun _ _ _ h => h) rfl (fun w' hw' => by obtain ⟨e1, e2, e3, e4⟩ := HC.out w' hw'; go_simp) HBW.out ?_
      simp only [Act.put, List.setIfInBounds_toArray, List.set_cons_zero, List.set_cons_succ]
      refine take_at (i := 6) rfl (.int .i64 nd) (by kernel_rfl) (by kernel_rfl) (by kernel_rfl) (fun _ _ _ h => h) rfl (fun w' hw' => by obtain ⟨e1, e2, e3, e4⟩ := HC.out w' hw'; go_simp) HBW.out ?_
      simp only [Act.put, List.setIfInBounds_toArray, List.set_cons_zero, List.set_cons_succ]
      refine take_at (i := 8) rfl (.slice A' m m) (by kernel_rfl) (by kernel_rfl) (by kernel_rfl) (fun _ _ _ h => h) rfl (fun w' hw' => by obtain ⟨e1, e2, e3, e4⟩ := HC.out w' hw'; go_simp) HBW.out ?_
      simp only [Act.put, List.setIfInBounds_toArray, List.set_cons_zero, List.set_cons_succ]
      have HKC := hid (fun w' => (HKO.out w').mono (R' := fun e w'' => e = .returned (.int .u8 (kd : Int)) ∧ w'' = w') fun e w'' ⟨he, hw⟩ => ⟨he, hw.symm⟩)
      have HNC := hid (fun w' (hw : Below W.heap.size W w') => HNS.out w' hw)
      have HTR := hid (fun (w' w'' : World) (h1 : Below W.heap.size W w') (h2 : Below w'.heap.size w' w'') => (h1.trans (h2.mono h1.size) : Below W.heap.size W w''))
      refine wpAnyH_all (rs := [7, 10]) (by kernel_rfl) (by simp) (List.forall_mem_cons.2 ⟨?_, List.forall_mem_cons.2 ⟨?_, by simp⟩⟩)
      · refine call_at rfl rfl 53 #[.int .i64 (j : Int), .int .i64 nd] (fun w => by go_simp) (.int .u8 (kd : Int)) _ (HKC.out _) ?_
        rintro _ rfl
        simp only [Act.put, List.setIfInBounds_toArray, List.set_cons_zero, List.set_cons_succ]
        refine ⟨HBW.out, wpAnyH_all (rs := [9,10]) (by kernel_rfl) (by simp) (List.forall_mem_cons.2 ⟨?_, List.forall_mem_cons.2 ⟨?_, by simp⟩⟩)⟩
        · refine call_at rfl rfl 52 #[.int .i64 a2, .int .i64 (at_ + (j : Int)), .int .u8 (kd : Int), .slice A' m m] (fun w => by go_simp) (.agg (bcs SS).toArray) _ (HNC.out _ HBW.out) ?_
          rintro w6 hw6
          simp only [Act.put, List.setIfInBounds_toArray, List.set_cons_zero, List.set_cons_succ]
          have hb6 := HTR.out _ _ HBW.out hw6
          refine ⟨hb6, wpAnyH_all (rs := [10]) (by kernel_rfl) (by simp) (List.forall_mem_cons.2 ⟨?_, by simp⟩)⟩
          have hbn := below_new w6 (.cells ns0.toArray 88)
          have hb7 := HTR.out _ _ hb6 hbn
          have k7 := Blk.new w6 88 ns0.toArray
          have hlo7 : W.heap.size ≤ w6.heap.size := hb6.size
          refine alloc_at rfl rfl 88 rfl _ zero_sec ?_
          simp only [Act.put, List.setIfInBounds_toArray, List.set_cons_zero, List.set_cons_succ]
          refine ⟨hb7, wpAnyH_all (rs := [11]) (by kernel_rfl) (by simp) (List.forall_mem_cons.2 ⟨?_, by simp⟩)⟩
          refine store_at rfl rfl 88 _ _ rfl ⟨w6.heap.size, 0, none⟩ (.agg (bcs SS).toArray) _ rfl rfl (HST.out _ _ k7) ?_
          simp only [Act.put, List.setIfInBounds_toArray, List.set_cons_zero, List.set_cons_succ]
          have hb8 := hb7.trans (below_of_grown (grown_setRow (w6.alloc (.cells ns0.toArray 88)) (w6.heap.size) (bcs SS).toArray) hb7.size (fun g e => by cases e; exact hlo7))
          refine ⟨hb8, wpAnyH_done (by kernel_rfl) ?_ _⟩
          have k8 := k7.setRow (bcs SS).toArray
          try dsimp only [Value.cells]
          have HB7 := hid hb8; have K7 := hid k8
          clear hb7 hb8 k7 k8 hbn hb6 hw6
          generalize (w6.alloc (.cells ns0.toArray 88)).setRow (w6.heap.size) (bcs SS).toArray = w7 at HB7 K7 ⊢
          generalize (w6.heap.size) = g14 at K7 hlo7 ⊢
          clear HKC HNC HTR HST Hsz HNS HKO
          have HLW := hid (HI.out.wl.keep HB7.out)
          have HWR := hid (DevH.write HD.out hG5 hbase HF.out HB7.out.drew hsz5 (a0 + (at_ + (j : Int))) _ 64 64 g14 0 SS (sb_blk K7.out.drew 0 64 SS (by simp [List.take_of_length_le (Nat.le_of_eq hS64)]) hS64) hlo7)
          have hwf := write_fuse (a0 + (at_ + (j : Int))) SS HF.out (by omega)
          have hwn := write_n s' (a0 + (at_ + (j : Int))) SS
          have HWS := hid (show writesS s (a0 + at_) (secsP a2.toNat at_.toNat (needN n) rec (pre ++ [x])) = (writeS s' (a0 + (at_ + (j : Int))) SS, writeE s' (a0 + (at_ + (j : Int))) 64) from by
            rw [HSC.out, writes_more _ (by rw [H5.out]), H5.out, HSL.out, writes_one, show a0 + at_ + (j : Int) = a0 + (at_ + (j : Int)) by omega])
          have hkI7 := (HI.out.ki.keep HB7.out).drew
          have hkN7 := (HI.out.kn.keep HB7.out).drew
          have hsb7 := (HI.out.sb.keep HB7.out).drew
          rw [HJ.out] at hkI7
          have HKI7 := hid hkI7; have HKN7 := hid hkN7; have HSB7 := hid hsb7
          have HWF := hid hwf.1
          have hwl := hwf.2
          clear hkI7 hkN7 hsb7 hwf HCL HKI HKN HSP HC HBW HSC HSL H5
          generalize writeS s' (a0 + (at_ + (j : Int))) SS = s2 at HWR hwn hwl HWF HWS
          generalize writeE s' (a0 + (at_ + (j : Int))) 64 = er at HWR HWS
          gi_wp2
          refine wpIn_region_round (by kernel_rfl) (by kernel_rfl) (by rintro ⟨a, w, h⟩; exact h) ?_
          refine any_phaseT (fun _ => false) 6 (fun _ w' => w' = w7.drew) (fun w' => w' = w7.drew) (fun _ _ h => h) (by kernel_rfl) (by kernel_rfl) rfl ?_
          intro S _ st hS
          have e1 : ∀ y, (st y).cell? ⟨G, 0, none⟩ = some (.pointer (some ⟨g, 0, none⟩)) := fun y => by rw [hS y]; exact HLW.out.drew.cells.1
          have e2 : ∀ y, (st y).cell? ⟨G + 1, 0, none⟩ = some (.int .i64 a0) := fun y => by rw [hS y]; exact HLW.out.drew.cells.2.1
          have e3 : ∀ y, (st y).cell? ⟨gi, 0, none⟩ = some (.int .i64 (at_ + (j : Int))) := fun y => by rw [hS y]; exact HKI7.out.cell 0 rfl
          clear hS
          simp only [List.take_succ_cons, List.take_zero]
          (refine phase_plain rfl (fun K hK => ?_); go_simp; refine hK _ ?_; clear hK K)
          (refine phase_plain rfl (fun K hK => ?_); go_simp; refine hK _ ?_; clear hK K)
          (refine phase_plain rfl (fun K hK => ?_); go_simp; refine hK _ ?_; clear hK K)
          (refine phase_plain rfl (fun K hK => ?_); go_simp; refine hK _ ?_; clear hK K)
          (refine phase_plain rfl (fun K hK => ?_); go_simp; refine hK _ ?_; clear hK K)
          (refine phase_plain rfl (fun K hK => ?_); go_simp; refine hK _ ?_; clear hK K)
          refine phase_nil ?_
          rintro _ rfl
          clear e1 e2 e3
          simp only [List.drop_succ_cons, List.drop_zero]
          go_wp2_with fail
          refine HWR.out.mono ?_
          rintro _ w8 ⟨rfl, hdv, F2, hf2, hf2c, hc2⟩
          have hnF : ∀ b, G ≤ b → b < w5.heap.size → b ∉ F2 := fun b h1 h2 hm => by
            rcases hf2 b hm with hh | hh
            · have := HFL.out b hh; omega
            · omega
          have hL8 : WL w8 G g a0 a1 a2 at_ := HLW.out.drew.chg hc2 (fun b hb => by
            rcases hf2 b hb with hh | hh
            · exact .inl (HFL.out b hh)
            · exact .inr (by omega))
          have kI8 := HKI7.out.chg hc2 (hnF gi (by omega) (by omega))
          have kN8 := HKN7.out.chg hc2 (hnF gn (by omega) (by omega))
          have hsb8 := HSB7.out.chg_pos hc2 (fun hp b off e hb hm => by
            rcases hf2 b hm with hh | hh
            · exact hne (by rw [← hlen]; exact hp) b off e hh
            · omega)
          have hkf8 : KeepsFrom w5.heap.size W w8 := ((keeps_below HB7.out _).trans (keeps_below ((Below.refl w7.heap.size w7).drew) _)).trans (keeps_chg hc2 hf2c _)
          have hkp8 : KpR w4.heap.size w5.heap.size W w8 := ((kp_below HB7.out hsz5).trans (kp_below ((Below.refl w7.heap.size w7).drew) (Nat.le_trans hsz5 HB7.out.size))).trans (kp_chg hc2 (fun b hb => by
            rcases hf2 b hb with hh | hh
            · have := HFL.out b hh; exact .inl (by omega)
            · exact .inr hh) (Nat.le_trans hsz5 HB7.out.size))
          have hsz8 : w5.heap.size ≤ w8.heap.size := Nat.le_trans hsz5 (Nat.le_trans HB7.out.size hc2.size)
          have HDV := hid hdv; have HL8 := hid hL8; have KI8 := hid kI8; have KN8 := hid kN8; have HSB8 := hid hsb8; have HKF8 := hid hkf8; have HKP8 := hid hkp8; have HHF := hid hf2
          clear hdv hL8 kN8 hsb8 hkf8 hkp8 hf2 hf2c hc2 hnF HWR HLW HKI7 HKN7 HSB7 HB7 K7 HD HF
          by_cases her : er = 0
          · subst her
            have c8 := kI8.cell 0 rfl
            have f8 := kI8.frozen 0
            clear kI8
            go_wp2_with fail
            gi_wp2
            have hlenx : at_ + (j : Int) + 1 = at_ + ((pre ++ [x]).length : Int) := by rw [List.length_append, HJ.out]; simp; omega
            have hc := chg_set (w := w8) (d := gi) (L := [gi]) (by simp) 0 (Value.int .i64 (at_ + (j : Int) + 1))
            have hi1 : ∀ b ∈ [gi], b = gi := fun b hb => by simpa using hb
            have kI9 := KI8.out.set_ 0 (Value.int .i64 (at_ + (j : Int) + 1))
            exact ⟨HKF8.out.trans (keeps_chg hc (fun b hb => by rw [hi1 b hb]; exact ⟨_, _, _, KI8.out⟩) _), HKP8.out.trans (kp_chg hc (fun b hb => by rw [hi1 b hb]; exact .inl hg45) hsz8),
              HL8.out.chg hc (fun b hb => by rw [hi1 b hb]; exact .inr (by omega)), KN8.out.far (by show gn ≠ gi; omega) _, by rw [← hlenx]; simpa using kI9, HSB8.out.chg_pos hc (fun _ b off _ hb hm => by have := hi1 b hm; omega), Nat.le_trans hsz8 hc.size,
              s2, HDV.out.set_ (fun b hb => by rw [hge]; exact HFL.out b hb) hc (fun b hb => by rw [hi1 b hb, hge]; omega), HWF.out, by rw [List.length_append, HJ.out]; simp; omega, by rw [hwn]; exact hd4, HWS.out⟩
          · have her' : ¬ (er : Int) = 0 := by omega
            obtain ⟨u3, u4, v3, v4⟩ := HL8.out.outs
            clear kI8
            go_wp2_with fail
            gi_wp2
            have hc := (chg_set (w := w8) (L := [G + 1 + 1 + 1, G + 1 + 1 + 1 + 1]) (d := G + 1 + 1 + 1) (by simp) 0 (Value.int .i64 0)).trans (chg_set (L := [G + 1 + 1 + 1, G + 1 + 1 + 1 + 1]) (d := G + 1 + 1 + 1 + 1) (by simp) 0 (Value.int .i64 (er : Int))) (fun b hb => .inl hb)
            have hi1 : ∀ b ∈ [G + 1 + 1 + 1, G + 1 + 1 + 1 + 1], b = G + 1 + 1 + 1 ∨ b = G + 1 + 1 + 1 + 1 := fun b hb => by simpa using hb
            obtain ⟨q3, q4⟩ := set_two HL8.out.k3 HL8.out.k4 (by omega) (.int .i64 0) (.int .i64 (er : Int))
            exact ⟨HKF8.out.trans (keeps_chg hc (fun b hb => by
              rcases hi1 b hb with hh | hh
              · rw [hh]; exact ⟨_, _, _, HL8.out.k3⟩
              · rw [hh]; exact ⟨_, _, _, HL8.out.k4⟩) _), rfl, s2, er, her, q3, q4, HDV.out.set_ (fun b hb => by rw [hge]; exact HFL.out b hb) hc (fun b hb => by rw [hge]; rcases hi1 b hb with hh | hh <;> omega), HWS.out⟩
        · have hbn := below_new W.drew (.cells ns0.toArray 88)
          have hb6 := HTR.out _ _ HBW.out hbn
          have k6 := Blk.new W.drew 88 ns0.toArray
          have hlo7 : W.heap.size ≤ W.drew.heap.size := Nat.le_refl _
          refine alloc_at rfl rfl 88 rfl _ zero_sec ?_
          simp only [Act.put, List.setIfInBounds_toArray, List.set_cons_zero, List.set_cons_succ]
          refine ⟨hb6, wpAnyH_all (rs := [9]) (by kernel_rfl) (by simp) (List.forall_mem_cons.2 ⟨?_, by simp⟩)⟩
          refine call_at rfl rfl 52 #[.int .i64 a2, .int .i64 (at_ + (j : Int)), .int .u8 (kd : Int), .slice A' m m] (fun w => by go_simp) (.agg (bcs SS).toArray) _ (HNC.out _ hb6) ?_
          rintro w6 hw6
          simp only [Act.put, List.setIfInBounds_toArray, List.set_cons_zero, List.set_cons_succ]
          have hb7 := HTR.out _ _ hb6 hw6
          have k7 := k6.keep hw6
          refine ⟨hb7, wpAnyH_all (rs := [11]) (by kernel_rfl) (by simp) (List.forall_mem_cons.2 ⟨?_, by simp⟩)⟩
          refine store_at rfl rfl 88 _ _ rfl ⟨W.drew.heap.size, 0, none⟩ (.agg (bcs SS).toArray) _ rfl rfl (HST.out _ _ k7) ?_
          simp only [Act.put, List.setIfInBounds_toArray, List.set_cons_zero, List.set_cons_succ]
          have hb8 := hb7.trans (below_of_grown (grown_setRow (w6) (W.drew.heap.size) (bcs SS).toArray) hb7.size (fun g e => by cases e; exact hlo7))
          refine ⟨hb8, wpAnyH_done (by kernel_rfl) ?_ _⟩
          have k8 := k7.setRow (bcs SS).toArray
          try dsimp only [Value.cells]
          have HB7 := hid hb8; have K7 := hid k8
          clear hb7 hb8 k7 k8 hbn hb6 hw6 k6
          generalize (w6).setRow (W.drew.heap.size) (bcs SS).toArray = w7 at HB7 K7 ⊢
          generalize (W.drew.heap.size) = g14 at K7 hlo7 ⊢
          clear HKC HNC HTR HST Hsz HNS HKO
          have HLW := hid (HI.out.wl.keep HB7.out)
          have HWR := hid (DevH.write HD.out hG5 hbase HF.out HB7.out.drew hsz5 (a0 + (at_ + (j : Int))) _ 64 64 g14 0 SS (sb_blk K7.out.drew 0 64 SS (by simp [List.take_of_length_le (Nat.le_of_eq hS64)]) hS64) hlo7)
          have hwf := write_fuse (a0 + (at_ + (j : Int))) SS HF.out (by omega)
          have hwn := write_n s' (a0 + (at_ + (j : Int))) SS
          have HWS := hid (show writesS s (a0 + at_) (secsP a2.toNat at_.toNat (needN n) rec (pre ++ [x])) = (writeS s' (a0 + (at_ + (j : Int))) SS, writeE s' (a0 + (at_ + (j : Int))) 64) from by
            rw [HSC.out, writes_more _ (by rw [H5.out]), H5.out, HSL.out, writes_one, show a0 + at_ + (j : Int) = a0 + (at_ + (j : Int)) by omega])
          have hkI7 := (HI.out.ki.keep HB7.out).drew
          have hkN7 := (HI.out.kn.keep HB7.out).drew
          have hsb7 := (HI.out.sb.keep HB7.out).drew
          rw [HJ.out] at hkI7
          have HKI7 := hid hkI7; have HKN7 := hid hkN7; have HSB7 := hid hsb7
          have HWF := hid hwf.1
          have hwl := hwf.2
          clear hkI7 hkN7 hsb7 hwf HCL HKI HKN HSP HC HBW HSC HSL H5
          generalize writeS s' (a0 + (at_ + (j : Int))) SS = s2 at HWR hwn hwl HWF HWS
          generalize writeE s' (a0 + (at_ + (j : Int))) 64 = er at HWR HWS
          gi_wp2
          refine wpIn_region_round (by kernel_rfl) (by kernel_rfl) (by rintro ⟨a, w, h⟩; exact h) ?_
          refine any_phaseT (fun _ => false) 6 (fun _ w' => w' = w7.drew) (fun w' => w' = w7.drew) (fun _ _ h => h) (by kernel_rfl) (by kernel_rfl) rfl ?_
          intro S _ st hS
          have e1 : ∀ y, (st y).cell? ⟨G, 0, none⟩ = some (.pointer (some ⟨g, 0, none⟩)) := fun y => by rw [hS y]; exact HLW.out.drew.cells.1
          have e2 : ∀ y, (st y).cell? ⟨G + 1, 0, none⟩ = some (.int .i64 a0) := fun y => by rw [hS y]; exact HLW.out.drew.cells.2.1
          have e3 : ∀ y, (st y).cell? ⟨gi, 0, none⟩ = some (.int .i64 (at_ + (j : Int))) := fun y => by rw [hS y]; exact HKI7.out.cell 0 rfl
          clear hS
          simp only [List.take_succ_cons, List.take_zero]
          (refine phase_plain rfl (fun K hK => ?_); go_simp; refine hK _ ?_; clear hK K)
          (refine phase_plain rfl (fun K hK => ?_); go_simp; refine hK _ ?_; clear hK K)
          (refine phase_plain rfl (fun K hK => ?_); go_simp; refine hK _ ?_; clear hK K)
          (refine phase_plain rfl (fun K hK => ?_); go_simp; refine hK _ ?_; clear hK K)
          (refine phase_plain rfl (fun K hK => ?_); go_simp; refine hK _ ?_; clear hK K)
          (refine phase_plain rfl (fun K hK => ?_); go_simp; refine hK _ ?_; clear hK K)
          refine phase_nil ?_
          rintro _ rfl
          clear e1 e2 e3
          simp only [List.drop_succ_cons, List.drop_zero]
          go_wp2_with fail
          refine HWR.out.mono ?_
          rintro _ w8 ⟨rfl, hdv, F2, hf2, hf2c, hc2⟩
          have hnF : ∀ b, G ≤ b → b < w5.heap.size → b ∉ F2 := fun b h1 h2 hm => by
            rcases hf2 b hm with hh | hh
            · have := HFL.out b hh; omega
            · omega
          have hL8 : WL w8 G g a0 a1 a2 at_ := HLW.out.drew.chg hc2 (fun b hb => by
            rcases hf2 b hb with hh | hh
            · exact .inl (HFL.out b hh)
            · exact .inr (by omega))
          have kI8 := HKI7.out.chg hc2 (hnF gi (by omega) (by omega))
          have kN8 := HKN7.out.chg hc2 (hnF gn (by omega) (by omega))
          have hsb8 := HSB7.out.chg_pos hc2 (fun hp b off e hb hm => by
            rcases hf2 b hm with hh | hh
            · exact hne (by rw [← hlen]; exact hp) b off e hh
            · omega)
          have hkf8 : KeepsFrom w5.heap.size W w8 := ((keeps_below HB7.out _).trans (keeps_below ((Below.refl w7.heap.size w7).drew) _)).trans (keeps_chg hc2 hf2c _)
          have hkp8 : KpR w4.heap.size w5.heap.size W w8 := ((kp_below HB7.out hsz5).trans (kp_below ((Below.refl w7.heap.size w7).drew) (Nat.le_trans hsz5 HB7.out.size))).trans (kp_chg hc2 (fun b hb => by
            rcases hf2 b hb with hh | hh
            · have := HFL.out b hh; exact .inl (by omega)
            · exact .inr hh) (Nat.le_trans hsz5 HB7.out.size))
          have hsz8 : w5.heap.size ≤ w8.heap.size := Nat.le_trans hsz5 (Nat.le_trans HB7.out.size hc2.size)
          have HDV := hid hdv; have HL8 := hid hL8; have KI8 := hid kI8; have KN8 := hid kN8; have HSB8 := hid hsb8; have HKF8 := hid hkf8; have HKP8 := hid hkp8; have HHF := hid hf2
          clear hdv hL8 kN8 hsb8 hkf8 hkp8 hf2 hf2c hc2 hnF HWR HLW HKI7 HKN7 HSB7 HB7 K7 HD HF
          by_cases her : er = 0
          · subst her
            have c8 := kI8.cell 0 rfl
            have f8 := kI8.frozen 0
            clear kI8
            go_wp2_with fail
            gi_wp2
            have hlenx : at_ + (j : Int) + 1 = at_ + ((pre ++ [x]).length : Int) := by rw [List.length_append, HJ.out]; simp; omega
            have hc := chg_set (w := w8) (d := gi) (L := [gi]) (by simp) 0 (Value.int .i64 (at_ + (j : Int) + 1))
            have hi1 : ∀ b ∈ [gi], b = gi := fun b hb => by simpa using hb
            have kI9 := KI8.out.set_ 0 (Value.int .i64 (at_ + (j : Int) + 1))
            exact ⟨HKF8.out.trans (keeps_chg hc (fun b hb => by rw [hi1 b hb]; exact ⟨_, _, _, KI8.out⟩) _), HKP8.out.trans (kp_chg hc (fun b hb => by rw [hi1 b hb]; exact .inl hg45) hsz8),
              HL8.out.chg hc (fun b hb => by rw [hi1 b hb]; exact .inr (by omega)), KN8.out.far (by show gn ≠ gi; omega) _, by rw [← hlenx]; simpa using kI9, HSB8.out.chg_pos hc (fun _ b off _ hb hm => by have := hi1 b hm; omega), Nat.le_trans hsz8 hc.size,
              s2, HDV.out.set_ (fun b hb => by rw [hge]; exact HFL.out b hb) hc (fun b hb => by rw [hi1 b hb, hge]; omega), HWF.out, by rw [List.length_append, HJ.out]; simp; omega, by rw [hwn]; exact hd4, HWS.out⟩
          · have her' : ¬ (er : Int) = 0 := by omega
            obtain ⟨u3, u4, v3, v4⟩ := HL8.out.outs
            clear kI8
            go_wp2_with fail
            gi_wp2
            have hc := (chg_set (w := w8) (L := [G + 1 + 1 + 1, G + 1 + 1 + 1 + 1]) (d := G + 1 + 1 + 1) (by simp) 0 (Value.int .i64 0)).trans (chg_set (L := [G + 1 + 1 + 1, G + 1 + 1 + 1 + 1]) (d := G + 1 + 1 + 1 + 1) (by simp) 0 (Value.int .i64 (er : Int))) (fun b hb => .inl hb)
            have hi1 : ∀ b ∈ [G + 1 + 1 + 1, G + 1 + 1 + 1 + 1], b = G + 1 + 1 + 1 ∨ b = G + 1 + 1 + 1 + 1 := fun b hb => by simpa using hb
            obtain ⟨q3, q4⟩ := set_two HL8.out.k3 HL8.out.k4 (by omega) (.int .i64 0) (.int .i64 (er : Int))
            exact ⟨HKF8.out.trans (keeps_chg hc (fun b hb => by
              rcases hi1 b hb with hh | hh
              · rw [hh]; exact ⟨_, _, _, HL8.out.k3⟩
              · rw [hh]; exact ⟨_, _, _, HL8.out.k4⟩) _), rfl, s2, er, her, q3, q4, HDV.out.set_ (fun b hb => by rw [hge]; exact HFL.out b hb) hc (fun b hb => by rw [hge]; rcases hi1 b hb with hh | hh <;> omega), HWS.out⟩
      · have hbn := below_new W.drew (.cells ns0.toArray 88)
        have hb6 := HTR.out _ _ HBW.out hbn
        have k6 := Blk.new W.drew 88 ns0.toArray
        have hlo7 : W.heap.size ≤ W.drew.heap.size := Nat.le_refl _
        refine alloc_at rfl rfl 88 rfl _ zero_sec ?_
        simp only [Act.put, List.setIfInBounds_toArray, List.set_cons_zero, List.set_cons_succ]
        refine ⟨hb6, wpAnyH_all (rs := [7]) (by kernel_rfl) (by simp) (List.forall_mem_cons.2 ⟨?_, by simp⟩)⟩
        refine call_at rfl rfl 53 #[.int .i64 (j : Int), .int .i64 nd] (fun w => by go_simp) (.int .u8 (kd : Int)) _ (HKC.out _) ?_
        rintro _ rfl
        simp only [Act.put, List.setIfInBounds_toArray, List.set_cons_zero, List.set_cons_succ]
        refine ⟨hb6, wpAnyH_all (rs := [9]) (by kernel_rfl) (by simp) (List.forall_mem_cons.2 ⟨?_, by simp⟩)⟩
        refine call_at rfl rfl 52 #[.int .i64 a2, .int .i64 (at_ + (j : Int)), .int .u8 (kd : Int), .slice A' m m] (fun w => by go_simp) (.agg (bcs SS).toArray) _ (HNC.out _ hb6) ?_
        rintro w6 hw6
        simp only [Act.put, List.setIfInBounds_toArray, List.set_cons_zero, List.set_cons_succ]
        have hb7 := HTR.out _ _ hb6 hw6
        have k7 := k6.keep hw6
        refine ⟨hb7, wpAnyH_all (rs := [11]) (by kernel_rfl) (by simp) (List.forall_mem_cons.2 ⟨?_, by simp⟩)⟩
        refine store_at rfl rfl 88 _ _ rfl ⟨W.drew.heap.size, 0, none⟩ (.agg (bcs SS).toArray) _ rfl rfl (HST.out _ _ k7) ?_
        simp only [Act.put, List.setIfInBounds_toArray, List.set_cons_zero, List.set_cons_succ]
        have hb8 := hb7.trans (below_of_grown (grown_setRow (w6) (W.drew.heap.size) (bcs SS).toArray) hb7.size (fun g e => by cases e; exact hlo7))
        refine ⟨hb8, wpAnyH_done (by kernel_rfl) ?_ _⟩
        have k8 := k7.setRow (bcs SS).toArray
        try dsimp only [Value.cells]
        have HB7 := hid hb8; have K7 := hid k8
        clear hb7 hb8 k7 k8 hbn hb6 hw6 k6
        generalize (w6).setRow (W.drew.heap.size) (bcs SS).toArray = w7 at HB7 K7 ⊢
        generalize (W.drew.heap.size) = g14 at K7 hlo7 ⊢
        clear HKC HNC HTR HST Hsz HNS HKO
        have HLW := hid (HI.out.wl.keep HB7.out)
        have HWR := hid (DevH.write HD.out hG5 hbase HF.out HB7.out.drew hsz5 (a0 + (at_ + (j : Int))) _ 64 64 g14 0 SS (sb_blk K7.out.drew 0 64 SS (by simp [List.take_of_length_le (Nat.le_of_eq hS64)]) hS64) hlo7)
        have hwf := write_fuse (a0 + (at_ + (j : Int))) SS HF.out (by omega)
        have hwn := write_n s' (a0 + (at_ + (j : Int))) SS
        have HWS := hid (show writesS s (a0 + at_) (secsP a2.toNat at_.toNat (needN n) rec (pre ++ [x])) = (writeS s' (a0 + (at_ + (j : Int))) SS, writeE s' (a0 + (at_ + (j : Int))) 64) from by
          rw [HSC.out, writes_more _ (by rw [H5.out]), H5.out, HSL.out, writes_one, show a0 + at_ + (j : Int) = a0 + (at_ + (j : Int)) by omega])
        have hkI7 := (HI.out.ki.keep HB7.out).drew
        have hkN7 := (HI.out.kn.keep HB7.out).drew
        have hsb7 := (HI.out.sb.keep HB7.out).drew
        rw [HJ.out] at hkI7
        have HKI7 := hid hkI7; have HKN7 := hid hkN7; have HSB7 := hid hsb7
        have HWF := hid hwf.1
        have hwl := hwf.2
        clear hkI7 hkN7 hsb7 hwf HCL HKI HKN HSP HC HBW HSC HSL H5
        generalize writeS s' (a0 + (at_ + (j : Int))) SS = s2 at HWR hwn hwl HWF HWS
        generalize writeE s' (a0 + (at_ + (j : Int))) 64 = er at HWR HWS
        gi_wp2
        refine wpIn_region_round (by kernel_rfl) (by kernel_rfl) (by rintro ⟨a, w, h⟩; exact h) ?_
        refine any_phaseT (fun _ => false) 6 (fun _ w' => w' = w7.drew) (fun w' => w' = w7.drew) (fun _ _ h => h) (by kernel_rfl) (by kernel_rfl) rfl ?_
        intro S _ st hS
        have e1 : ∀ y, (st y).cell? ⟨G, 0, none⟩ = some (.pointer (some ⟨g, 0, none⟩)) := fun y => by rw [hS y]; exact HLW.out.drew.cells.1
        have e2 : ∀ y, (st y).cell? ⟨G + 1, 0, none⟩ = some (.int .i64 a0) := fun y => by rw [hS y]; exact HLW.out.drew.cells.2.1
        have e3 : ∀ y, (st y).cell? ⟨gi, 0, none⟩ = some (.int .i64 (at_ + (j : Int))) := fun y => by rw [hS y]; exact HKI7.out.cell 0 rfl
        clear hS
        simp only [List.take_succ_cons, List.take_zero]
        (refine phase_plain rfl (fun K hK => ?_); go_simp; refine hK _ ?_; clear hK K)
        (refine phase_plain rfl (fun K hK => ?_); go_simp; refine hK _ ?_; clear hK K)
        (refine phase_plain rfl (fun K hK => ?_); go_simp; refine hK _ ?_; clear hK K)
        (refine phase_plain rfl (fun K hK => ?_); go_simp; refine hK _ ?_; clear hK K)
        (refine phase_plain rfl (fun K hK => ?_); go_simp; refine hK _ ?_; clear hK K)
        (refine phase_plain rfl (fun K hK => ?_); go_simp; refine hK _ ?_; clear hK K)
        refine phase_nil ?_
        rintro _ rfl
        clear e1 e2 e3
        simp only [List.drop_succ_cons, List.drop_zero]
        go_wp2_with fail
        refine HWR.out.mono ?_
        rintro _ w8 ⟨rfl, hdv, F2, hf2, hf2c, hc2⟩
        have hnF : ∀ b, G ≤ b → b < w5.heap.size → b ∉ F2 := fun b h1 h2 hm => by
          rcases hf2 b hm with hh | hh
          · have := HFL.out b hh; omega
          · omega
        have hL8 : WL w8 G g a0 a1 a2 at_ := HLW.out.drew.chg hc2 (fun b hb => by
          rcases hf2 b hb with hh | hh
          · exact .inl (HFL.out b hh)
          · exact .inr (by omega))
        have kI8 := HKI7.out.chg hc2 (hnF gi (by omega) (by omega))
        have kN8 := HKN7.out.chg hc2 (hnF gn (by omega) (by omega))
        have hsb8 := HSB7.out.chg_pos hc2 (fun hp b off e hb hm => by
          rcases hf2 b hm with hh | hh
          · exact hne (by rw [← hlen]; exact hp) b off e hh
          · omega)
        have hkf8 : KeepsFrom w5.heap.size W w8 := ((keeps_below HB7.out _).trans (keeps_below ((Below.refl w7.heap.size w7).drew) _)).trans (keeps_chg hc2 hf2c _)
        have hkp8 : KpR w4.heap.size w5.heap.size W w8 := ((kp_below HB7.out hsz5).trans (kp_below ((Below.refl w7.heap.size w7).drew) (Nat.le_trans hsz5 HB7.out.size))).trans (kp_chg hc2 (fun b hb => by
          rcases hf2 b hb with hh | hh
          · have := HFL.out b hh; exact .inl (by omega)
          · exact .inr hh) (Nat.le_trans hsz5 HB7.out.size))
        have hsz8 : w5.heap.size ≤ w8.heap.size := Nat.le_trans hsz5 (Nat.le_trans HB7.out.size hc2.size)
        have HDV := hid hdv; have HL8 := hid hL8; have KI8 := hid kI8; have KN8 := hid kN8; have HSB8 := hid hsb8; have HKF8 := hid hkf8; have HKP8 := hid hkp8; have HHF := hid hf2
        clear hdv hL8 kN8 hsb8 hkf8 hkp8 hf2 hf2c hc2 hnF HWR HLW HKI7 HKN7 HSB7 HB7 K7 HD HF
        by_cases her : er = 0
        · subst her
          have c8 := kI8.cell 0 rfl
          have f8 := kI8.frozen 0
          clear kI8
          go_wp2_with fail
          gi_wp2
          have hlenx : at_ + (j : Int) + 1 = at_ + ((pre ++ [x]).length : Int) := by rw [List.length_append, HJ.out]; simp; omega
          have hc := chg_set (w := w8) (d := gi) (L := [gi]) (by simp) 0 (Value.int .i64 (at_ + (j : Int) + 1))
          have hi1 : ∀ b ∈ [gi], b = gi := fun b hb => by simpa using hb
          have kI9 := KI8.out.set_ 0 (Value.int .i64 (at_ + (j : Int) + 1))
          exact ⟨HKF8.out.trans (keeps_chg hc (fun b hb => by rw [hi1 b hb]; exact ⟨_, _, _, KI8.out⟩) _), HKP8.out.trans (kp_chg hc (fun b hb => by rw [hi1 b hb]; exact .inl hg45) hsz8),
            HL8.out.chg hc (fun b hb => by rw [hi1 b hb]; exact .inr (by omega)), KN8.out.far (by show gn ≠ gi; omega) _, by rw [← hlenx]; simpa using kI9, HSB8.out.chg_pos hc (fun _ b off _ hb hm => by have := hi1 b hm; omega), Nat.le_trans hsz8 hc.size,
            s2, HDV.out.set_ (fun b hb => by rw [hge]; exact HFL.out b hb) hc (fun b hb => by rw [hi1 b hb, hge]; omega), HWF.out, by rw [List.length_append, HJ.out]; simp; omega, by rw [hwn]; exact hd4, HWS.out⟩
        · have her' : ¬ (er : Int) = 0 := by omega
          obtain ⟨u3, u4, v3, v4⟩ := HL8.out.outs
          clear kI8
          go_wp2_with fail
          gi_wp2
          have hc := (chg_set (w := w8) (L := [G + 1 + 1 + 1, G + 1 + 1 + 1 + 1]) (d := G + 1 + 1 + 1) (by simp) 0 (Value.int .i64 0)).trans (chg_set (L := [G + 1 + 1 + 1, G + 1 + 1 + 1 + 1]) (d := G + 1 + 1 + 1 + 1) (by simp) 0 (Value.int .i64 (er : Int))) (fun b hb => .inl hb)
          have hi1 : ∀ b ∈ [G + 1 + 1 + 1, G + 1 + 1 + 1 + 1], b = G + 1 + 1 + 1 ∨ b = G + 1 + 1 + 1 + 1 := fun b hb => by simpa using hb
          obtain ⟨q3, q4⟩ := set_two HL8.out.k3 HL8.out.k4 (by omega) (.int .i64 0) (.int .i64 (er : Int))
          exact ⟨HKF8.out.trans (keeps_chg hc (fun b hb => by
            rcases hi1 b hb with hh | hh
            · rw [hh]; exact ⟨_, _, _, HL8.out.k3⟩
            · rw [hh]; exact ⟨_, _, _, HL8.out.k4⟩) _), rfl, s2, er, her, q3, q4, HDV.out.set_ (fun b hb => by rw [hge]; exact HFL.out b hb) hc (fun b hb => by rw [hge]; rcases hi1 b hb with hh | hh <;> omega), HWS.out⟩
    case done =>
      intro D xs W hD hxs hI hK
      subst hxs
      clear h0 HW5 KI5 HS6 HSEQ HEG
      obtain ⟨s', hd1, hd2, hd3, hd4, hd5⟩ := hI.dv
      rw [← hlen, secsP_range] at hd5
      have hRR : (s', at_ + nd, 0) = RR := by
        have := HR1.out
        rw [show recSecs a2.toNat at_.toNat rec = (List.range (needN rec.length)).map (recSec a2.toNat at_.toNat rec) from rfl, hd5] at this
        exact this
      have HRR := hid hRR
      have hki : W.cell? ⟨gi, 0, none⟩ = some (.int .i64 (at_ + nd)) := by
        have := hI.ki.cell 0 rfl
        rw [List.length_range, ← HNN.out] at this
        exact this
      obtain ⟨u3, u4, v3, v4⟩ := hI.wl.outs
      have HI := hid hI; have HD := hid hd1; have HKD := hid hK
      clear hI hd1 hd2 hd3 hd4 hd5 hRR hK HR1
      go_wp2_with fail
      have hc := (chg_set (w := W) (L := [G + 1 + 1 + 1, G + 1 + 1 + 1 + 1]) (d := G + 1 + 1 + 1) (by simp) 0 (Value.int .i64 (at_ + nd))).trans (chg_set (L := [G + 1 + 1 + 1, G + 1 + 1 + 1 + 1]) (d := G + 1 + 1 + 1 + 1) (by simp) 0 (Value.int .i64 0)) (fun b hb => .inl hb)
      have hi1 : ∀ b ∈ [G + 1 + 1 + 1, G + 1 + 1 + 1 + 1], b = G + 1 + 1 + 1 ∨ b = G + 1 + 1 + 1 + 1 := fun b hb => by simpa using hb
      obtain ⟨q3, q4⟩ := set_two HI.out.wl.k3 HI.out.wl.k4 (by omega) (.int .i64 (at_ + nd)) (.int .i64 0)
      have hDlt : D < W.heap.size := (Array.getElem?_eq_some_iff.1 HKD.out).1
      have hK2 := (hc.block D hDlt (fun hm => by rcases hi1 D hm with hh | hh <;> omega)).trans HKD.out
      have hd2 := HD.out.set_ (fun b hb => by rw [hge]; exact HFL.out b hb) hc (fun b hb => by rw [hge]; rcases hi1 b hb with hh | hh <;> omega)
      have hnc : ncRow ((W.setCell ⟨G + 1 + 1 + 1, 0, none⟩ (.int .i64 (at_ + nd))).setCell ⟨G + 1 + 1 + 1 + 1, 0, none⟩ (.int .i64 0)) (some D) := fun r e => by cases e; exact ⟨_, hK2, rfl⟩
      refine ⟨by simp, .inl ⟨_, _, rfl, run_takeDeferred hK2, ?_⟩⟩
      refine ⟨_, results_cells2 rfl _ _ ⟨G + 1 + 1 + 1, 0, none⟩ ⟨G + 1 + 1 + 1 + 1, 0, none⟩ _ _ rfl rfl (load_int Try.underlying3 _ _ _ ((q3.nc (grownBy_putObj' _ D _) hnc).cell 0 rfl)) (load_int Try.underlying25 _ _ _ ((q4.nc (grownBy_putObj' _ D _) hnc).cell 0 rfl)), ?_⟩
      rw [← HRR.out]
      exact ⟨rfl, (hd2.nc (grownBy_putObj' _ D _) hnc (fun r e => by cases e; omega)).at_ hG5⟩
    case stop =>
      rintro D c pre W hD ⟨k, hk, rfl⟩ ⟨rfl, hx⟩ hK
      clear h0 HW5 KI5 HS6 HSEQ HEG
      obtain ⟨s', e, he, k3, k4, hd1, hd5⟩ := hx.dv
      rw [← hlen, secsP_range] at hd5
      have hRR : (s', (0 : Int), e) = RR := by
        have h1 : recSecs a2.toNat at_.toNat rec = (List.range k).map (recSec a2.toNat at_.toNat rec) ++ (recSecs a2.toNat at_.toNat rec).drop k := by
          have := (List.take_append_drop k (recSecs a2.toNat at_.toNat rec)).symm
          rw [show (recSecs a2.toNat at_.toNat rec).take k = (List.range k).map (recSec a2.toNat at_.toNat rec) from by
            unfold recSecs
            rw [← List.map_take, List.take_range, Nat.min_eq_left (by rw [hlen]; exact hk)]] at this
          exact this
        have h2 : writesS s (a0 + at_) (recSecs a2.toNat at_.toNat rec) = (s', e) := by
          rw [h1, writes_stop _ (by rw [hd5]; exact he), hd5]
        have := HR1.out
        rw [h2] at this
        simp only at this
        rw [if_neg he] at this
        exact this
      have HRR := hid hRR
      have HD := hid hd1; have HKD := hid hK; have H3 := hid k3; have H4 := hid k4
      clear hx hd1 hd5 hRR hK HR1 k3 k4
      refine wpIn_wide.2 ?_
      go_wp2_with fail
      have hnc : ncRow W (some D) := fun r e => by cases e; exact ⟨_, HKD.out, rfl⟩
      refine ⟨by simp, .inl ⟨_, _, rfl, run_takeDeferred HKD.out, ?_⟩⟩
      refine ⟨_, results_cells2 rfl _ _ ⟨G + 1 + 1 + 1, 0, none⟩ ⟨G + 1 + 1 + 1 + 1, 0, none⟩ _ _ rfl rfl (load_int Try.underlying3 _ _ _ ((H3.out.nc (grownBy_putObj' _ D _) hnc).cell 0 rfl)) (load_int Try.underlying25 _ _ _ ((H4.out.nc (grownBy_putObj' _ D _) hnc).cell 0 rfl)), ?_⟩
      rw [← HRR.out]
      exact ⟨rfl, (HD.out.nc (grownBy_putObj' _ D _) hnc (fun r e => by cases e; omega)).at_ hG5⟩
  · have hR2 := HRR.out
    rw [show logWR s ⟨a0, a1, a2⟩ at_ rec = (s, 0, checkE s.n ⟨a0, a1, a2⟩) from if_neg hC] at hR2
    have HR2 := hid hR2
    clear hR2 HRR
    have hC' : ¬ ((checkE s.n ⟨a0, a1, a2⟩ : Nat) : Int) = 0 := by omega
    generalize checkE s.n ⟨a0, a1, a2⟩ = C at hC' HR2 ⊢
    obtain ⟨u3, u4, v3, v4⟩ := HL.out.outs
    clear hC
    go_wp2_with fail
    refine ⟨_, two_results (x := .int .i64 0) (e := .int .i64 (C : Int)) rfl _ rfl rfl HL.out.k3 HL.out.k4, ?_⟩
    rw [← HR2.out]
    exact ⟨rfl, DevAt.start HH.out (by rw [hge]; exact HRET.out _ _ _ (by rw [← hge]; exact BW.out))⟩
end
end Go.Proofs.Ytiejndkchcljdaa
