/- Contract of clouds: Join. Written by tools/mkoc9.py. -/
import Derived.Test.YthjflgnoeenenaaOcTog
import Derived.Test.YthjflgnoeenenaaOcMk
namespace Go.Proofs.Ythjflgnoeenenaa
open Go Go.RowKit Cl

theorem done_of {l : List Oper} {f : Nat → Bool} (hcl : ∀ j p, l[j]? = some p → f j = true → ∀ e ∈ p.after, Region.binds .any e = true → f e.on = true) {j : Nat} (hf : f j = true) (i : Nat) (h : ((l[j]?).map fun p => p.after.toList.any fun e => Region.binds .any e && (e.on == i)) = some true) : f i = true := by
  obtain ⟨p, hp, hq⟩ := Option.map_eq_some_iff.1 h
  exact dep_of (hcl j p hp hf) i hq
theorem OwnD.blk2 {w : World} {base n : Nat} {v : Value} {ds : List Dt} (h : OwnD w base v n ds) {p : Nat} {t : TypeId} {cs : Array Value} (k : Blk w p t cs) (ht : 27 ≠ t) : v.ownBlock ≠ some p := fun e => by
  obtain ⟨_, hb⟩ := h.blk e
  exact blk_ne hb k ht rfl
/-- a draft that has numbers and no dots yet -/
def DrB (w5 W : World) (v : Value) (F : List Int) : Prop := ∃ p bf cf, v = .pointer (some ⟨p, 0, none⟩) ∧ w5.heap.size ≤ p ∧ Blk W p 86 #[.slice (some ⟨bf, 0, none⟩) 16 cf, .slice none 0 0] ∧ OwnN W w5.heap.size (.slice (some ⟨bf, 0, none⟩) 16 cf) 16 F
theorem DrB.keep {w5 W W' : World} {v : Value} {F : List Int} (h : DrB w5 W v F) (hb : Below W.heap.size W W') : DrB w5 W' v F := by
  obtain ⟨p, bf, cf, h1, h2, h3, h4⟩ := h
  exact ⟨p, bf, cf, h1, h2, h3.keep hb, h4.keep hb⟩
/-- a draft that has all -/
def DrF (w5 W : World) (v : Value) (s : List Int × List Dt) : Prop := ∃ p bf cf vd, v = .pointer (some ⟨p, 0, none⟩) ∧ Blk W p 86 #[.slice (some ⟨bf, 0, none⟩) 16 cf, vd] ∧ OwnN W w5.heap.size (.slice (some ⟨bf, 0, none⟩) 16 cf) 16 s.1 ∧ OwnD W w5.heap.size vd s.2.length s.2
theorem DrF.keep {w5 W W' : World} {v : Value} {s : List Int × List Dt} (h : DrF w5 W v s) (hb : Below W.heap.size W W') : DrF w5 W' v s := by
  obtain ⟨p, bf, cf, vd, h1, h3, h4, h5⟩ := h
  exact ⟨p, bf, cf, vd, h1, h3.keep hb, h4.keep hb, h5.keep hb⟩
/-- a cloud of the call's own -/
def ClO (base : Nat) (W : World) (V D : Value) (R : Cd) : Prop := OwnN W base V R.1.length R.1 ∧ OwnD W base D R.2.length R.2 ∧ ∀ b, V.ownBlock = some b → D.ownBlock ≠ some b
theorem ClO.keep {base : Nat} {W W' : World} {V D : Value} {R : Cd} (h : ClO base W V D R) (hb : Below W.heap.size W W') : ClO base W' V D R := ⟨h.1.keep hb, h.2.1.keep hb, h.2.2⟩
def CdO (w5 W : World) (v : Value) (R : Cd) : Prop := ∃ V D, v = .tuple #[.agg #[V, D], .int .i64 0] ∧ ClO w5.heap.size W V D R
/-- on the way through a join -/
structure JnS (w5 : World) (q : Nat) (va vb : List Int) (L : List Dt) (s : List Int × List Dt) (R : Cd) (f : Nat → Bool) (gh : Nat → Value) (W : World) : Prop where
  bel : f 16 = false → Below w5.heap.size w5 W
  d0 : f 0 = true → f 3 = false → DrB w5 W (gh 0) (List.replicate 16 0)
  d1 : f 3 = true → f 6 = false → DrB w5 W (gh 3) (pad va)
  d2 : f 6 = true → f 12 = false → DrB w5 W (gh 6) (maxV va vb)
  tg : f 11 = true → f 12 = false → OwnD W w5.heap.size (gh 11) L.length L
  ab : f 12 = true → f 13 = false → DrF w5 W (gh 12) s
  dn : f 13 = true → f 16 = false → CdO w5 W (gh 13) R
  ex : f 14 = true → f 16 = false → ∃ V D, gh 14 = .agg #[V, D] ∧ ClO w5.heap.size W V D R
  fin : f 16 = true → ∃ V D W0, Below w5.heap.size w5 W0 ∧ ClO w5.heap.size W V D R ∧ Blk W q 25 #[V, D] ∧ W = W0.setRow q #[V, D]
section
variable {w5 : World} {q : Nat} {va vb : List Int} {L : List Dt} {s : List Int × List Dt} {R : Cd} {f : Nat → Bool} {gh : Nat → Value} {W W' : World}
theorem JnS.start (gh : Nat → Value) : JnS w5 q va vb L s R (fun j => decide (18 ≤ j)) gh w5.drew where
  bel := fun _ => (Below.refl _ _).drew
  d0 := fun e => by simp at e
  d1 := fun e => by simp at e
  d2 := fun e => by simp at e
  tg := fun e => by simp at e
  ab := fun e => by simp at e
  dn := fun e => by simp at e
  ex := fun e => by simp at e
  fin := fun e => by simp at e
theorem JnS.same (h : JnS w5 q va vb L s R f gh W) (i : Nat) (v : Value) (n0 : 0 ≠ i) (n3 : 3 ≠ i) (n6 : 6 ≠ i) (n11 : 11 ≠ i) (n12 : 12 ≠ i) (n13 : 13 ≠ i) (n14 : 14 ≠ i) (n16 : 16 ≠ i) : JnS w5 q va vb L s R (upd f i) (updN gh i v) W where
  bel := fun e => by rw [un_ne n16] at e; exact h.bel e
  d0 := fun e e2 => by rw [un_ne n0] at e; rw [un_ne n3] at e2; rw [unN_ne n0]; exact h.d0 e e2
  d1 := fun e e2 => by rw [un_ne n3] at e; rw [un_ne n6] at e2; rw [unN_ne n3]; exact h.d1 e e2
  d2 := fun e e2 => by rw [un_ne n6] at e; rw [un_ne n12] at e2; rw [unN_ne n6]; exact h.d2 e e2
  tg := fun e e2 => by rw [un_ne n11] at e; rw [un_ne n12] at e2; rw [unN_ne n11]; exact h.tg e e2
  ab := fun e e2 => by rw [un_ne n12] at e; rw [un_ne n13] at e2; rw [unN_ne n12]; exact h.ab e e2
  dn := fun e e2 => by rw [un_ne n13] at e; rw [un_ne n16] at e2; rw [unN_ne n13]; exact h.dn e e2
  ex := fun e e2 => by rw [un_ne n14] at e; rw [un_ne n16] at e2; rw [unN_ne n14]; exact h.ex e e2
  fin := fun e => by rw [un_ne n16] at e; exact h.fin e
theorem JnS.start0 (h : JnS w5 q va vb L s R f gh W) (n3 : f 3 = false) (n6 : f 6 = false) (n12 : f 12 = false) (n13 : f 13 = false) (n14 : f 14 = false) (n16 : f 16 = false) (hb : Below W.heap.size W W') {v : Value} (hv : DrB w5 W' v (List.replicate 16 0)) : JnS w5 q va vb L s R (upd f 0) (updN gh 0 v) W' where
  bel := fun _ => (h.bel n16).trans (hb.mono (h.bel n16).size)
  d0 := fun _ _ => by rw [unN_eq]; exact hv
  d1 := fun e => by rw [un_ne (by decide), n3] at e; cases e
  d2 := fun e => by rw [un_ne (by decide), n6] at e; cases e
  tg := fun e e2 => by rw [un_ne (by decide)] at e e2; rw [unN_ne (by decide)]; exact (h.tg e e2).keep hb
  ab := fun e => by rw [un_ne (by decide), n12] at e; cases e
  dn := fun e => by rw [un_ne (by decide), n13] at e; cases e
  ex := fun e => by rw [un_ne (by decide), n14] at e; cases e
  fin := fun e => by rw [un_ne (by decide), n16] at e; cases e
theorem JnS.tog (h : JnS w5 q va vb L s R f gh W) (n12 : f 12 = false) (n13 : f 13 = false) (n14 : f 14 = false) (n16 : f 16 = false) (hb : Below W.heap.size W W') {v : Value} (hv : OwnD W' w5.heap.size v L.length L) : JnS w5 q va vb L s R (upd f 11) (updN gh 11 v) W' where
  bel := fun _ => (h.bel n16).trans (hb.mono (h.bel n16).size)
  d0 := fun e e2 => by rw [un_ne (by decide)] at e e2; rw [unN_ne (by decide)]; exact (h.d0 e e2).keep hb
  d1 := fun e e2 => by rw [un_ne (by decide)] at e e2; rw [unN_ne (by decide)]; exact (h.d1 e e2).keep hb
  d2 := fun e e2 => by rw [un_ne (by decide)] at e e2; rw [unN_ne (by decide)]; exact (h.d2 e e2).keep hb
  tg := fun _ _ => by rw [unN_eq]; exact hv
  ab := fun e => by rw [un_ne (by decide), n12] at e; cases e
  dn := fun e => by rw [un_ne (by decide), n13] at e; cases e
  ex := fun e => by rw [un_ne (by decide), n14] at e; cases e
  fin := fun e => by rw [un_ne (by decide), n16] at e; cases e
theorem JnS.raise3 (h : JnS w5 q va vb L s R f gh W) (n6 : f 6 = false) (n12 : f 12 = false) (n13 : f 13 = false) (n14 : f 14 = false) (n16 : f 16 = false) {p : Nat} {cs : Array Value} (hp : w5.heap.size ≤ p) (hk : Blk W p 86 cs) (hg : W.grownBy W' (some p)) {v : Value} (hv : DrB w5 W' v (pad va)) : JnS w5 q va vb L s R (upd f 3) (updN gh 3 v) W' where
  bel := fun _ => (h.bel n16).trans (below_of_grown hg (h.bel n16).size (fun b e => by injection e with e; omega))
  d0 := fun _ e => by rw [un_eq] at e; cases e
  d1 := fun _ _ => by rw [unN_eq]; exact hv
  d2 := fun e => by rw [un_ne (by decide), n6] at e; cases e
  tg := fun e e2 => by rw [un_ne (by decide)] at e e2; rw [unN_ne (by decide)]; exact (h.tg e e2).kept hg (.inr ((h.tg e e2).blk2 hk (by decide)))
  ab := fun e => by rw [un_ne (by decide), n12] at e; cases e
  dn := fun e => by rw [un_ne (by decide), n13] at e; cases e
  ex := fun e => by rw [un_ne (by decide), n14] at e; cases e
  fin := fun e => by rw [un_ne (by decide), n16] at e; cases e
theorem JnS.raise6 (h : JnS w5 q va vb L s R f gh W) (n12 : f 12 = false) (n13 : f 13 = false) (n14 : f 14 = false) (n16 : f 16 = false) (e3 : f 3 = true) {p : Nat} {cs : Array Value} (hp : w5.heap.size ≤ p) (hk : Blk W p 86 cs) (hg : W.grownBy W' (some p)) {v : Value} (hv : DrB w5 W' v (maxV va vb)) : JnS w5 q va vb L s R (upd f 6) (updN gh 6 v) W' where
  bel := fun _ => (h.bel n16).trans (below_of_grown hg (h.bel n16).size (fun b e => by injection e with e; omega))
  d0 := fun _ e => by rw [un_ne (by decide), e3] at e; cases e
  d1 := fun _ e => by rw [un_eq] at e; cases e
  d2 := fun _ _ => by rw [unN_eq]; exact hv
  tg := fun e e2 => by rw [un_ne (by decide)] at e e2; rw [unN_ne (by decide)]; exact (h.tg e e2).kept hg (.inr ((h.tg e e2).blk2 hk (by decide)))
  ab := fun e => by rw [un_ne (by decide), n12] at e; cases e
  dn := fun e => by rw [un_ne (by decide), n13] at e; cases e
  ex := fun e => by rw [un_ne (by decide), n14] at e; cases e
  fin := fun e => by rw [un_ne (by decide), n16] at e; cases e
theorem JnS.abs (h : JnS w5 q va vb L s R f gh W) (n13 : f 13 = false) (n14 : f 14 = false) (n16 : f 16 = false) (e6 : f 6 = true) (e3 : f 3 = true) (_ : f 0 = true) (hb : Below w5.heap.size W W') {v : Value} (hv : DrF w5 W' v s) : JnS w5 q va vb L s R (upd f 12) (updN gh 12 v) W' where
  bel := fun _ => (h.bel n16).trans hb
  d0 := fun _ e => by rw [un_ne (by decide), e3] at e; cases e
  d1 := fun _ e => by rw [un_ne (by decide), e6] at e; cases e
  d2 := fun _ e => by rw [un_eq] at e; cases e
  tg := fun _ e => by rw [un_eq] at e; cases e
  ab := fun _ _ => by rw [unN_eq]; exact hv
  dn := fun e => by rw [un_ne (by decide), n13] at e; cases e
  ex := fun e => by rw [un_ne (by decide), n14] at e; cases e
  fin := fun e => by rw [un_ne (by decide), n16] at e; cases e
theorem JnS.don (h : JnS w5 q va vb L s R f gh W) (n14 : f 14 = false) (n16 : f 16 = false) (e12 : f 12 = true) (e6 : f 6 = true) (e3 : f 3 = true) (hb : Below W.heap.size W W') {v : Value} (hv : CdO w5 W' v R) : JnS w5 q va vb L s R (upd f 13) (updN gh 13 v) W' where
  bel := fun _ => (h.bel n16).trans (hb.mono (h.bel n16).size)
  d0 := fun _ e => by rw [un_ne (by decide), e3] at e; cases e
  d1 := fun _ e => by rw [un_ne (by decide), e6] at e; cases e
  d2 := fun _ e => by rw [un_ne (by decide), e12] at e; cases e
  tg := fun _ e => by rw [un_ne (by decide), e12] at e; cases e
  ab := fun _ e => by rw [un_eq] at e; cases e
  dn := fun _ _ => by rw [unN_eq]; exact hv
  ex := fun e => by rw [un_ne (by decide), n14] at e; cases e
  fin := fun e => by rw [un_ne (by decide), n16] at e; cases e
theorem JnS.ext (h : JnS w5 q va vb L s R f gh W) (e13 : f 13 = true) (e12 : f 12 = true) (e6 : f 6 = true) (e3 : f 3 = true) (n16 : f 16 = false) : ∃ V D, gh 13 = .tuple #[.agg #[V, D], .int .i64 0] ∧ JnS w5 q va vb L s R (upd f 14) (updN gh 14 (.agg #[V, D])) W := by
  obtain ⟨V, D, hv, hc⟩ := h.dn e13 n16
  refine ⟨V, D, hv, ?_⟩
  exact {
    bel := fun e => by rw [un_ne (by decide)] at e; exact h.bel e
    d0 := fun _ e => by rw [un_ne (by decide), e3] at e; cases e
    d1 := fun _ e => by rw [un_ne (by decide), e6] at e; cases e
    d2 := fun _ e => by rw [un_ne (by decide), e12] at e; cases e
    tg := fun _ e => by rw [un_ne (by decide), e12] at e; cases e
    ab := fun _ e => by rw [un_ne (by decide), e13] at e; cases e
    dn := fun e e2 => by rw [un_ne (by decide)] at e e2; rw [unN_ne (by decide)]; exact h.dn e e2
    ex := fun _ _ => by rw [unN_eq]; exact ⟨V, D, rfl, hc⟩
    fin := fun e => by rw [un_ne (by decide)] at e; exact h.fin e }
theorem JnS.sto (h : JnS w5 q va vb L s R f gh W) (e14 : f 14 = true) (e13 : f 13 = true) (e12 : f 12 = true) (e6 : f 6 = true) (e3 : f 3 = true) (n16 : f 16 = false) (hq : Blk w5 q 25 #[.slice none 0 0, .slice none 0 0]) (v : Value) : ∃ V D, gh 14 = .agg #[V, D] ∧ Blk W q 25 #[.slice none 0 0, .slice none 0 0] ∧ (#[V, D] : Array Value).toList.all (·.oneCell') = true ∧ JnS w5 q va vb L s R (upd f 16) (updN gh 16 v) (W.setRow q #[V, D]) := by
  obtain ⟨V, D, hv, hc⟩ := h.ex e14 n16
  have hb := h.bel n16
  have hk := hq.keep hb
  have hg := grown_setRow W q #[V, D]
  have hql := hq.lt
  obtain ⟨A1, c1, rfl, _⟩ := hc.1.ni
  obtain ⟨A2, c2, rfl, _⟩ := hc.2.1.nd
  refine ⟨_, _, hv, hk, rfl, ?_⟩
  exact {
    bel := fun e => by rw [un_eq] at e; cases e
    d0 := fun _ e => by rw [un_ne (by decide), e3] at e; cases e
    d1 := fun _ e => by rw [un_ne (by decide), e6] at e; cases e
    d2 := fun _ e => by rw [un_ne (by decide), e12] at e; cases e
    tg := fun _ e => by rw [un_ne (by decide), e12] at e; cases e
    ab := fun _ e => by rw [un_ne (by decide), e13] at e; cases e
    dn := fun _ e => by rw [un_eq] at e; cases e
    ex := fun _ e => by rw [un_eq] at e; cases e
    fin := fun _ => ⟨_, _, W, hb, ⟨hc.1.kept hg (.inr fun e => by have := (hc.1.lt q e).1; omega), hc.2.1.kept hg (.inr fun e => by have := (hc.2.1.lt q e).1; omega), hc.2.2⟩, hk.setRow _, rfl⟩ }
end
def vJn (A : Option Addr) (B : Option Addr) (n : Nat) (m : Nat) (e : Nat) (c : Nat) (p : Nat) (p2 : Nat) (c2 : Nat) (A2 : Option Addr) (B2 : Option Addr) (n2 : Nat) (m2 : Nat) (e2 : Nat) : Nat → Value → Value
  | 0, k => k
  | 1, _ => .pointer (some ⟨p, 0, none⟩)
  | 2, _ => .slice A n c
  | 3, k => k
  | 4, _ => .pointer (some ⟨p2, 0, none⟩)
  | 5, _ => .slice A2 n2 c2
  | 6, k => k
  | 7, _ => .pointer (some ⟨p, 1, none⟩)
  | 8, _ => .slice B m e
  | 9, _ => .pointer (some ⟨p2, 1, none⟩)
  | 10, _ => .slice B2 m2 e2
  | 11, k => k
  | 12, k => k
  | 13, k => k
  | 14, k => k
  | 15, _ => .int .i64 0
  | 17, _ => .int .i64 0
  | _, _ => undef
set_option maxRecDepth 20000 in
set_option maxHeartbeats 4000000 in
theorem ocJoin_calls (n c m e n2 c2 m2 e2 : Nat) (A B A2 B2 : Option Addr) (v v2 : List Int) (ds ds2 : List Dt) (w : World) (h1 : NI w A n v) (h2 : ND w B m ds) (h3 : NI w A2 n2 v2) (h4 : ND w B2 m2 ds2) (hn : n ≤ 1000000) (hn2 : n2 ≤ 1000000) (hm : m + m2 ≤ 4096) (hnc : n ≤ c) (hnc2 : n2 ≤ c2) (hme : m ≤ e) (hme2 : m2 ≤ e2) :
    Calls Try.prog 27 #[cdv A n c B m e, cdv A2 n2 c2 B2 m2 e2] w fun x w' => ∃ V D, x = .returned (.tuple #[.agg #[V, D], .int .i64 (joinB (v, ds) (v2, ds2)).2]) ∧ ClO w.heap.size w' V D (joinB (v, ds) (v2, ds2)).1 ∧ Below w.heap.size w w' := by
  have hz := (zero_of_info info_cloud).1
  obtain ⟨w1, hw1, k1, k2, hb⟩ := two_clouds w #[.slice A n c, .slice B m e] #[.slice A2 n2 c2, .slice B2 m2 e2]
  have hs1 : w1.heap.size = w.heap.size + 2 := by rw [hw1]; simp
  have b3 := below_new w1 (.cells #[.slice none 0 0, .slice none 0 0] 25)
  have k3 := Blk.new w1 25 #[.slice none 0 0, .slice none 0 0]
  obtain ⟨w3, hw3⟩ : ∃ w3, w1.alloc (.cells #[.slice none 0 0, .slice none 0 0] 25) = w3 := ⟨_, rfl⟩
  rw [hw3] at b3 k3
  obtain ⟨p, hp⟩ : ∃ p, w.heap.size = p := ⟨_, rfl⟩
  obtain ⟨p2, hp2⟩ : ∃ p2, p + 1 = p2 := ⟨_, rfl⟩
  obtain ⟨q, hq⟩ : ∃ q, p2 + 1 = q := ⟨_, rfl⟩
  rw [hp] at k1 k2
  rw [hp2] at k2
  rw [show w1.heap.size = q by omega] at k3
  have bb := hb.trans (b3.mono hb.size)
  have HW1 := hid hw1; have HW3 := hid hw3; have HB := hid bb; have HPP := hid hp; have HPP2 := hid hp2; have HQQ := hid hq
  have HC := hid (ocBoth_calls n c m e n2 c2 m2 e2 A B A2 B2 v v2 ds ds2 w3 (h1.keep bb) (h2.keep bb) (h3.keep bb) (h4.keep bb) hn (by omega) hn2 (by omega) hnc hnc2)
  have K1 := hid (k1.keep b3); have K2 := hid (k2.keep b3); have K3 := hid k3
  have H1 := hid (h1.keep bb); have H2 := hid (h2.keep bb); have H3 := hid (h3.keep bb); have H4 := hid (h4.keep bb)
  have L1 := hid h1.1; have L2 := hid h2.1; have L3 := hid h3.1; have L4 := hid h4.1
  obtain ⟨ck, hck⟩ : ∃ ck, bothC (v, ds) (v2, ds2) = ck := ⟨_, rfl⟩
  rw [hck] at HC
  have HCK := hid hck
  have c0 := (k1.keep b3).cell 0 rfl; have c1 := (k1.keep b3).cell 1 rfl; have c3 := (k2.keep b3).cell 0 rfl; have c4 := (k2.keep b3).cell 1 rfl
  clear h1 h2 h3 h4 hw1 hw3 hb b3 bb hp hp2 hq k1 k2 k3 hck hs1
  unfold cdv at HC
  show Calls Try.prog 27 #[.agg #[.slice A n c, .slice B m e], .agg #[.slice A2 n2 c2, .slice B2 m2 e2]] w _
  go_enter Try.func27, Try.ntmps27
  go_wp2_with fail
  rw [← HW1.out, HW3.out, HPP.out, HPP2.out, HQQ.out]
  go_wp2_with fail
  refine HC.out.mono ?_
  rintro x W5 ⟨rfl, hb5⟩
  have HB5 := hid (HB.out.trans (hb5.mono HB.out.size))
  have KA := hid (K1.out.keep hb5); have KB := hid (K2.out.keep hb5); have KQ := hid (K3.out.keep hb5)
  have HA1 := hid (H1.out.keep hb5); have HA2 := hid (H2.out.keep hb5); have HA3 := hid (H3.out.keep hb5); have HA4 := hid (H4.out.keep hb5)
  have HSZ := hid (show w.heap.size ≤ W5.heap.size ∧ q < W5.heap.size ∧ w.heap.size ≤ q from ⟨HB5.out.size, KQ.out.lt, by have := HPP.out; have := HPP2.out; have := HQQ.out; omega⟩)
  clear hb5 c0 c1 c3 c4 HC
  by_cases h0 : ck = 0
  · have hcc := (both_iff (v, ds) (v2, ds2)).1 (HCK.out.trans h0)
    have ok1 := check_ok hcc.1; have ok2 := check_ok hcc.2
    have HOK1 := hid ok1; have HOK2 := hid ok2
    have HJB := hid (joinB_ok hcc.1 hcc.2 (by show ds.length + ds2.length ≤ 4096; rw [L2.out, L4.out]; exact hm))
    have hn16 : n ≤ 16 := by rw [← L1.out]; exact ok1.rg.1
    have hn216 : n2 ≤ 16 := by rw [← L3.out]; exact ok2.rg.1
    have hsp := mrg_spec _ ds ds2 (Nat.le_refl _) ok1.rg.2.2 ok2.rg.2.2 ok1.can.sorted ok2.can.sorted
    obtain ⟨L, hL⟩ : ∃ L, (mrg ds ds2).map (·.1) = L := ⟨_, rfl⟩
    have hLN : (mrg ds ds2).length = L.length := by rw [← hL]; simp
    have hLL : L.length ≤ 4096 := by
      rw [← hLN]
      have := mrg_len _ ds ds2 (Nat.le_refl _) ok1.rg.2.2 ok2.rg.2.2
      have := L2.out; have := L4.out
      omega
    rw [hL] at hsp
    have hrg := max_ranged ok1.rg ok2.rg
    have hrg : ranged (maxV v v2) (ds ++ ds2) := hrg
    have hab := abs_formed (v := maxV v v2) (l := L) (ds := ds ++ ds2) (asc_of_lt hsp.1) (fun x => by rw [hsp.2.1, List.mem_append])
    rw [pad_full (show (maxV v v2).length = 16 by simp [maxV])] at hab
    obtain ⟨s, hs⟩ : ∃ s, absI (maxV v v2) L L.length = s := ⟨_, rfl⟩
    rw [hs] at hab
    have HABS := hid hs
    have HLD := hid (show ∀ x ∈ L, dotted x from fun x hx => hrg.2.2 x (List.mem_append.2 ((hsp.2.1 x).1 hx)))
    have HMX := hid (show ∀ x ∈ maxV v v2, 0 ≤ x ∧ x ≤ 1048576 from hrg.2.1)
    obtain ⟨R, hR⟩ : ∃ R, joinC (v, ds) (v2, ds2) = R := ⟨_, rfl⟩
    have hab2 : (trim s.1, s.2) = R := by rw [← hR]; exact hab
    have HR1 := hid (show trim s.1 = R.1 from by rw [← hab2])
    have HR2 := hid (show s.2 = R.2 from by rw [← hab2])
    have HRL := hid (show R.2.length ≤ 4096 from by
      rw [← HR2.out, ← hs]; exact Nat.le_trans (abs_dots _ _ _) hLL)
    have HJR := hid (show joinB (v, ds) (v2, ds2) = (R, 0) from by rw [HJB.out, hR])
    have HTG := hid (fun W (hb : Below W5.heap.size W5 W) => show Calls Try.prog 56 #[.slice B m e, .slice B2 m2 e2] W fun x w' => ∃ v, x = .returned v ∧ OwnD w' W.heap.size v L.length L ∧ Below W.heap.size W w' from by
      have := ocTog_calls m e m2 e2 B B2 ds ds2 W (HA2.out.keep hb) (HA4.out.keep hb) (by omega) hme hme2 HOK1.out.rg.2.2 HOK2.out.rg.2.2
      rw [hL, hLN] at this
      exact this)
    have HJ0 := hid (show joinV (List.replicate 16 0) v = pad v from joinV_pad ok1.rg.2.1 (by rw [L1.out]; exact hn16))
    have HJ1 := hid (show joinV (pad v) v2 = maxV v v2 from joinV_max ok1.rg.2.1 ok2.rg.2.1 (by rw [L1.out]; exact hn16) (by rw [L3.out]; exact hn216))
    have HN16 := hid hn16; have HN216 := hid hn216; have HLL := hid hLL
    subst h0
    clear hcc ok1 ok2 hn16 hn216 hsp hL hLN hLL hrg hab hs hR hab2 HCK
    go_wp2_with fail
    refine wp_region_invG 30 (.pointer none) (vJn A B n m e c p p2 c2 A2 B2 n2 m2 e2) (JnS W5 q v v2 L s R) (by kernel_rfl) (by kernel_rfl) (by exact Nat.le_refl 30) ?_ ?_ ?_
    · exact JnS.start _
    · intro i o f gh a W hi hf hdep hsame hcl hval hS
      rcases i with _ | _ | _ | _ | _ | _ | _ | _ | _ | _ | _ | _ | _ | _ | _ | _ | _ | _ | i
      all_goals simp only [List.getElem?_cons_succ, List.getElem?_cons_zero, List.getElem?_nil, Option.some.injEq, reduceCtorEq] at hi
      all_goals subst hi
      · refine g_plain rfl ?_
        have n3 := not_yet hcl hf 3 (by rfl)
        have n6 := not_yet hcl n3 6 (by rfl)
        have n12 := not_yet hcl n6 12 (by rfl)
        have n13 := not_yet hcl n12 13 (by rfl)
        have n14 := not_yet hcl n13 14 (by rfl)
        have n16 := not_yet hcl n14 16 (by rfl)
        refine does_call 37 #[] (by go_simp) ((ocStart_calls W).mono ?_)
        rintro _ W' ⟨pd, bf, rfl, hkd, hod, hpd, hbd⟩
        have hsz := (hS.bel n16).size
        exact ⟨_, rfl, _, .inr rfl, hS.start0 n3 n6 n12 n13 n14 n16 hbd ⟨pd, bf, 16, rfl, Nat.le_trans hsz hpd, hkd, hod.lower hsz⟩⟩
      · have E2 : a.tmps[2]? = some (.pointer (some ⟨p, 0, none⟩)) := (same_of hsame 2 (by rfl)).trans rfl
        refine g_plain rfl ?_
        exact does_value (w' := W) (v := .pointer (some ⟨p, 0, none⟩)) (by go_simp) ⟨.pointer none, .inr rfl, hS.same 1 _ (by decide) (by decide) (by decide) (by decide) (by decide) (by decide) (by decide) (by decide)⟩
      · have E15 := hval 1 _ 15 rfl rfl (dep_of hdep 1 (by rfl))
        unfold vJn at E15
        have n3 := not_yet hcl hf 3 (by rfl)
        have n6 := not_yet hcl n3 6 (by rfl)
        have n12 := not_yet hcl n6 12 (by rfl)
        have n13 := not_yet hcl n12 13 (by rfl)
        have n14 := not_yet hcl n13 14 (by rfl)
        have n16 := not_yet hcl n14 16 (by rfl)
        have NB := n16
        have hb := hS.bel NB
        have ka := KA.out.keep hb
        have kb := KB.out.keep hb
        have t0 := ka.cell 0 rfl
        have t1 := ka.cell 1 rfl
        have t2 := kb.cell 0 rfl
        have t3 := kb.cell 1 rfl
        refine g_plain rfl ?_
        exact does_value (w' := W) (v := .slice A n c) (by go_simp) ⟨.pointer none, .inr rfl, hS.same 2 _ (by decide) (by decide) (by decide) (by decide) (by decide) (by decide) (by decide) (by decide)⟩
      · have E14 := hval 0 _ 14 rfl rfl (dep_of hdep 0 (by rfl))
        have E16 := hval 2 _ 16 rfl rfl (dep_of hdep 2 (by rfl))
        unfold vJn at E14 E16
        refine g_plain rfl ?_
        have n6 := not_yet hcl hf 6 (by rfl)
        have n12 := not_yet hcl n6 12 (by rfl)
        have n13 := not_yet hcl n12 13 (by rfl)
        have n14 := not_yet hcl n13 14 (by rfl)
        have n16 := not_yet hcl n14 16 (by rfl)
        obtain ⟨pd, bf, cf, ev, hpd, hkd, hod⟩ := hS.d0 (dep_of hdep 0 (by rfl)) hf
        rw [ev] at E14
        obtain ⟨A9, c9, e9, _, hni, _⟩ := hod.ni
        cases e9
        refine does_call 38 #[.pointer (some ⟨pd, 0, none⟩), .slice A n c] (by go_simp) ((ocRaise_calls pd bf cf n c A _ v _ W hkd hni (HA1.out.keep (hS.bel n16)) HN16.out).mono ?_)
        rintro _ W' ⟨rfl, bf2, cf2, hk2, ho2, hg2⟩
        rw [HJ0.out] at ho2
        exact ⟨_, rfl, _, .inr rfl, hS.raise3 n6 n12 n13 n14 n16 hpd hkd hg2 ⟨pd, bf2, cf2, rfl, hpd, hk2, ho2.lower (hS.bel n16).size⟩⟩
      · have E3 : a.tmps[3]? = some (.pointer (some ⟨p2, 0, none⟩)) := (same_of hsame 3 (by rfl)).trans rfl
        refine g_plain rfl ?_
        exact does_value (w' := W) (v := .pointer (some ⟨p2, 0, none⟩)) (by go_simp) ⟨.pointer none, .inr rfl, hS.same 4 _ (by decide) (by decide) (by decide) (by decide) (by decide) (by decide) (by decide) (by decide)⟩
      · have E18 := hval 4 _ 18 rfl rfl (dep_of hdep 4 (by rfl))
        unfold vJn at E18
        have n6 := not_yet hcl hf 6 (by rfl)
        have n12 := not_yet hcl n6 12 (by rfl)
        have n13 := not_yet hcl n12 13 (by rfl)
        have n14 := not_yet hcl n13 14 (by rfl)
        have n16 := not_yet hcl n14 16 (by rfl)
        have NB := n16
        have hb := hS.bel NB
        have ka := KA.out.keep hb
        have kb := KB.out.keep hb
        have t0 := ka.cell 0 rfl
        have t1 := ka.cell 1 rfl
        have t2 := kb.cell 0 rfl
        have t3 := kb.cell 1 rfl
        refine g_plain rfl ?_
        exact does_value (w' := W) (v := .slice A2 n2 c2) (by go_simp) ⟨.pointer none, .inr rfl, hS.same 5 _ (by decide) (by decide) (by decide) (by decide) (by decide) (by decide) (by decide) (by decide)⟩
      · have E17 := hval 3 _ 17 rfl rfl (dep_of hdep 3 (by rfl))
        have E19 := hval 5 _ 19 rfl rfl (dep_of hdep 5 (by rfl))
        unfold vJn at E17 E19
        refine g_plain rfl ?_
        have n12 := not_yet hcl hf 12 (by rfl)
        have n13 := not_yet hcl n12 13 (by rfl)
        have n14 := not_yet hcl n13 14 (by rfl)
        have n16 := not_yet hcl n14 16 (by rfl)
        obtain ⟨pd, bf, cf, ev, hpd, hkd, hod⟩ := hS.d1 (dep_of hdep 3 (by rfl)) hf
        rw [ev] at E17
        obtain ⟨A9, c9, e9, _, hni, _⟩ := hod.ni
        cases e9
        refine does_call 38 #[.pointer (some ⟨pd, 0, none⟩), .slice A2 n2 c2] (by go_simp) ((ocRaise_calls pd bf cf n2 c2 A2 _ v2 _ W hkd hni (HA3.out.keep (hS.bel n16)) HN216.out).mono ?_)
        rintro _ W' ⟨rfl, bf2, cf2, hk2, ho2, hg2⟩
        rw [HJ1.out] at ho2
        exact ⟨_, rfl, _, .inr rfl, hS.raise6 n12 n13 n14 n16 (dep_of hdep 3 (by rfl)) hpd hkd hg2 ⟨pd, bf2, cf2, rfl, hpd, hk2, ho2.lower (hS.bel n16).size⟩⟩
      · have E2 : a.tmps[2]? = some (.pointer (some ⟨p, 0, none⟩)) := (same_of hsame 2 (by rfl)).trans rfl
        refine g_plain rfl ?_
        exact does_value (w' := W) (v := .pointer (some ⟨p, 1, none⟩)) (by go_simp) ⟨.pointer none, .inr rfl, hS.same 7 _ (by decide) (by decide) (by decide) (by decide) (by decide) (by decide) (by decide) (by decide)⟩
      · have E21 := hval 7 _ 21 rfl rfl (dep_of hdep 7 (by rfl))
        unfold vJn at E21
        have n11 := not_yet hcl hf 11 (by rfl)
        have n12 := not_yet hcl n11 12 (by rfl)
        have n13 := not_yet hcl n12 13 (by rfl)
        have n14 := not_yet hcl n13 14 (by rfl)
        have n16 := not_yet hcl n14 16 (by rfl)
        have NB := n16
        have hb := hS.bel NB
        have ka := KA.out.keep hb
        have kb := KB.out.keep hb
        have t0 := ka.cell 0 rfl
        have t1 := ka.cell 1 rfl
        have t2 := kb.cell 0 rfl
        have t3 := kb.cell 1 rfl
        refine g_plain rfl ?_
        exact does_value (w' := W) (v := .slice B m e) (by go_simp) ⟨.pointer none, .inr rfl, hS.same 8 _ (by decide) (by decide) (by decide) (by decide) (by decide) (by decide) (by decide) (by decide)⟩
      · have E3 : a.tmps[3]? = some (.pointer (some ⟨p2, 0, none⟩)) := (same_of hsame 3 (by rfl)).trans rfl
        refine g_plain rfl ?_
        exact does_value (w' := W) (v := .pointer (some ⟨p2, 1, none⟩)) (by go_simp) ⟨.pointer none, .inr rfl, hS.same 9 _ (by decide) (by decide) (by decide) (by decide) (by decide) (by decide) (by decide) (by decide)⟩
      · have E23 := hval 9 _ 23 rfl rfl (dep_of hdep 9 (by rfl))
        unfold vJn at E23
        have n11 := not_yet hcl hf 11 (by rfl)
        have n12 := not_yet hcl n11 12 (by rfl)
        have n13 := not_yet hcl n12 13 (by rfl)
        have n14 := not_yet hcl n13 14 (by rfl)
        have n16 := not_yet hcl n14 16 (by rfl)
        have NB := n16
        have hb := hS.bel NB
        have ka := KA.out.keep hb
        have kb := KB.out.keep hb
        have t0 := ka.cell 0 rfl
        have t1 := ka.cell 1 rfl
        have t2 := kb.cell 0 rfl
        have t3 := kb.cell 1 rfl
        refine g_plain rfl ?_
        exact does_value (w' := W) (v := .slice B2 m2 e2) (by go_simp) ⟨.pointer none, .inr rfl, hS.same 10 _ (by decide) (by decide) (by decide) (by decide) (by decide) (by decide) (by decide) (by decide)⟩
      · have E22 := hval 8 _ 22 rfl rfl (dep_of hdep 8 (by rfl))
        have E24 := hval 10 _ 24 rfl rfl (dep_of hdep 10 (by rfl))
        unfold vJn at E22 E24
        refine g_plain rfl ?_
        have n12 := not_yet hcl hf 12 (by rfl)
        have n13 := not_yet hcl n12 13 (by rfl)
        have n14 := not_yet hcl n13 14 (by rfl)
        have n16 := not_yet hcl n14 16 (by rfl)
        refine does_call 56 #[.slice B m e, .slice B2 m2 e2] (by go_simp) ((HTG.out W (hS.bel n16)).mono ?_)
        rintro _ W' ⟨vt, rfl, hot, hbt⟩
        exact ⟨_, rfl, _, .inr rfl, hS.tog n12 n13 n14 n16 hbt (hot.lower (hS.bel n16).size)⟩
      · have E20 := hval 6 _ 20 rfl rfl (dep_of hdep 6 (by rfl))
        have E25 := hval 11 _ 25 rfl rfl (dep_of hdep 11 (by rfl))
        unfold vJn at E20 E25
        refine g_plain rfl ?_
        have n13 := not_yet hcl hf 13 (by rfl)
        have n14 := not_yet hcl n13 14 (by rfl)
        have n16 := not_yet hcl n14 16 (by rfl)
        obtain ⟨pd, bf, cf, ev, hpd, hkd, hod⟩ := hS.d2 (dep_of hdep 6 (by rfl)) hf
        have hot := hS.tg (dep_of hdep 11 (by rfl)) hf
        obtain ⟨At, ct, et, _, hnt, hat⟩ := hot.nd
        rw [ev] at E20
        rw [et] at E25
        have hbl := hS.bel n16
        have hpl := hkd.lt
        have hbf := hod.lt bf rfl
        obtain ⟨_, hkb⟩ := hod.blk
        refine does_call 39 #[.pointer (some ⟨pd, 0, none⟩), .slice At L.length ct] (by go_simp) ((ocAbsorb_calls W5.heap.size pd bf cf L.length ct At (maxV v v2) L W { low := ⟨hpd, hpl, hbf.2⟩, bel := Below.refl _ _, oth := fun _ _ _ _ => rfl, blk := hkd, num := hod, dts := OwnD.nil _ _ } hbf.1 hnt (by have := HLL.out; omega) (fun b off e _ => ⟨fun e2 => hot.blk2 hkd (by decide) (by rw [(hat b off e).1, e2]), fun e2 => hot.blk2 hkb (by decide) (by rw [(hat b off e).1, e2])⟩) HMX.out HLD.out).mono ?_)
        rintro _ W' ⟨rfl, vd, hab⟩
        rw [HABS.out] at hab
        have e6 := dep_of hdep 6 (by rfl)
        have e3 := done_of hcl e6 3 (by rfl)
        have e0 := done_of hcl e3 0 (by rfl)
        exact ⟨_, rfl, _, .inr rfl, hS.abs n13 n14 n16 e6 e3 e0 hab.bel ⟨pd, bf, cf, vd, rfl, hab.blk, hab.num, hab.dts.lower hbl.size⟩⟩
      · have E26 := hval 12 _ 26 rfl rfl (dep_of hdep 12 (by rfl))
        unfold vJn at E26
        refine g_plain rfl ?_
        have n14 := not_yet hcl hf 14 (by rfl)
        have n16 := not_yet hcl n14 16 (by rfl)
        obtain ⟨pd, bf, cf, vd, ev, hkd, hod, hdd⟩ := hS.ab (dep_of hdep 12 (by rfl)) hf
        rw [ev] at E26
        have hdd2 := hdd
        rw [HR2.out] at hdd2
        refine does_call 41 #[.pointer (some ⟨pd, 0, none⟩)] (by go_simp) ((ocDone_calls W5.heap.size pd bf cf R.2.length s.1 vd R.2 W hkd hod hdd2 HRL.out).mono ?_)
        rintro _ W' ⟨rfl, hbd⟩
        have htp := trim_pre s.1
        have htl := trim_len s.1
        rw [hod.len, HR1.out] at htl
        rw [HR1.out] at htp
        have hfr := hod.front (k := R.1.length) (by omega)
        rw [← htp] at hfr
        have hne : ∀ b, (Value.slice (some ⟨bf, 0, none⟩) R.1.length cf).ownBlock = some b → vd.ownBlock ≠ some b := fun b e e2 => by
                  cases e
                  obtain ⟨_, hkb⟩ := hod.blk
                  exact hdd.blk2 hkb (by decide) e2
        have e12 := dep_of hdep 12 (by rfl)
        have e6 := done_of hcl e12 6 (by rfl)
        have e3 := done_of hcl e6 3 (by rfl)
        exact ⟨_, rfl, _, .inr rfl, hS.don n14 n16 e12 e6 e3 hbd ⟨_, _, by rw [HR1.out], hfr.keep hbd, hdd2.keep hbd, hne⟩⟩
      · have E27 := hval 13 _ 27 rfl rfl (dep_of hdep 13 (by rfl))
        unfold vJn at E27
        refine g_plain rfl ?_
        have n16 := not_yet hcl hf 16 (by rfl)
        have e13 := dep_of hdep 13 (by rfl)
        have e12 := done_of hcl e13 12 (by rfl)
        have e6 := done_of hcl e12 6 (by rfl)
        have e3 := done_of hcl e6 3 (by rfl)
        obtain ⟨V, D, ev, hS'⟩ := hS.ext e13 e12 e6 e3 n16
        rw [ev] at E27
        exact does_value (w' := W) (v := .agg #[V, D]) (by go_simp) ⟨_, .inr rfl, hS'⟩
      · have E27 := hval 13 _ 27 rfl rfl (dep_of hdep 13 (by rfl))
        unfold vJn at E27
        refine g_plain rfl ?_
        have n16 := not_yet hcl hf 16 (by rfl)
        obtain ⟨V, D, ev, _⟩ := hS.dn (dep_of hdep 13 (by rfl)) n16
        rw [ev] at E27
        exact does_value (w' := W) (v := .int .i64 0) (by go_simp) ⟨.pointer none, .inr rfl, hS.same 15 _ (by decide) (by decide) (by decide) (by decide) (by decide) (by decide) (by decide) (by decide)⟩
      · have E28 := hval 14 _ 28 rfl rfl (dep_of hdep 14 (by rfl))
        have E4 : a.tmps[4]? = some (.pointer (some ⟨q, 0, none⟩)) := (same_of hsame 4 (by rfl)).trans rfl
        unfold vJn at E28
        refine g_plain rfl ?_
        have e14 := dep_of hdep 14 (by rfl)
        have e13 := done_of hcl e14 13 (by rfl)
        have e12 := done_of hcl e13 12 (by rfl)
        have e6 := done_of hcl e12 6 (by rfl)
        have e3 := done_of hcl e6 3 (by rfl)
        obtain ⟨V, D, ev, hkq, h1c, hS'⟩ := hS.sto e14 e13 e12 e6 e3 hf KQ.out undef
        rw [ev] at E28
        exact doc_store 25 _ _ rfl q #[V, D] (by rw [eval_getD, E4]; rfl) (by rw [eval_getD, E28]; rfl) 25 _ hkq (by kernel_rfl) rfl h1c ⟨_, .inl rfl, hS'⟩
      · have E29 := hval 15 _ 29 rfl rfl (dep_of hdep 15 (by rfl))
        unfold vJn at E29
        refine g_plain rfl ?_
        exact does_value (w' := W) (v := .int .i64 0) (by go_simp) ⟨.pointer none, .inr rfl, hS.same 17 _ (by decide) (by decide) (by decide) (by decide) (by decide) (by decide) (by decide) (by decide)⟩
    · intro gh W hS
      obtain ⟨V, D, W0, f1, f2, f3, f4⟩ := hS.fin rfl
      obtain ⟨V2, D2, e14, _⟩ : ∃ V2 D2 : Value, gh 14 = gh 14 ∧ V2 = V2 ∧ D2 = D2 := ⟨.bool true, .bool true, rfl, rfl, rfl⟩
      have HK := hid f3
      have HF := hid (show ClO w.heap.size W V D R ∧ Below w.heap.size w W from by
        refine ⟨⟨f2.1.lower HSZ.out.1, f2.2.1.lower HSZ.out.1, f2.2.2⟩, ?_⟩
        rw [f4]
        exact (HB5.out.trans (f1.mono HSZ.out.1)).trans (below_of_grown (grown_setRow _ _ _) (Nat.le_trans HSZ.out.1 f1.size) (fun b e => by injection e with e; have := HSZ.out.2.2; omega))) 
      clear hS f1 f2 f3 f4 e14
      simp only [putAll, vJn, Nat.reduceAdd, Nat.zero_add, Act.put, List.setIfInBounds_toArray, List.set_cons_zero, List.set_cons_succ]
      generalize gh 0 = g0; generalize gh 3 = g3; generalize gh 6 = g6; generalize gh 11 = g11; generalize gh 12 = g12; generalize gh 13 = g13; generalize gh 14 = g14
      go_wp2_with fail
      refine bodyPost_ret (v := .tuple #[.agg #[V, D], .int .i64 0]) (results_cloud_tmp rfl _ _ q _ rfl rfl rfl HK.out) rfl ?_
      rw [HJR.out]
      exact ⟨V, D, rfl, HF.out⟩
  · have HE := hid (show joinB (v, ds) (v2, ds2) = (([], []), ck) from by unfold joinB; rw [if_neg (by rw [HCK.out]; exact h0), HCK.out])
    have hcb : (ck == 0) = false := by simpa using h0
    have HF := hid (show Blk (W5.setRow q #[.slice none 0 0, .slice none 0 0]) q 25 #[.slice none 0 0, .slice none 0 0] ∧ Below w.heap.size w (W5.setRow q #[.slice none 0 0, .slice none 0 0]) from
      ⟨KQ.out.setRow _, HB5.out.trans (below_of_grown (grown_setRow _ _ _) HB5.out.size (fun b e => by injection e with e; have := HSZ.out.2.2; omega))⟩)
    clear h0
    go_wp2_with (refine wpList_store_blk rfl 25 _ _ rfl q #[.slice none 0 0, .slice none 0 0] rfl rfl 25 _ KQ.out (by kernel_rfl) rfl (by rfl) ?_; refine Held.go ?_)
    unfold Held
    go_wp2_with fail
    refine bodyPost_ret (v := .tuple #[.agg #[.slice none 0 0, .slice none 0 0], .int .i64 ck]) (results_cloud_tmp rfl _ _ q _ rfl rfl rfl HF.out.1) rfl ?_
    rw [HE.out]
    exact ⟨_, _, rfl, ⟨OwnN.nil _ _, OwnD.nil _ _, fun b e => by cases e⟩, HF.out.2⟩
end Go.Proofs.Ythjflgnoeenenaa
