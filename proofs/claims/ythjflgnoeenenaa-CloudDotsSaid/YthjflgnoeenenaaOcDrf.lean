/- Contracts of clouds: a draft started, raised; dots absorbed. Written by tools/mkoc3.py. -/
import Derived.Test.YthjflgnoeenenaaOcChk
import Derived.Test.YthjflgnoeenenaaOcSort
import Derived.WalkMore
namespace Go.Proofs.Ythjflgnoeenenaa
open Go Go.RowKit Cl

theorem OwnN.cset {w : World} {base g c n k : Nat} {zs : List Int} {z : Int} (h : OwnN w base (.slice (some ⟨g, 0, none⟩) n c) n zs) (_ : k < n) : OwnN (w.setCell ⟨g, k, none⟩ (.int .i64 z)) base (.slice (some ⟨g, 0, none⟩) n c) n (zs.set k z) := by
  obtain ⟨h1, h2 | ⟨g', cap, cur, e, hb, hg, hnc, hcm, hcs, ht⟩⟩ := h
  · simp at h2
  · simp only [Value.slice.injEq, Option.some.injEq, Addr.mk.injEq, and_true, true_and] at e
    obtain ⟨rfl, rfl⟩ := e
    refine ⟨by simpa using h1, .inr ⟨g, c, cur.setIfInBounds k (.int .i64 z), rfl, hb, Blk.set_ (t := 3) (cs := cur) hg k _, hnc, hcm, by simpa using hcs, ?_⟩⟩
    rw [Array.toList_setIfInBounds, List.take_set, ht, List.map_set]
    rfl
theorem OwnN.front {w : World} {base g c n k : Nat} {zs : List Int} (h : OwnN w base (.slice (some ⟨g, 0, none⟩) n c) n zs) (hk : k ≤ n) : OwnN w base (.slice (some ⟨g, 0, none⟩) k c) k (zs.take k) := by
  have hl := h.len
  obtain ⟨h1, h2 | ⟨g', cap, cur, e, hb, hg, hnc, hcm, hcs, ht⟩⟩ := h
  · simp at h2
  · simp only [Value.slice.injEq, Option.some.injEq, Addr.mk.injEq, and_true, true_and] at e
    obtain ⟨rfl, rfl⟩ := e
    refine ⟨by simp [hl]; omega, .inr ⟨g, c, cur, rfl, hb, hg, by omega, hcm, hcs, ?_⟩⟩
    rw [List.map_take, ← ht, List.take_take]
    congr 1; omega
theorem OwnN.blk {w : World} {base g c n : Nat} {zs : List Int} (h : OwnN w base (.slice (some ⟨g, 0, none⟩) n c) n zs) : ∃ cur, Blk w g 3 cur := by
  obtain ⟨h1, h2 | ⟨g', cap, cur, e, hb, hg, _⟩⟩ := h
  · simp at h2
  · simp only [Value.slice.injEq, Option.some.injEq, Addr.mk.injEq, and_true, true_and] at e
    obtain ⟨rfl, rfl⟩ := e
    exact ⟨cur, hg⟩
theorem OwnD.blk {w : World} {base n : Nat} {v : Value} {ds : List Dt} (h : OwnD w base v n ds) {g : Nat} (hg : v.ownBlock = some g) : ∃ cur, Blk w g 27 cur := by
  obtain ⟨_, _, h2 | ⟨g', cap, cur, rfl, _, h4, _⟩⟩ := h
  · rw [h2.1] at hg; cases hg
  · cases hg; exact ⟨cur, h4⟩
theorem blk_ne {w : World} {g g' : Nat} {t t' : TypeId} {cs cs' : Array Value} (h : Blk w g t cs) (k : Blk w g' t' cs') (hne : t ≠ t') : g ≠ g' := by
  rintro rfl
  unfold Blk at h k
  rw [h] at k
  injection k with k
  injection k with _ k2
  exact hne k2
/-- a draft in memory, on its way: s is what it has -/
structure AbS (w : World) (base p bf cf : Nat) (s : List Int × List Dt) (vd : Value) (W : World) : Prop where
  low : base ≤ p ∧ p < w.heap.size ∧ bf < w.heap.size
  bel : Below base w W
  oth : ∀ b, b < w.heap.size → b ≠ p → b ≠ bf → W.heap[b]? = w.heap[b]?
  blk : Blk W p 86 #[.slice (some ⟨bf, 0, none⟩) 16 cf, vd]
  num : OwnN W base (.slice (some ⟨bf, 0, none⟩) 16 cf) 16 s.1
  dts : OwnD W w.heap.size vd s.2.length s.2
section
variable {w W W' : World} {base p bf cf m : Nat} {s : List Int × List Dt} {vd : Value} {B : Option Addr} {l : List Dt}
theorem AbS.size (h : AbS w base p bf cf s vd W) : w.heap.size ≤ W.heap.size := h.bel.size
theorem AbS.ne (h : AbS w base p bf cf s vd W) : p ≠ bf := by
  obtain ⟨_, hb⟩ := h.num.blk
  exact blk_ne h.blk hb (by decide)
theorem AbS.far (h : AbS w base p bf cf s vd W) {b : Nat} (hb : b < w.heap.size) : vd.ownBlock ≠ some b := fun e => by have := (h.dts.lt b e).1; omega
theorem AbS.keep (h : AbS w base p bf cf s vd W) (hb : Below W.heap.size W W') : AbS w base p bf cf s vd W' where
  low := h.low
  bel := h.bel.trans (hb.mono (by have := h.size; have := h.low; omega))
  oth := fun b h1 h2 h3 => (hb.block b (by have := h.size; omega)).trans (h.oth b h1 h2 h3)
  blk := h.blk.keep hb
  num := h.num.keep hb
  dts := h.dts.keep hb
theorem AbS.ni (h : AbS w base p bf cf s vd W) : NI W (some ⟨bf, 0, none⟩) 16 s.1 := by
  obtain ⟨A, c, e, _, hn, _⟩ := h.num.ni
  cases e
  exact hn
theorem AbS.src (h : AbS w base p bf cf s vd W) (hs : ND w B m l) (hne : ∀ b off, B = some ⟨b, off, none⟩ → 0 < m → b ≠ p ∧ b ≠ bf) : ND W B m l := by
  refine ⟨hs.1, fun hm => ?_⟩
  obtain ⟨b, off, e, hc⟩ := hs.2 hm
  obtain ⟨n1, n2⟩ := hne b off e hm
  refine ⟨b, off, e, fun j u hj => ?_⟩
  have := hc j u hj
  have hlt := lt_of_cell this
  rw [← this]
  exact World.cell?_of_block (a := ⟨b, off + j, none⟩) (h.oth b hlt n1 n2)
theorem AbS.put (h : AbS w base p bf cf s vd W) (hb0 : base ≤ bf) {k : Nat} (hk : k < 16) (z : Int) : AbS w base p bf cf (s.1.set k z, s.2) vd (W.setCell ⟨bf, k, none⟩ (.int .i64 z)) := by
  have hg := grown_setCell W bf k (.int .i64 z)
  have hsz := h.size
  obtain ⟨l1, l2, l3⟩ := h.low
  exact {
    low := h.low
    bel := h.bel.trans (below_of_grown hg (by omega) (fun b e => by injection e with e; omega))
    oth := fun b h1 h2 h3 => (hg.block b (by omega) (fun e => h3 (by injection e))).trans (h.oth b h1 h2 h3)
    blk := h.blk.grown hg (fun e => h.ne (by injection e with e; exact e.symm))
    num := h.num.cset hk
    dts := h.dts.kept hg (.inr (h.far l3)) }
end
/-- one dot more, kept beside, in a drawn region -/
structure ApD (w W0 : World) (base p bf cf : Nat) (s : List Int × List Dt) (vd : Value) (d : Dt) (f : Nat → Bool) (gh : Nat → Value) (W : World) : Prop where
  st : AbS w base p bf cf s vd W0
  chg : W0.heap.size ≤ W.heap.size ∧ Below base W0 W ∧ ∀ b, b < W0.heap.size → b ≠ p → vd.ownBlock ≠ some b → W.heap[b]? = W0.heap[b]?
  row : f 7 = false → OwnD W w.heap.size vd s.2.length s.2
  lit : f 6 = true → f 7 = false → ∃ q, gh 6 = .slice (some ⟨q, 0, none⟩) 1 1 ∧ ND W (some ⟨q, 0, none⟩) 1 [d]
  app : f 7 = true → OwnD W w.heap.size (gh 7) (s.2.length + 1) (s.2 ++ [d])
  top : f 10 = false → Blk W p 86 #[.slice (some ⟨bf, 0, none⟩) 16 cf, vd]
  up : f 10 = true → Blk W p 86 #[.slice (some ⟨bf, 0, none⟩) 16 cf, gh 7]
section
variable {w W0 W W' : World} {base p bf cf : Nat} {s : List Int × List Dt} {vd : Value} {d : Dt} {f : Nat → Bool} {gh : Nat → Value}
theorem ApD.start (h : AbS w base p bf cf s vd W0) (gh : Nat → Value) : ApD w W0 base p bf cf s vd d (fun j => decide (11 ≤ j)) gh W0.drew where
  st := h
  chg := ⟨Nat.le_refl _, (Below.refl _ _).drew, fun _ _ _ _ => rfl⟩
  row := fun _ => h.dts.keep (Below.refl _ _).drew
  lit := fun e => by simp at e
  app := fun e => by simp at e
  top := fun _ => h.blk.drew
  up := fun e => by simp at e
theorem ApD.same (h : ApD w W0 base p bf cf s vd d f gh W) (i : Nat) (v : Value) (n6 : 6 ≠ i) (n7 : 7 ≠ i) (n10 : 10 ≠ i) : ApD w W0 base p bf cf s vd d (upd f i) (updN gh i v) W where
  st := h.st
  chg := h.chg
  row := fun e => by rw [un_ne n7] at e; exact h.row e
  lit := fun e e2 => by rw [un_ne n6] at e; rw [un_ne n7] at e2; rw [unN_ne n6]; exact h.lit e e2
  app := fun e => by rw [un_ne n7] at e; rw [unN_ne n7]; exact h.app e
  top := fun e => by rw [un_ne n10] at e; exact h.top e
  up := fun e => by rw [un_ne n10] at e; rw [unN_ne n7]; exact h.up e
theorem ApD.build (h : ApD w W0 base p bf cf s vd d f gh W) (n7 : f 7 = false) (n10 : f 10 = false) : ApD w W0 base p bf cf s vd d (upd f 6) (updN gh 6 (.slice (some ⟨W.heap.size, 0, none⟩) 1 1)) (W.alloc (.cells #[.int .i64 d.1, .int .i64 d.2] 27)) := by
  have hb := below_new W (.cells #[.int .i64 d.1, .int .i64 d.2] 27)
  have h1 := h.st.size
  obtain ⟨l1, l2, l3⟩ := h.st.low
  exact {
    st := h.st
    chg := ⟨Nat.le_trans h.chg.1 hb.size, h.chg.2.1.trans (hb.mono (by have := h.chg.1; omega)), fun b k1 k2 k3 => (hb.block b (by have := h.chg.1; omega)).trans (h.chg.2.2 b k1 k2 k3)⟩
    row := fun _ => (h.row n7).keep hb
    lit := fun _ _ => ⟨_, unN_eq, nd_one W d⟩
    app := fun e => by rw [un_ne (by decide), n7] at e; cases e
    top := fun _ => (h.top n10).keep hb
    up := fun e => by rw [un_ne (by decide), n10] at e; cases e }
theorem ApD.more (h : ApD w W0 base p bf cf s vd d f gh W) (e6 : f 6 = true) (n7 : f 7 = false) (n10 : f 10 = false) (hlen : s.2.length + 1 ≤ 1099511627776) (ty : TypeId) :
    ∃ q v' W', gh 6 = .slice (some ⟨q, 0, none⟩) 1 1 ∧ (Builtin.append_ #[23, 23] ty #[vd, .slice (some ⟨q, 0, none⟩) 1 1]).run Try.prog W = .ok v' W' ∧ ApD w W0 base p bf cf s vd d (upd f 7) (updN gh 7 v') W' := by
  obtain ⟨q, hq, hn⟩ := h.lit e6 n7
  have h1 := h.st.size
  obtain ⟨l1, l2, l3⟩ := h.st.low
  have hsz : w.heap.size ≤ W.heap.size := by have := h.chg.1; omega
  obtain ⟨v', W', hr, ho, hg, _⟩ := run_append_dots W ty w.heap.size vd s.2.length s.2 (h.row n7) _ 1 1 [d] hn hlen hsz
  have hlow := fun g (e : vd.ownBlock = some g) => (h.row n7).lt g e
  refine ⟨q, v', W', hq, hr, ?_⟩
  exact {
    st := h.st
    chg := ⟨Nat.le_trans h.chg.1 hg.size, h.chg.2.1.trans (below_of_grown hg (by omega) (fun g e => by have := (hlow g e).1; omega)), fun b k1 k2 k3 => (hg.block b (by have := h.chg.1; omega) (fun e => k3 e.symm)).trans (h.chg.2.2 b k1 k2 k3)⟩
    row := fun e => by rw [un_eq] at e; cases e
    lit := fun _ e => by rw [un_eq] at e; cases e
    app := fun _ => by rw [unN_eq]; exact ho
    top := fun _ => (h.top n10).grown hg (fun e => by have := (hlow p e).1; omega)
    up := fun e => by rw [un_ne (by decide), n10] at e; cases e }
theorem ApD.store (h : ApD w W0 base p bf cf s vd d f gh W) (e7 : f 7 = true) (n10 : f 10 = false) (v : Value) : ApD w W0 base p bf cf s vd d (upd f 10) (updN gh 10 v) (W.setCell ⟨p, 1, none⟩ (gh 7)) := by
  have hg := grown_setCell W p 1 (gh 7)
  have h1 := h.st.size
  obtain ⟨l1, l2, l3⟩ := h.st.low
  have hp := h.chg.1
  exact {
    st := h.st
    chg := ⟨Nat.le_trans h.chg.1 hg.size, h.chg.2.1.trans (below_of_grown hg (by omega) (fun g e => by injection e with e; omega)), fun b k1 k2 k3 => (hg.block b (by omega) (fun e => k2 (by injection e))).trans (h.chg.2.2 b k1 k2 k3)⟩
    row := fun e => by rw [un_ne (by decide), e7] at e; cases e
    lit := fun _ e => by rw [un_ne (by decide), e7] at e; cases e
    app := fun _ => by
      rw [unN_ne (by decide)]
      exact (h.app e7).kept hg (.inr fun e => by have := ((h.app e7).lt p e).1; omega)
    top := fun e => by rw [un_eq] at e; cases e
    up := fun _ => by
      rw [unN_ne (by decide)]
      have := (h.top n10).set_ 1 (gh 7)
      simpa using this }
theorem ApD.other (h : ApD w W0 base p bf cf s vd d f gh W) {g : Nat} {cs : Array Value} (k : Blk W0 g 27 cs) (hv : vd.ownBlock ≠ some g) : Blk W g 27 cs :=
  (h.chg.2.2 g k.lt (blk_ne k h.st.blk (by decide)) hv).trans k
theorem ApD.fin (h : ApD w W0 base p bf cf s vd d f gh W) (e7 : f 7 = true) (e10 : f 10 = true) (_ : base ≤ bf) : AbS w base p bf cf (s.1, s.2 ++ [d]) (gh 7) W where
  low := h.st.low
  bel := h.st.bel.trans h.chg.2.1
  oth := fun b k1 k2 k3 => (h.chg.2.2 b (Nat.lt_of_lt_of_le k1 h.st.size) k2 (h.st.far k1)).trans (h.st.oth b k1 k2 k3)
  blk := h.up e10
  num := h.st.num.block (fun b e => by
    cases e
    exact h.chg.2.2 bf (Nat.lt_of_lt_of_le h.st.low.2.2 h.st.size) (fun e => h.st.ne e.symm) (h.st.far h.st.low.2.2))
  dts := by rw [List.length_append]; exact h.app e7
end
def vAbB (p : Nat) (d : Dt) (bf : Nat) (cf : Nat) (q1 : Bool) : Nat → Unit → Value
  | 0, _ => .pointer (some ⟨p, 0, none⟩)
  | 1, _ => .pointer (some ⟨p, 0, none⟩)
  | 2, _ => .pointer (some ⟨p, 0, none⟩)
  | 3, _ => .slice (some ⟨bf, 0, none⟩) 16 cf
  | 4, _ => dvv d
  | 5, _ => .bool q1
  | 6, _ => .bool q1
  | _, _ => undef
def vAbC (b : Nat) (k : Nat) (m : Nat) (c : Nat) (q2 : Bool) (x : Dt) (d : Dt) (jp : Nat) (o1 : Nat) : Nat → Unit → Value
  | 0, _ => .int .i64 (k : Int)
  | 1, _ => .bool true
  | 2, _ => .bool true
  | 3, _ => dvv d
  | 4, _ => .slice (some ⟨b, o1, none⟩) m c
  | 5, _ => .int .i64 (k : Int)
  | 6, _ => .int .i64 (jp : Int)
  | 7, _ => .pointer (some ⟨b, o1 + jp * 2, none⟩)
  | 8, _ => dvv x
  | 9, _ => .bool q2
  | 10, _ => .bool q2
  | 11, _ => .bool q2
  | _, _ => undef
def vAbD (k : Nat) : Nat → Unit → Value
  | 0, _ => .int .i64 (k : Int)
  | 1, _ => .bool false
  | 2, _ => .bool false
  | 3, _ => undef
  | 4, _ => undef
  | 5, _ => undef
  | 6, _ => undef
  | 7, _ => undef
  | 8, _ => undef
  | 9, _ => undef
  | 10, _ => .bool false
  | 11, _ => .bool false
  | _, _ => undef
def vAbE (p : Nat) (q3 : Bool) (z : Int) (d : Dt) (bf : Nat) (cf : Nat) (g : Nat) : Nat → Unit → Value
  | 0, _ => dvv d
  | 1, _ => .pointer (some ⟨p, 0, none⟩)
  | 2, _ => .pointer (some ⟨p, 0, none⟩)
  | 3, _ => .pointer (some ⟨p, 0, none⟩)
  | 4, _ => .slice (some ⟨bf, 0, none⟩) 16 cf
  | 5, _ => .pointer (some ⟨g, 0, none⟩)
  | 6, _ => .int .i64 d.1
  | 7, _ => .agg #[.int .i64 d.1, .int .i64 z]
  | 8, _ => .bool q3
  | 9, _ => .bool q3
  | _, _ => undef
def vAbF (p : Nat) (d : Dt) (bf : Nat) (cf : Nat) (g : Nat) (j1 : Nat) : Nat → Unit → Value
  | 0, _ => .pointer (some ⟨p, 0, none⟩)
  | 1, _ => .pointer (some ⟨p, 0, none⟩)
  | 2, _ => .pointer (some ⟨p, 0, none⟩)
  | 3, _ => .slice (some ⟨bf, 0, none⟩) 16 cf
  | 4, _ => .pointer (some ⟨g, 0, none⟩)
  | 5, _ => .int .i64 d.1
  | 6, _ => .int .i64 (j1 : Int)
  | 7, _ => .pointer (some ⟨g, 1, none⟩)
  | 8, _ => .int .i64 d.2
  | 9, _ => .pointer (some ⟨bf, j1, none⟩)
  | _, _ => undef
def vAbG (p : Nat) (d : Dt) (vd : Value) : Nat → Value → Value
  | 0, _ => .pointer (some ⟨p, 0, none⟩)
  | 1, _ => .pointer (some ⟨p, 0, none⟩)
  | 2, _ => .pointer (some ⟨p, 0, none⟩)
  | 3, _ => .pointer (some ⟨p, 1, none⟩)
  | 4, _ => vd
  | 5, _ => dvv d
  | 6, k => k
  | 7, k => k
  | 8, _ => .pointer (some ⟨p, 0, none⟩)
  | 9, _ => .pointer (some ⟨p, 1, none⟩)
  | _, _ => undef
set_option maxRecDepth 20000 in
set_option maxHeartbeats 4000000 in
theorem ocAbsorb_calls (base p bf cf m c : Nat) (B : Option Addr) (f0 : List Int) (l : List Dt) (w : World)
    (h : AbS w base p bf cf (f0, []) (.slice none 0 0) w) (hbf : base ≤ bf) (hs : ND w B m l) (hm : m ≤ 900000)
    (hne : ∀ b off, B = some ⟨b, off, none⟩ → 0 < m → b ≠ p ∧ b ≠ bf) (hf : ∀ x ∈ f0, 0 ≤ x ∧ x ≤ 1048576) (hd : ∀ d ∈ l, dotted d) :
    Calls Try.prog 39 #[.pointer (some ⟨p, 0, none⟩), .slice B m c] w fun e w' => e = .returned (.pointer (some ⟨p, 0, none⟩)) ∧ ∃ vd, AbS w base p bf cf (absI f0 l m) vd w' := by
  have H := hid h; have HS := hid hs; have HNE := hid hne; have HF := hid hf; have HD := hid hd; have HL := hid hs.1; have HBF := hid hbf
  have hz := (zero_of_info info_dot0).1
  clear h hs hne hf hd hbf
  go_enter Try.func39, Try.ntmps39
  go_wp2_with fail
  go_step3
  go_wp2_with fail
  go_step3
  go_wp2_with fail
  go_loopw [9] (fun i wr => ∃ (k : Nat), k ≤ m ∧ i = .int .i64 (k : Int) ∧ ∃ vd, Hid (AbS w base p bf cf (absI f0 l k) vd wr)) (fun i _ => m - (intOf i).toNat)
  case atStart => exact ⟨0, Nat.zero_le _, rfl, _, H⟩
  case round =>
    obtain ⟨k, hk, rfl, vd, HA⟩ := hrel
    by_cases hlt : k < m
    · have hlt' : (k : Int) < (m : Int) := by omega
      obtain ⟨b, o1, d, rfl, hx, hc1, hc2⟩ := (HA.out.src HS.out HNE.out).at_ hlt
      have HX := hid hx
      have hdd := HD.out d (List.mem_of_getElem? hx)
      have HDD := hid hdd
      obtain ⟨s, hs⟩ : ∃ s, absI f0 l k = s := ⟨_, rfl⟩
      have hsl := abs_len f0 l k
      have hfl : f0.length = 16 := H.out.num.len
      have HSL := hid (show s.1.length = 16 from by rw [← hs, hsl, hfl])
      have HLE := hid (show ∀ x ∈ s.1, 0 ≤ x ∧ x ≤ 1048576 from by rw [← hs]; exact abs_le HF.out HD.out k)
      have HSO := hid (show s.2.length ≤ k from by rw [← hs]; exact abs_dots f0 l k)
      obtain ⟨S', hS'⟩ : ∃ S', absI f0 l (k + 1) = S' := ⟨_, rfl⟩
      obtain ⟨z, hz2⟩ : ∃ z, frs s.1 d.1 + 1 = z := ⟨_, rfl⟩
      obtain ⟨q1, hq1⟩ : ∃ q1, decide (d.2 ≤ frs s.1 d.1) = q1 := ⟨_, rfl⟩
      obtain ⟨q3, hq3⟩ : ∃ q3, decide (d.2 = z) = q3 := ⟨_, rfl⟩
      have HY1 := hid (show q1 = true → S' = s from fun e => by rw [← hS', ← hs]; exact abs_under hx (by rw [hs]; exact of_decide_eq_true (hq1.trans e)))
      have HY2 := hid (show 0 < k → l[k - 1]? = some d → S' = s from fun e1 e2 => by rw [← hS', ← hs]; exact abs_dup hx ⟨e1, e2⟩)
      have HY3 := hid (show ¬ (0 < k ∧ l[k - 1]? = some d) → q3 = true → S' = (s.1.set (d.1 - 1).toNat d.2, s.2) from fun e1 e2 => by
        rw [← hS', ← hs]; exact abs_one hx e1 (by rw [hs, hz2]; exact of_decide_eq_true (hq3.trans e2)))
      have HY4 := hid (show ¬ (0 < k ∧ l[k - 1]? = some d) → q1 = false → q3 = false → S' = (s.1, s.2 ++ [d]) from fun e1 e2 e3 => by
        rw [← hS', ← hs]; exact abs_more hx e1 (by rw [hs]; exact of_decide_eq_false (hq1.trans e2)) (by rw [hs, hz2]; exact of_decide_eq_false (hq3.trans e3)))
      have HHV := hid (show hasV s.1 d.1 d.2 = q1 from by rw [hasV_frs HLE.out hdd.2.2.1, hq1])
      have HNV := hid (show nextV s.1 d.1 = (d.1, z) from by rw [nextV_frs HLE.out hdd.1, hz2])
      have HQ3 := hid hq3
      have HSS := hid hS'
      rw [hs] at HA
      obtain ⟨g, hg⟩ : ∃ g, wr.heap.size = g := ⟨_, rfl⟩
      have b4 := below_new wr (.cells #[.int .i64 d.1, .int .i64 d.2] 27)
      have k4 := Blk.new wr 27 #[.int .i64 d.1, .int .i64 d.2]
      rw [hg] at k4
      obtain ⟨w4, hw4⟩ : ∃ w4, wr.alloc (.cells #[.int .i64 d.1, .int .i64 d.2] 27) = w4 := ⟨_, rfl⟩
      rw [hw4] at b4 k4
      have HW4 := hid hw4; have HG := hid hg
      have HVG := hid (show vd.ownBlock ≠ some g from fun e => by have := (HA.out.dts.lt g e).2; omega)
      have HA4 := hid (HA.out.keep b4); have KG := hid k4
      have HPN := hid (show 0 < k → ∃ j x, k = j + 1 ∧ l[j]? = some x ∧ ∀ W, AbS w base p bf cf s vd W → W.cell? ⟨b, o1 + j * 2, none⟩ = some (.int .i64 x.1) ∧ W.cell? ⟨b, o1 + j * 2 + 1, none⟩ = some (.int .i64 x.2) from fun h0 => by
        obtain ⟨j, rfl⟩ : ∃ j, k = j + 1 := ⟨k - 1, by omega⟩
        have hj : j < l.length := by have := HL.out; omega
        refine ⟨j, l[j], rfl, List.getElem?_eq_getElem hj, fun W hW => ?_⟩
        obtain ⟨b2, o2, x2, e2, hx2, h5, h6⟩ := (hW.src HS.out HNE.out).at_ (show j < m by omega)
        cases e2
        rw [List.getElem?_eq_getElem hj] at hx2
        cases hx2
        exact ⟨h5, h6⟩)
      have HH := hid (fun W (hW : AbS w base p bf cf s vd W) => show Calls Try.prog 50 #[.slice (some ⟨bf, 0, none⟩) 16 cf, .agg #[.int .i64 d.1, .int .i64 d.2]] W fun e w' => e = .returned (.bool q1) ∧ Below W.heap.size W w' from by
        rw [← HHV.out]; exact vHas_calls 16 cf (some ⟨bf, 0, none⟩) s.1 d.1 d.2 W hW.ni (by omega))
      have HN := hid (fun W (hW : AbS w base p bf cf s vd W) => show Calls Try.prog 66 #[.slice (some ⟨bf, 0, none⟩) 16 cf, .int .i64 d.1] W fun e w' => e = .returned (.agg #[.int .i64 d.1, .int .i64 z]) ∧ Below W.heap.size W w' from by
        have := vNext_calls 16 cf (some ⟨bf, 0, none⟩) s.1 d.1 W hW.ni (by omega)
        rw [HNV.out] at this
        exact this)
      obtain ⟨j1, hj1⟩ : ∃ j1 : Nat, d.1 = (j1 : Int) + 1 := ⟨(d.1 - 1).toNat, by have := hdd.1; omega⟩
      have hj16 : j1 < 16 := by have := hdd.2.1; omega
      have hj16' : (j1 : Int) < 16 := by omega
      have HJ := hid (show (d.1 - 1).toNat = j1 from by omega)
      have hsub : IntKind.i64.wrap (d.1 - 1) = (j1 : Int) := by rw [IntWalk.i64_in _ (by omega)]; omega
      clear hx hs hsl hfl hS' hz2 hq1 hq3 hdd b4 k4 hw4 hg HA HHV HNV hj1
      go_wp2_with fail
      rw [HW4.out, HG.out]
      clear hc1 hc2
      refine wp_region_invG 64 () (vAbB p d bf cf q1) (fun _ _ W => Below w4.heap.size w4 W) (by kernel_rfl) (by kernel_rfl) (by exact Nat.le_refl 64) ?_ ?_ ?_
      · exact (Below.refl _ _).drew
      · intro i o f gh a W hi hf hdep hsame hcl hval hS
        rcases i with _ | _ | _ | _ | _ | _ | _ | i
        all_goals simp only [List.getElem?_cons_succ, List.getElem?_cons_zero, List.getElem?_nil, Option.some.injEq, reduceCtorEq] at hi
        all_goals subst hi
        · have E0 : a.tmps[0]? = some (.pointer (some ⟨p, 0, none⟩)) := (same_of hsame 0 (by rfl)).trans rfl
          refine g_plain rfl ?_
          exact does_value (w' := W) (v := .pointer (some ⟨p, 0, none⟩)) (by go_simp) ⟨(), .inr rfl, hS⟩
        · have E15 := hval 0 _ 15 rfl rfl (dep_of hdep 0 (by rfl))
          unfold vAbB at E15
          refine g_plain rfl ?_
          exact does_value (w' := W) (v := .pointer (some ⟨p, 0, none⟩)) (by go_simp) ⟨(), .inr rfl, hS⟩
        · have E16 := hval 1 _ 16 rfl rfl (dep_of hdep 1 (by rfl))
          unfold vAbB at E16
          refine g_plain rfl ?_
          exact does_value (w' := W) (v := .pointer (some ⟨p, 0, none⟩)) (by go_simp) ⟨(), .inr rfl, hS⟩
        · have E17 := hval 2 _ 17 rfl rfl (dep_of hdep 2 (by rfl))
          unfold vAbB at E17
          have ka := (HA4.out.keep hS).blk
          have kg := KG.out.keep hS
          have a0 := ka.cell 0 rfl
          have a1 := ka.cell 1 rfl
          have g0 := kg.cell 0 rfl
          have g1 := kg.cell 1 rfl
          refine g_plain rfl ?_
          exact does_value (w' := W) (v := .slice (some ⟨bf, 0, none⟩) 16 cf) (by go_simp) ⟨(), .inr rfl, hS⟩
        · have E6 : a.tmps[6]? = some (.pointer (some ⟨g, 0, none⟩)) := (same_of hsame 6 (by rfl)).trans rfl
          refine g_plain rfl ?_
          exact does_load_dotB _ rfl g (by rw [eval_getD, E6]; rfl) (KG.out.keep hS) ⟨(), .inr rfl, hS⟩
        · have E18 := hval 3 _ 18 rfl rfl (dep_of hdep 3 (by rfl))
          have E19 := hval 4 _ 19 rfl rfl (dep_of hdep 4 (by rfl))
          unfold vAbB at E18 E19
          refine g_plain rfl ?_
          refine does_call 50 #[.slice (some ⟨bf, 0, none⟩) 16 cf, dvv d] (by go_simp) ((HH.out W (HA4.out.keep hS)).mono ?_)
          rintro _ W' ⟨rfl, hb⟩
          exact ⟨_, rfl, (), .inr rfl, hS.trans (hb.mono hS.size)⟩
        · have E20 := hval 5 _ 20 rfl rfl (dep_of hdep 5 (by rfl))
          unfold vAbB at E20
          refine g_plain rfl ?_
          exact does_value (w' := W) (v := .bool q1) (by go_simp) ⟨(), .inr rfl, hS⟩
      · intro gh W5 hS
        have HA5 := hid (HA4.out.keep hS); have KG5 := hid (KG.out.keep hS)
        clear hS
        simp only [putAll, vAbB, Nat.reduceAdd, Nat.zero_add, Act.put, List.setIfInBounds_toArray, List.set_cons_zero, List.set_cons_succ]
        cases q1 with
        | true =>
          have HE := hid (HY1.out rfl)
          clear HY1 HY2 HY3 HY4 HPN HH HN
          go_wp2_with fail
          go_roundw
          case rel => exact ⟨k + 1, hlt, by go_num, vd, by rw [HSS.out, HE.out]; exact HA5⟩
          case measure => simp [intOf]; omega
        | false =>
          by_cases h0 : 0 < k
          · obtain ⟨jp, x, hkj, hxj, hcx⟩ := HPN.out h0
            have HCX := hid hcx
            obtain ⟨q2, hq2⟩ : ∃ q2, decide (d = x) = q2 := ⟨_, rfl⟩
            have HQ2 := hid hq2
            have HKJ := hid hkj
            have HXJ := hid (show l[k - 1]? = some x from by rw [hkj, Nat.add_sub_cancel]; exact hxj)
            have hk0 : (0 : Int) < (k : Int) := by omega
            have hks : IntKind.i64.wrap ((k : Int) - 1) = (jp : Int) := by rw [IntWalk.i64_in _ (by omega)]; omega
            have hjm : jp < m := by omega
            have hjm' : (jp : Int) < (m : Int) := by omega
            clear hcx hq2 hkj hxj HPN
            go_wp2_with fail
            refine wp_region_invG 64 () (vAbC b k m c q2 x d jp o1) (fun _ _ W => Below W5.heap.size W5 W) (by kernel_rfl) (by kernel_rfl) (by exact Nat.le_refl 64) ?_ ?_ ?_
            · exact (Below.refl _ _).drew
            · intro i o f gh a W hi hf hdep hsame hcl hval hS
              rcases i with _ | _ | _ | _ | _ | _ | _ | _ | _ | _ | _ | _ | i
              all_goals simp only [List.getElem?_cons_succ, List.getElem?_cons_zero, List.getElem?_nil, Option.some.injEq, reduceCtorEq] at hi
              all_goals subst hi
              · have E5 : a.tmps[5]? = some (.int .i64 (k : Int)) := (same_of hsame 5 (by rfl)).trans rfl
                refine g_plain rfl ?_
                exact does_value (w' := W) (v := .int .i64 (k : Int)) (by go_simp) ⟨(), .inr rfl, hS⟩
              · have E21 := hval 0 _ 21 rfl rfl (dep_of hdep 0 (by rfl))
                unfold vAbC at E21
                refine g_plain rfl ?_
                exact does_value (w' := W) (v := .bool true) (by go_simp <;> omega) ⟨(), .inr rfl, hS⟩
              · have E22 := hval 1 _ 22 rfl rfl (dep_of hdep 1 (by rfl))
                unfold vAbC at E22
                refine g_plain rfl ?_
                exact does_value (w' := W) (v := .bool true) (by go_simp) ⟨(), .inr rfl, hS⟩
              · have EG := hval 2 _ 23 rfl rfl (dep_of hdep 2 (by rfl))
                have E6 : a.tmps[6]? = some (.pointer (some ⟨g, 0, none⟩)) := (same_of hsame 6 (by rfl)).trans rfl
                unfold vAbC at EG
                refine g_want rfl rfl rfl EG ?_
                exact does_load_dotB _ rfl g (by rw [eval_getD, E6]; rfl) (KG5.out.keep hS) ⟨(), .inr rfl, hS⟩
              · have EG := hval 2 _ 23 rfl rfl (dep_of hdep 2 (by rfl))
                have E1 : a.tmps[1]? = some (.slice (some ⟨b, o1, none⟩) m c) := (same_of hsame 1 (by rfl)).trans rfl
                unfold vAbC at EG
                refine g_want rfl rfl rfl EG ?_
                exact does_value (w' := W) (v := .slice (some ⟨b, o1, none⟩) m c) (by go_simp) ⟨(), .inr rfl, hS⟩
              · have EG := hval 2 _ 23 rfl rfl (dep_of hdep 2 (by rfl))
                have E5 : a.tmps[5]? = some (.int .i64 (k : Int)) := (same_of hsame 5 (by rfl)).trans rfl
                unfold vAbC at EG
                refine g_want rfl rfl rfl EG ?_
                exact does_value (w' := W) (v := .int .i64 (k : Int)) (by go_simp) ⟨(), .inr rfl, hS⟩
              · have EG := hval 2 _ 23 rfl rfl (dep_of hdep 2 (by rfl))
                have E26 := hval 5 _ 26 rfl rfl (dep_of hdep 5 (by rfl))
                unfold vAbC at EG E26
                refine g_want rfl rfl rfl EG ?_
                exact does_value (w' := W) (v := .int .i64 (jp : Int)) (by go_simp) ⟨(), .inr rfl, hS⟩
              · have EG := hval 2 _ 23 rfl rfl (dep_of hdep 2 (by rfl))
                have E25 := hval 4 _ 25 rfl rfl (dep_of hdep 4 (by rfl))
                have E27 := hval 6 _ 27 rfl rfl (dep_of hdep 6 (by rfl))
                unfold vAbC at EG E25 E27
                refine g_want rfl rfl rfl EG ?_
                exact does_value (w' := W) (v := .pointer (some ⟨b, o1 + jp * 2, none⟩)) (by go_simp) ⟨(), .inr rfl, hS⟩
              · have EG := hval 2 _ 23 rfl rfl (dep_of hdep 2 (by rfl))
                have E28 := hval 7 _ 28 rfl rfl (dep_of hdep 7 (by rfl))
                unfold vAbC at EG E28
                refine g_want rfl rfl rfl EG ?_
                obtain ⟨e1, e2⟩ := HCX.out W (HA5.out.keep hS)
                exact does_load_dotAt _ rfl b (o1 + jp * 2) (by rw [eval_getD, E28]; rfl) e1 e2 ⟨(), .inr rfl, hS⟩
              · have EG := hval 2 _ 23 rfl rfl (dep_of hdep 2 (by rfl))
                have E24 := hval 3 _ 24 rfl rfl (dep_of hdep 3 (by rfl))
                have E29 := hval 8 _ 29 rfl rfl (dep_of hdep 8 (by rfl))
                unfold vAbC at EG E24 E29
                refine g_want rfl rfl rfl EG ?_
                exact does_value (w' := W) (v := .bool q2) (by unfold dvv at *; go_simp; rw [← HQ2.out]; by_cases h1 : d.1 = x.1 <;> by_cases h2 : d.2 = x.2 <;> simp [Prod.ext_iff, h1, h2]) ⟨(), .inr rfl, hS⟩
              · have E23 := hval 2 _ 23 rfl rfl (dep_of hdep 2 (by rfl))
                have E30 := hval 9 _ 30 rfl rfl (dep_of hdep 9 (by rfl))
                unfold vAbC at E23 E30
                refine g_plain rfl ?_
                exact does_value (w' := W) (v := .bool q2) (by go_simp) ⟨(), .inr rfl, hS⟩
              · have E31 := hval 10 _ 31 rfl rfl (dep_of hdep 10 (by rfl))
                unfold vAbC at E31
                refine g_plain rfl ?_
                exact does_value (w' := W) (v := .bool q2) (by go_simp) ⟨(), .inr rfl, hS⟩
            · intro gh W6 hS
              have HA6 := hid (HA5.out.keep hS); have KG6 := hid (KG5.out.keep hS)
              clear hS
              simp only [putAll, vAbC, Nat.reduceAdd, Nat.zero_add, Act.put, List.setIfInBounds_toArray, List.set_cons_zero, List.set_cons_succ]
              cases q2 with
              | true =>
                have HE := hid (HY2.out (by have := HKJ.out; omega) (by rw [HXJ.out, of_decide_eq_true HQ2.out]))
                clear h0 HY1 HY2 HY3 HY4 HH HN hk0 hks
                go_wp2_with fail
                go_roundw
                case rel => exact ⟨k + 1, hlt, by go_num, vd, by rw [HSS.out, HE.out]; exact HA6⟩
                case measure => simp [intOf]; omega
              | false =>
                have HND := hid (show ¬ (0 < k ∧ l[k - 1]? = some d) from fun e => by
                  have e2 := e.2
                  rw [HXJ.out] at e2
                  exact absurd (Option.some.inj e2).symm (of_decide_eq_false HQ2.out))
                clear h0 HY1 HY2 hk0 hks hjm hjm' HKJ HXJ HQ2 HCX HA5 KG5
                go_wp2_with fail
                refine wp_region_invG 64 () (vAbE p q3 z d bf cf g) (fun _ _ W => Below W6.heap.size W6 W) (by kernel_rfl) (by kernel_rfl) (by exact Nat.le_refl 64) ?_ ?_ ?_
                · exact (Below.refl _ _).drew
                · intro i o f gh a W hi hf hdep hsame hcl hval hS
                  rcases i with _ | _ | _ | _ | _ | _ | _ | _ | _ | _ | i
                  all_goals simp only [List.getElem?_cons_succ, List.getElem?_cons_zero, List.getElem?_nil, Option.some.injEq, reduceCtorEq] at hi
                  all_goals subst hi
                  · have E6 : a.tmps[6]? = some (.pointer (some ⟨g, 0, none⟩)) := (same_of hsame 6 (by rfl)).trans rfl
                    refine g_plain rfl ?_
                    exact does_load_dotB _ rfl g (by rw [eval_getD, E6]; rfl) (KG6.out.keep hS) ⟨(), .inr rfl, hS⟩
                  · have E0 : a.tmps[0]? = some (.pointer (some ⟨p, 0, none⟩)) := (same_of hsame 0 (by rfl)).trans rfl
                    refine g_plain rfl ?_
                    exact does_value (w' := W) (v := .pointer (some ⟨p, 0, none⟩)) (by go_simp) ⟨(), .inr rfl, hS⟩
                  · have E34 := hval 1 _ 34 rfl rfl (dep_of hdep 1 (by rfl))
                    unfold vAbE at E34
                    refine g_plain rfl ?_
                    exact does_value (w' := W) (v := .pointer (some ⟨p, 0, none⟩)) (by go_simp) ⟨(), .inr rfl, hS⟩
                  · have E35 := hval 2 _ 35 rfl rfl (dep_of hdep 2 (by rfl))
                    unfold vAbE at E35
                    refine g_plain rfl ?_
                    exact does_value (w' := W) (v := .pointer (some ⟨p, 0, none⟩)) (by go_simp) ⟨(), .inr rfl, hS⟩
                  · have E36 := hval 3 _ 36 rfl rfl (dep_of hdep 3 (by rfl))
                    unfold vAbE at E36
                    have ka := (HA6.out.keep hS).blk
                    have kg := KG6.out.keep hS
                    have a0 := ka.cell 0 rfl
                    have a1 := ka.cell 1 rfl
                    have g0 := kg.cell 0 rfl
                    have g1 := kg.cell 1 rfl
                    refine g_plain rfl ?_
                    exact does_value (w' := W) (v := .slice (some ⟨bf, 0, none⟩) 16 cf) (by go_simp) ⟨(), .inr rfl, hS⟩
                  · have E6 : a.tmps[6]? = some (.pointer (some ⟨g, 0, none⟩)) := (same_of hsame 6 (by rfl)).trans rfl
                    refine g_plain rfl ?_
                    exact does_value (w' := W) (v := .pointer (some ⟨g, 0, none⟩)) (by go_simp) ⟨(), .inr rfl, hS⟩
                  · have E38 := hval 5 _ 38 rfl rfl (dep_of hdep 5 (by rfl))
                    unfold vAbE at E38
                    have ka := (HA6.out.keep hS).blk
                    have kg := KG6.out.keep hS
                    have a0 := ka.cell 0 rfl
                    have a1 := ka.cell 1 rfl
                    have g0 := kg.cell 0 rfl
                    have g1 := kg.cell 1 rfl
                    refine g_plain rfl ?_
                    exact does_value (w' := W) (v := .int .i64 d.1) (by go_simp) ⟨(), .inr rfl, hS⟩
                  · have E37 := hval 4 _ 37 rfl rfl (dep_of hdep 4 (by rfl))
                    have E39 := hval 6 _ 39 rfl rfl (dep_of hdep 6 (by rfl))
                    unfold vAbE at E37 E39
                    refine g_plain rfl ?_
                    refine does_call 66 #[.slice (some ⟨bf, 0, none⟩) 16 cf, .int .i64 d.1] (by go_simp) ((HN.out W (HA6.out.keep hS)).mono ?_)
                    rintro _ W' ⟨rfl, hb⟩
                    exact ⟨_, rfl, (), .inr rfl, hS.trans (hb.mono hS.size)⟩
                  · have E33 := hval 0 _ 33 rfl rfl (dep_of hdep 0 (by rfl))
                    have E40 := hval 7 _ 40 rfl rfl (dep_of hdep 7 (by rfl))
                    unfold vAbE at E33 E40
                    refine g_plain rfl ?_
                    exact does_value (w' := W) (v := .bool q3) (by unfold dvv at *; go_simp; rw [← HQ3.out]; by_cases h1 : d.2 = z <;> simp [h1]) ⟨(), .inr rfl, hS⟩
                  · have E41 := hval 8 _ 41 rfl rfl (dep_of hdep 8 (by rfl))
                    unfold vAbE at E41
                    refine g_plain rfl ?_
                    exact does_value (w' := W) (v := .bool q3) (by go_simp) ⟨(), .inr rfl, hS⟩
                · intro gh W7 hS
                  have HA7 := hid (HA6.out.keep hS); have KG7 := hid (KG6.out.keep hS)
                  clear hS HA6 KG6
                  simp only [putAll, vAbE, Nat.reduceAdd, Nat.zero_add, Act.put, List.setIfInBounds_toArray, List.set_cons_zero, List.set_cons_succ]
                  cases q3 with
                  | true =>
                    have HE := hid (HY3.out HND.out (by first | exact rfl | exact trivial))
                    have HFR := hid (show ∀ i, W7.frozen? ⟨bf, i, none⟩ = false from fun i => by
                      obtain ⟨_, hb⟩ := HA7.out.num.blk
                      exact hb.frozen i)
                    have HCJ := hid (show ∃ u, W7.cell? ⟨bf, j1, none⟩ = some u from by
                      obtain ⟨b5, o5, y, e5, _, h5⟩ := HA7.out.ni.at_ (show j1 < 16 from hj16)
                      cases e5
                      exact ⟨_, by rw [Nat.zero_add] at h5; exact h5⟩)
                    clear HY3 HY4 HH HN HND
                    go_wp2_with fail
                    refine wp_region_invG 64 () (vAbF p d bf cf g j1) (fun f _ W => (f 10 = false → Below W7.heap.size W7 W) ∧ (f 10 = true → AbS w base p bf cf (s.1.set j1 d.2, s.2) vd W)) (by kernel_rfl) (by kernel_rfl) (by exact Nat.le_refl 64) ?_ ?_ ?_
                    · exact ⟨fun _ => (Below.refl _ _).drew, fun e => by simp at e⟩
                    · intro i o f gh a W hi hf hdep hsame hcl hval hS
                      rcases i with _ | _ | _ | _ | _ | _ | _ | _ | _ | _ | _ | i
                      all_goals simp only [List.getElem?_cons_succ, List.getElem?_cons_zero, List.getElem?_nil, Option.some.injEq, reduceCtorEq] at hi
                      all_goals subst hi
                      · have E0 : a.tmps[0]? = some (.pointer (some ⟨p, 0, none⟩)) := (same_of hsame 0 (by rfl)).trans rfl
                        have n1 := not_yet hcl hf 1 (by rfl)
                        have n2 := not_yet hcl n1 2 (by rfl)
                        have n3 := not_yet hcl n2 3 (by rfl)
                        have n9 := not_yet hcl n3 9 (by rfl)
                        have n10 := not_yet hcl n9 10 (by rfl)
                        have NB := n10
                        refine g_plain rfl ?_
                        exact does_value (w' := W) (v := .pointer (some ⟨p, 0, none⟩)) (by go_simp) ⟨(), .inr rfl, ⟨fun e => hS.1 n10, fun e => absurd e (by rw [un_ne (by decide), n10]; decide)⟩⟩
                      · have E42 := hval 0 _ 42 rfl rfl (dep_of hdep 0 (by rfl))
                        unfold vAbF at E42
                        have n2 := not_yet hcl hf 2 (by rfl)
                        have n3 := not_yet hcl n2 3 (by rfl)
                        have n9 := not_yet hcl n3 9 (by rfl)
                        have n10 := not_yet hcl n9 10 (by rfl)
                        have NB := n10
                        refine g_plain rfl ?_
                        exact does_value (w' := W) (v := .pointer (some ⟨p, 0, none⟩)) (by go_simp) ⟨(), .inr rfl, ⟨fun e => hS.1 n10, fun e => absurd e (by rw [un_ne (by decide), n10]; decide)⟩⟩
                      · have E43 := hval 1 _ 43 rfl rfl (dep_of hdep 1 (by rfl))
                        unfold vAbF at E43
                        have n3 := not_yet hcl hf 3 (by rfl)
                        have n9 := not_yet hcl n3 9 (by rfl)
                        have n10 := not_yet hcl n9 10 (by rfl)
                        have NB := n10
                        refine g_plain rfl ?_
                        exact does_value (w' := W) (v := .pointer (some ⟨p, 0, none⟩)) (by go_simp) ⟨(), .inr rfl, ⟨fun e => hS.1 n10, fun e => absurd e (by rw [un_ne (by decide), n10]; decide)⟩⟩
                      · have E44 := hval 2 _ 44 rfl rfl (dep_of hdep 2 (by rfl))
                        unfold vAbF at E44
                        have n9 := not_yet hcl hf 9 (by rfl)
                        have n10 := not_yet hcl n9 10 (by rfl)
                        have NB := n10
                        have hW := hS.1 NB
                        have ka := (HA7.out.keep hW).blk
                        have kg := KG7.out.keep hW
                        have a0 := ka.cell 0 rfl
                        have a1 := ka.cell 1 rfl
                        have g0 := kg.cell 0 rfl
                        have g1 := kg.cell 1 rfl
                        refine g_plain rfl ?_
                        exact does_value (w' := W) (v := .slice (some ⟨bf, 0, none⟩) 16 cf) (by go_simp) ⟨(), .inr rfl, ⟨fun e => hS.1 n10, fun e => absurd e (by rw [un_ne (by decide), n10]; decide)⟩⟩
                      · have E6 : a.tmps[6]? = some (.pointer (some ⟨g, 0, none⟩)) := (same_of hsame 6 (by rfl)).trans rfl
                        have n5 := not_yet hcl hf 5 (by rfl)
                        have n6 := not_yet hcl n5 6 (by rfl)
                        have n9 := not_yet hcl n6 9 (by rfl)
                        have n10 := not_yet hcl n9 10 (by rfl)
                        have NB := n10
                        refine g_plain rfl ?_
                        exact does_value (w' := W) (v := .pointer (some ⟨g, 0, none⟩)) (by go_simp) ⟨(), .inr rfl, ⟨fun e => hS.1 n10, fun e => absurd e (by rw [un_ne (by decide), n10]; decide)⟩⟩
                      · have E46 := hval 4 _ 46 rfl rfl (dep_of hdep 4 (by rfl))
                        unfold vAbF at E46
                        have n6 := not_yet hcl hf 6 (by rfl)
                        have n9 := not_yet hcl n6 9 (by rfl)
                        have n10 := not_yet hcl n9 10 (by rfl)
                        have NB := n10
                        have hW := hS.1 NB
                        have ka := (HA7.out.keep hW).blk
                        have kg := KG7.out.keep hW
                        have a0 := ka.cell 0 rfl
                        have a1 := ka.cell 1 rfl
                        have g0 := kg.cell 0 rfl
                        have g1 := kg.cell 1 rfl
                        refine g_plain rfl ?_
                        exact does_value (w' := W) (v := .int .i64 d.1) (by go_simp) ⟨(), .inr rfl, ⟨fun e => hS.1 n10, fun e => absurd e (by rw [un_ne (by decide), n10]; decide)⟩⟩
                      · have E47 := hval 5 _ 47 rfl rfl (dep_of hdep 5 (by rfl))
                        unfold vAbF at E47
                        have n9 := not_yet hcl hf 9 (by rfl)
                        have n10 := not_yet hcl n9 10 (by rfl)
                        have NB := n10
                        refine g_plain rfl ?_
                        exact does_value (w' := W) (v := .int .i64 (j1 : Int)) (by go_simp) ⟨(), .inr rfl, ⟨fun e => hS.1 n10, fun e => absurd e (by rw [un_ne (by decide), n10]; decide)⟩⟩
                      · have E6 : a.tmps[6]? = some (.pointer (some ⟨g, 0, none⟩)) := (same_of hsame 6 (by rfl)).trans rfl
                        have n8 := not_yet hcl hf 8 (by rfl)
                        have n10 := not_yet hcl n8 10 (by rfl)
                        have NB := n10
                        refine g_plain rfl ?_
                        exact does_value (w' := W) (v := .pointer (some ⟨g, 1, none⟩)) (by go_simp) ⟨(), .inr rfl, ⟨fun e => hS.1 n10, fun e => absurd e (by rw [un_ne (by decide), n10]; decide)⟩⟩
                      · have E49 := hval 7 _ 49 rfl rfl (dep_of hdep 7 (by rfl))
                        unfold vAbF at E49
                        have n10 := not_yet hcl hf 10 (by rfl)
                        have NB := n10
                        have hW := hS.1 NB
                        have ka := (HA7.out.keep hW).blk
                        have kg := KG7.out.keep hW
                        have a0 := ka.cell 0 rfl
                        have a1 := ka.cell 1 rfl
                        have g0 := kg.cell 0 rfl
                        have g1 := kg.cell 1 rfl
                        refine g_plain rfl ?_
                        exact does_value (w' := W) (v := .int .i64 d.2) (by go_simp) ⟨(), .inr rfl, ⟨fun e => hS.1 n10, fun e => absurd e (by rw [un_ne (by decide), n10]; decide)⟩⟩
                      · have E45 := hval 3 _ 45 rfl rfl (dep_of hdep 3 (by rfl))
                        have E48 := hval 6 _ 48 rfl rfl (dep_of hdep 6 (by rfl))
                        unfold vAbF at E45 E48
                        have n10 := not_yet hcl hf 10 (by rfl)
                        have NB := n10
                        refine g_plain rfl ?_
                        exact does_value (w' := W) (v := .pointer (some ⟨bf, j1, none⟩)) (by go_simp) ⟨(), .inr rfl, ⟨fun e => hS.1 n10, fun e => absurd e (by rw [un_ne (by decide), n10]; decide)⟩⟩
                      · have E51 := hval 9 _ 51 rfl rfl (dep_of hdep 9 (by rfl))
                        have E50 := hval 8 _ 50 rfl rfl (dep_of hdep 8 (by rfl))
                        unfold vAbF at E51 E50
                        refine g_plain rfl ?_
                        obtain ⟨cj, hcj⟩ := HCJ.out
                        have hcj2 := cell_keep hcj (hS.1 hf)
                        obtain ⟨_, hbk⟩ := (HA7.out.keep (hS.1 hf)).num.blk
                        have hfr := hbk.frozen j1
                        exact does_skip (w' := W.setCell ⟨bf, j1, none⟩ (.int .i64 d.2)) (by go_simp) ⟨(), .inl rfl, (fun e => by rw [un_eq] at e; cases e), fun _ => (HA7.out.keep (hS.1 hf)).put HBF.out hj16 d.2⟩
                    · intro gh W8 hS
                      have HP := hid (hS.2 rfl)
                      clear hS HA7 KG7
                      simp only [putAll, vAbF, Nat.reduceAdd, Nat.zero_add, Act.put, List.setIfInBounds_toArray, List.set_cons_zero, List.set_cons_succ]
                      go_wp2_with fail
                      go_roundw
                      case rel => exact ⟨k + 1, hlt, by go_num, vd, by rw [HSS.out, HE.out, HJ.out]; exact HP⟩
                      case measure => simp [intOf]; omega
                  | false =>
                    have HE := hid (HY4.out HND.out (by first | exact rfl | exact trivial) (by first | exact rfl | exact trivial))
                    clear HY3 HY4 HH HN HND
                    go_wp2_with fail
                    refine wp_region_invG 64 (.pointer none) (vAbG p d vd) (ApD w W7 base p bf cf s vd d) (by kernel_rfl) (by kernel_rfl) (by exact Nat.le_refl 64) ?_ ?_ ?_
                    · exact ApD.start HA7.out _
                    · intro i o f gh a W hi hf hdep hsame hcl hval hS
                      rcases i with _ | _ | _ | _ | _ | _ | _ | _ | _ | _ | _ | i
                      all_goals simp only [List.getElem?_cons_succ, List.getElem?_cons_zero, List.getElem?_nil, Option.some.injEq, reduceCtorEq] at hi
                      all_goals subst hi
                      · have E0 : a.tmps[0]? = some (.pointer (some ⟨p, 0, none⟩)) := (same_of hsame 0 (by rfl)).trans rfl
                        refine g_plain rfl ?_
                        exact does_value (w' := W) (v := .pointer (some ⟨p, 0, none⟩)) (by go_simp) ⟨.pointer none, .inr rfl, hS.same 0 _ (by decide) (by decide) (by decide)⟩
                      · have E0 : a.tmps[0]? = some (.pointer (some ⟨p, 0, none⟩)) := (same_of hsame 0 (by rfl)).trans rfl
                        refine g_plain rfl ?_
                        exact does_value (w' := W) (v := .pointer (some ⟨p, 0, none⟩)) (by go_simp) ⟨.pointer none, .inr rfl, hS.same 1 _ (by decide) (by decide) (by decide)⟩
                      · have E53 := hval 1 _ 53 rfl rfl (dep_of hdep 1 (by rfl))
                        unfold vAbG at E53
                        refine g_plain rfl ?_
                        exact does_value (w' := W) (v := .pointer (some ⟨p, 0, none⟩)) (by go_simp) ⟨.pointer none, .inr rfl, hS.same 2 _ (by decide) (by decide) (by decide)⟩
                      · have E54 := hval 2 _ 54 rfl rfl (dep_of hdep 2 (by rfl))
                        unfold vAbG at E54
                        refine g_plain rfl ?_
                        exact does_value (w' := W) (v := .pointer (some ⟨p, 1, none⟩)) (by go_simp) ⟨.pointer none, .inr rfl, hS.same 3 _ (by decide) (by decide) (by decide)⟩
                      · have E55 := hval 3 _ 55 rfl rfl (dep_of hdep 3 (by rfl))
                        unfold vAbG at E55
                        have n7 := not_yet hcl hf 7 (by rfl)
                        have n10 := not_yet hcl n7 10 (by rfl)
                        have NB := n10
                        have kt := hS.top NB
                        have t0 := kt.cell 0 rfl
                        have t1 := kt.cell 1 rfl
                        refine g_plain rfl ?_
                        exact does_value (w' := W) (v := vd) (by go_simp) ⟨.pointer none, .inr rfl, hS.same 4 _ (by decide) (by decide) (by decide)⟩
                      · have E6 : a.tmps[6]? = some (.pointer (some ⟨g, 0, none⟩)) := (same_of hsame 6 (by rfl)).trans rfl
                        refine g_plain rfl ?_
                        exact does_load_dotB _ rfl g (by rw [eval_getD, E6]; rfl) (hS.other KG7.out HVG.out) ⟨.pointer none, .inr rfl, hS.same 5 _ (by decide) (by decide) (by decide)⟩
                      · have E57 := hval 5 _ 57 rfl rfl (dep_of hdep 5 (by rfl))
                        unfold vAbG at E57
                        refine g_plain rfl ?_
                        have n7 := not_yet hcl hf 7 (by rfl)
                        have n10 := not_yet hcl n7 10 (by rfl)
                        unfold dvv at *
                        exact does_value (w' := W.alloc (.cells #[.int .i64 d.1, .int .i64 d.2] 27)) (v := .slice (some ⟨W.heap.size, 0, none⟩) 1 1) (by go_simp) ⟨_, .inr rfl, hS.build n7 n10⟩
                      · have E56 := hval 4 _ 56 rfl rfl (dep_of hdep 4 (by rfl))
                        have E58 := hval 6 _ 58 rfl rfl (dep_of hdep 6 (by rfl))
                        unfold vAbG at E56 E58
                        refine g_plain rfl ?_
                        have n10 := not_yet hcl hf 10 (by rfl)
                        obtain ⟨qq, v', W', e, hr, hS'⟩ := hS.more (dep_of hdep 6 (by rfl)) hf n10 (by have := HSO.out; omega) 23
                        rw [e] at E58
                        exact does_append _ _ _ rfl (by rw [eval_getD, E56]; rfl) (by rw [eval_getD, E58]; rfl) hr ⟨v', .inr rfl, hS'⟩
                      · have E52 := hval 0 _ 52 rfl rfl (dep_of hdep 0 (by rfl))
                        unfold vAbG at E52
                        refine g_plain rfl ?_
                        exact does_value (w' := W) (v := .pointer (some ⟨p, 0, none⟩)) (by go_simp) ⟨.pointer none, .inr rfl, hS.same 8 _ (by decide) (by decide) (by decide)⟩
                      · have E60 := hval 8 _ 60 rfl rfl (dep_of hdep 8 (by rfl))
                        unfold vAbG at E60
                        refine g_plain rfl ?_
                        exact does_value (w' := W) (v := .pointer (some ⟨p, 1, none⟩)) (by go_simp) ⟨.pointer none, .inr rfl, hS.same 9 _ (by decide) (by decide) (by decide)⟩
                      · have E61 := hval 9 _ 61 rfl rfl (dep_of hdep 9 (by rfl))
                        have E59 := hval 7 _ 59 rfl rfl (dep_of hdep 7 (by rfl))
                        unfold vAbG at E61 E59
                        refine g_plain rfl ?_
                        have e7 := dep_of hdep 7 (by rfl)
                        obtain ⟨A7, c7, e5, _⟩ := (hS.app e7).nd
                        have kt := hS.top hf
                        have t1 := kt.cell 1 rfl
                        have t2 := kt.frozen 1
                        have hst := hS.store e7 hf undef
                        rw [e5] at E59 hst
                        exact does_skip (w' := W.setCell ⟨p, 1, none⟩ (.slice A7 (s.2.length + 1) c7)) (by go_simp) ⟨_, .inl rfl, hst⟩
                    · intro gh W8 hS
                      have HP := hid (hS.fin rfl rfl HBF.out)
                      clear hS HA7 KG7
                      simp only [putAll, vAbG, Nat.reduceAdd, Nat.zero_add, Act.put, List.setIfInBounds_toArray, List.set_cons_zero, List.set_cons_succ]
                      generalize gh 7 = v7 at HP ⊢
                      generalize gh 6 = v6
                      go_wp2_with fail
                      go_roundw
                      case rel => exact ⟨k + 1, hlt, by go_num, v7, by rw [HSS.out, HE.out]; exact HP⟩
                      case measure => simp [intOf]; omega
          · have HND := hid (show ¬ (0 < k ∧ l[k - 1]? = some d) from fun e => h0 e.1)
            have hk0 : ¬ (0 : Int) < (k : Int) := by omega
            clear HPN HY1 HY2
            go_wp2_with fail
            refine wp_region_invG 64 () (vAbD k) (fun _ _ W => Below W5.heap.size W5 W) (by kernel_rfl) (by kernel_rfl) (by exact Nat.le_refl 64) ?_ ?_ ?_
            · exact (Below.refl _ _).drew
            · intro i o f gh a W hi hf hdep hsame hcl hval hS
              rcases i with _ | _ | _ | _ | _ | _ | _ | _ | _ | _ | _ | _ | i
              all_goals simp only [List.getElem?_cons_succ, List.getElem?_cons_zero, List.getElem?_nil, Option.some.injEq, reduceCtorEq] at hi
              all_goals subst hi
              · have E5 : a.tmps[5]? = some (.int .i64 (k : Int)) := (same_of hsame 5 (by rfl)).trans rfl
                refine g_plain rfl ?_
                exact does_value (w' := W) (v := .int .i64 (k : Int)) (by go_simp) ⟨(), .inr rfl, hS⟩
              · have E21 := hval 0 _ 21 rfl rfl (dep_of hdep 0 (by rfl))
                unfold vAbD at E21
                refine g_plain rfl ?_
                exact does_value (w' := W) (v := .bool false) (by go_simp <;> omega) ⟨(), .inr rfl, hS⟩
              · have E22 := hval 1 _ 22 rfl rfl (dep_of hdep 1 (by rfl))
                unfold vAbD at E22
                refine g_plain rfl ?_
                exact does_value (w' := W) (v := .bool false) (by go_simp) ⟨(), .inr rfl, hS⟩
              · have EG := hval 2 _ 23 rfl rfl (dep_of hdep 2 (by rfl))
                unfold vAbD at EG
                exact g_skip rfl rfl rfl EG rfl ⟨(), .inr rfl, hS⟩
              · have EG := hval 2 _ 23 rfl rfl (dep_of hdep 2 (by rfl))
                unfold vAbD at EG
                exact g_skip rfl rfl rfl EG rfl ⟨(), .inr rfl, hS⟩
              · have EG := hval 2 _ 23 rfl rfl (dep_of hdep 2 (by rfl))
                unfold vAbD at EG
                exact g_skip rfl rfl rfl EG rfl ⟨(), .inr rfl, hS⟩
              · have EG := hval 2 _ 23 rfl rfl (dep_of hdep 2 (by rfl))
                unfold vAbD at EG
                exact g_skip rfl rfl rfl EG rfl ⟨(), .inr rfl, hS⟩
              · have EG := hval 2 _ 23 rfl rfl (dep_of hdep 2 (by rfl))
                unfold vAbD at EG
                exact g_skip rfl rfl rfl EG rfl ⟨(), .inr rfl, hS⟩
              · have EG := hval 2 _ 23 rfl rfl (dep_of hdep 2 (by rfl))
                unfold vAbD at EG
                exact g_skip rfl rfl rfl EG rfl ⟨(), .inr rfl, hS⟩
              · have EG := hval 2 _ 23 rfl rfl (dep_of hdep 2 (by rfl))
                unfold vAbD at EG
                exact g_skip rfl rfl rfl EG rfl ⟨(), .inr rfl, hS⟩
              · have E23 := hval 2 _ 23 rfl rfl (dep_of hdep 2 (by rfl))
                have E30 := hval 9 _ 30 rfl rfl (dep_of hdep 9 (by rfl))
                unfold vAbD at E23 E30
                refine g_plain rfl ?_
                exact does_value (w' := W) (v := .bool false) (by go_simp) ⟨(), .inr rfl, hS⟩
              · have E31 := hval 10 _ 31 rfl rfl (dep_of hdep 10 (by rfl))
                unfold vAbD at E31
                refine g_plain rfl ?_
                exact does_value (w' := W) (v := .bool false) (by go_simp) ⟨(), .inr rfl, hS⟩
            · intro gh W6 hS
              have HA6 := hid (HA5.out.keep hS); have KG6 := hid (KG5.out.keep hS)
              clear hS HA5 KG5
              simp only [putAll, vAbD, Nat.reduceAdd, Nat.zero_add, Act.put, List.setIfInBounds_toArray, List.set_cons_zero, List.set_cons_succ]
              clear hk0 h0
              go_wp2_with fail
              refine wp_region_invG 64 () (vAbE p q3 z d bf cf g) (fun _ _ W => Below W6.heap.size W6 W) (by kernel_rfl) (by kernel_rfl) (by exact Nat.le_refl 64) ?_ ?_ ?_
              · exact (Below.refl _ _).drew
              · intro i o f gh a W hi hf hdep hsame hcl hval hS
                rcases i with _ | _ | _ | _ | _ | _ | _ | _ | _ | _ | i
                all_goals simp only [List.getElem?_cons_succ, List.getElem?_cons_zero, List.getElem?_nil, Option.some.injEq, reduceCtorEq] at hi
                all_goals subst hi
                · have E6 : a.tmps[6]? = some (.pointer (some ⟨g, 0, none⟩)) := (same_of hsame 6 (by rfl)).trans rfl
                  refine g_plain rfl ?_
                  exact does_load_dotB _ rfl g (by rw [eval_getD, E6]; rfl) (KG6.out.keep hS) ⟨(), .inr rfl, hS⟩
                · have E0 : a.tmps[0]? = some (.pointer (some ⟨p, 0, none⟩)) := (same_of hsame 0 (by rfl)).trans rfl
                  refine g_plain rfl ?_
                  exact does_value (w' := W) (v := .pointer (some ⟨p, 0, none⟩)) (by go_simp) ⟨(), .inr rfl, hS⟩
                · have E34 := hval 1 _ 34 rfl rfl (dep_of hdep 1 (by rfl))
                  unfold vAbE at E34
                  refine g_plain rfl ?_
                  exact does_value (w' := W) (v := .pointer (some ⟨p, 0, none⟩)) (by go_simp) ⟨(), .inr rfl, hS⟩
                · have E35 := hval 2 _ 35 rfl rfl (dep_of hdep 2 (by rfl))
                  unfold vAbE at E35
                  refine g_plain rfl ?_
                  exact does_value (w' := W) (v := .pointer (some ⟨p, 0, none⟩)) (by go_simp) ⟨(), .inr rfl, hS⟩
                · have E36 := hval 3 _ 36 rfl rfl (dep_of hdep 3 (by rfl))
                  unfold vAbE at E36
                  have ka := (HA6.out.keep hS).blk
                  have kg := KG6.out.keep hS
                  have a0 := ka.cell 0 rfl
                  have a1 := ka.cell 1 rfl
                  have g0 := kg.cell 0 rfl
                  have g1 := kg.cell 1 rfl
                  refine g_plain rfl ?_
                  exact does_value (w' := W) (v := .slice (some ⟨bf, 0, none⟩) 16 cf) (by go_simp) ⟨(), .inr rfl, hS⟩
                · have E6 : a.tmps[6]? = some (.pointer (some ⟨g, 0, none⟩)) := (same_of hsame 6 (by rfl)).trans rfl
                  refine g_plain rfl ?_
                  exact does_value (w' := W) (v := .pointer (some ⟨g, 0, none⟩)) (by go_simp) ⟨(), .inr rfl, hS⟩
                · have E38 := hval 5 _ 38 rfl rfl (dep_of hdep 5 (by rfl))
                  unfold vAbE at E38
                  have ka := (HA6.out.keep hS).blk
                  have kg := KG6.out.keep hS
                  have a0 := ka.cell 0 rfl
                  have a1 := ka.cell 1 rfl
                  have g0 := kg.cell 0 rfl
                  have g1 := kg.cell 1 rfl
                  refine g_plain rfl ?_
                  exact does_value (w' := W) (v := .int .i64 d.1) (by go_simp) ⟨(), .inr rfl, hS⟩
                · have E37 := hval 4 _ 37 rfl rfl (dep_of hdep 4 (by rfl))
                  have E39 := hval 6 _ 39 rfl rfl (dep_of hdep 6 (by rfl))
                  unfold vAbE at E37 E39
                  refine g_plain rfl ?_
                  refine does_call 66 #[.slice (some ⟨bf, 0, none⟩) 16 cf, .int .i64 d.1] (by go_simp) ((HN.out W (HA6.out.keep hS)).mono ?_)
                  rintro _ W' ⟨rfl, hb⟩
                  exact ⟨_, rfl, (), .inr rfl, hS.trans (hb.mono hS.size)⟩
                · have E33 := hval 0 _ 33 rfl rfl (dep_of hdep 0 (by rfl))
                  have E40 := hval 7 _ 40 rfl rfl (dep_of hdep 7 (by rfl))
                  unfold vAbE at E33 E40
                  refine g_plain rfl ?_
                  exact does_value (w' := W) (v := .bool q3) (by unfold dvv at *; go_simp; rw [← HQ3.out]; by_cases h1 : d.2 = z <;> simp [h1]) ⟨(), .inr rfl, hS⟩
                · have E41 := hval 8 _ 41 rfl rfl (dep_of hdep 8 (by rfl))
                  unfold vAbE at E41
                  refine g_plain rfl ?_
                  exact does_value (w' := W) (v := .bool q3) (by go_simp) ⟨(), .inr rfl, hS⟩
              · intro gh W7 hS
                have HA7 := hid (HA6.out.keep hS); have KG7 := hid (KG6.out.keep hS)
                clear hS HA6 KG6
                simp only [putAll, vAbE, Nat.reduceAdd, Nat.zero_add, Act.put, List.setIfInBounds_toArray, List.set_cons_zero, List.set_cons_succ]
                cases q3 with
                | true =>
                  have HE := hid (HY3.out HND.out (by first | exact rfl | exact trivial))
                  have HFR := hid (show ∀ i, W7.frozen? ⟨bf, i, none⟩ = false from fun i => by
                    obtain ⟨_, hb⟩ := HA7.out.num.blk
                    exact hb.frozen i)
                  have HCJ := hid (show ∃ u, W7.cell? ⟨bf, j1, none⟩ = some u from by
                    obtain ⟨b5, o5, y, e5, _, h5⟩ := HA7.out.ni.at_ (show j1 < 16 from hj16)
                    cases e5
                    exact ⟨_, by rw [Nat.zero_add] at h5; exact h5⟩)
                  clear HY3 HY4 HH HN HND
                  go_wp2_with fail
                  refine wp_region_invG 64 () (vAbF p d bf cf g j1) (fun f _ W => (f 10 = false → Below W7.heap.size W7 W) ∧ (f 10 = true → AbS w base p bf cf (s.1.set j1 d.2, s.2) vd W)) (by kernel_rfl) (by kernel_rfl) (by exact Nat.le_refl 64) ?_ ?_ ?_
                  · exact ⟨fun _ => (Below.refl _ _).drew, fun e => by simp at e⟩
                  · intro i o f gh a W hi hf hdep hsame hcl hval hS
                    rcases i with _ | _ | _ | _ | _ | _ | _ | _ | _ | _ | _ | i
                    all_goals simp only [List.getElem?_cons_succ, List.getElem?_cons_zero, List.getElem?_nil, Option.some.injEq, reduceCtorEq] at hi
                    all_goals subst hi
                    · have E0 : a.tmps[0]? = some (.pointer (some ⟨p, 0, none⟩)) := (same_of hsame 0 (by rfl)).trans rfl
                      have n1 := not_yet hcl hf 1 (by rfl)
                      have n2 := not_yet hcl n1 2 (by rfl)
                      have n3 := not_yet hcl n2 3 (by rfl)
                      have n9 := not_yet hcl n3 9 (by rfl)
                      have n10 := not_yet hcl n9 10 (by rfl)
                      have NB := n10
                      refine g_plain rfl ?_
                      exact does_value (w' := W) (v := .pointer (some ⟨p, 0, none⟩)) (by go_simp) ⟨(), .inr rfl, ⟨fun e => hS.1 n10, fun e => absurd e (by rw [un_ne (by decide), n10]; decide)⟩⟩
                    · have E42 := hval 0 _ 42 rfl rfl (dep_of hdep 0 (by rfl))
                      unfold vAbF at E42
                      have n2 := not_yet hcl hf 2 (by rfl)
                      have n3 := not_yet hcl n2 3 (by rfl)
                      have n9 := not_yet hcl n3 9 (by rfl)
                      have n10 := not_yet hcl n9 10 (by rfl)
                      have NB := n10
                      refine g_plain rfl ?_
                      exact does_value (w' := W) (v := .pointer (some ⟨p, 0, none⟩)) (by go_simp) ⟨(), .inr rfl, ⟨fun e => hS.1 n10, fun e => absurd e (by rw [un_ne (by decide), n10]; decide)⟩⟩
                    · have E43 := hval 1 _ 43 rfl rfl (dep_of hdep 1 (by rfl))
                      unfold vAbF at E43
                      have n3 := not_yet hcl hf 3 (by rfl)
                      have n9 := not_yet hcl n3 9 (by rfl)
                      have n10 := not_yet hcl n9 10 (by rfl)
                      have NB := n10
                      refine g_plain rfl ?_
                      exact does_value (w' := W) (v := .pointer (some ⟨p, 0, none⟩)) (by go_simp) ⟨(), .inr rfl, ⟨fun e => hS.1 n10, fun e => absurd e (by rw [un_ne (by decide), n10]; decide)⟩⟩
                    · have E44 := hval 2 _ 44 rfl rfl (dep_of hdep 2 (by rfl))
                      unfold vAbF at E44
                      have n9 := not_yet hcl hf 9 (by rfl)
                      have n10 := not_yet hcl n9 10 (by rfl)
                      have NB := n10
                      have hW := hS.1 NB
                      have ka := (HA7.out.keep hW).blk
                      have kg := KG7.out.keep hW
                      have a0 := ka.cell 0 rfl
                      have a1 := ka.cell 1 rfl
                      have g0 := kg.cell 0 rfl
                      have g1 := kg.cell 1 rfl
                      refine g_plain rfl ?_
                      exact does_value (w' := W) (v := .slice (some ⟨bf, 0, none⟩) 16 cf) (by go_simp) ⟨(), .inr rfl, ⟨fun e => hS.1 n10, fun e => absurd e (by rw [un_ne (by decide), n10]; decide)⟩⟩
                    · have E6 : a.tmps[6]? = some (.pointer (some ⟨g, 0, none⟩)) := (same_of hsame 6 (by rfl)).trans rfl
                      have n5 := not_yet hcl hf 5 (by rfl)
                      have n6 := not_yet hcl n5 6 (by rfl)
                      have n9 := not_yet hcl n6 9 (by rfl)
                      have n10 := not_yet hcl n9 10 (by rfl)
                      have NB := n10
                      refine g_plain rfl ?_
                      exact does_value (w' := W) (v := .pointer (some ⟨g, 0, none⟩)) (by go_simp) ⟨(), .inr rfl, ⟨fun e => hS.1 n10, fun e => absurd e (by rw [un_ne (by decide), n10]; decide)⟩⟩
                    · have E46 := hval 4 _ 46 rfl rfl (dep_of hdep 4 (by rfl))
                      unfold vAbF at E46
                      have n6 := not_yet hcl hf 6 (by rfl)
                      have n9 := not_yet hcl n6 9 (by rfl)
                      have n10 := not_yet hcl n9 10 (by rfl)
                      have NB := n10
                      have hW := hS.1 NB
                      have ka := (HA7.out.keep hW).blk
                      have kg := KG7.out.keep hW
                      have a0 := ka.cell 0 rfl
                      have a1 := ka.cell 1 rfl
                      have g0 := kg.cell 0 rfl
                      have g1 := kg.cell 1 rfl
                      refine g_plain rfl ?_
                      exact does_value (w' := W) (v := .int .i64 d.1) (by go_simp) ⟨(), .inr rfl, ⟨fun e => hS.1 n10, fun e => absurd e (by rw [un_ne (by decide), n10]; decide)⟩⟩
                    · have E47 := hval 5 _ 47 rfl rfl (dep_of hdep 5 (by rfl))
                      unfold vAbF at E47
                      have n9 := not_yet hcl hf 9 (by rfl)
                      have n10 := not_yet hcl n9 10 (by rfl)
                      have NB := n10
                      refine g_plain rfl ?_
                      exact does_value (w' := W) (v := .int .i64 (j1 : Int)) (by go_simp) ⟨(), .inr rfl, ⟨fun e => hS.1 n10, fun e => absurd e (by rw [un_ne (by decide), n10]; decide)⟩⟩
                    · have E6 : a.tmps[6]? = some (.pointer (some ⟨g, 0, none⟩)) := (same_of hsame 6 (by rfl)).trans rfl
                      have n8 := not_yet hcl hf 8 (by rfl)
                      have n10 := not_yet hcl n8 10 (by rfl)
                      have NB := n10
                      refine g_plain rfl ?_
                      exact does_value (w' := W) (v := .pointer (some ⟨g, 1, none⟩)) (by go_simp) ⟨(), .inr rfl, ⟨fun e => hS.1 n10, fun e => absurd e (by rw [un_ne (by decide), n10]; decide)⟩⟩
                    · have E49 := hval 7 _ 49 rfl rfl (dep_of hdep 7 (by rfl))
                      unfold vAbF at E49
                      have n10 := not_yet hcl hf 10 (by rfl)
                      have NB := n10
                      have hW := hS.1 NB
                      have ka := (HA7.out.keep hW).blk
                      have kg := KG7.out.keep hW
                      have a0 := ka.cell 0 rfl
                      have a1 := ka.cell 1 rfl
                      have g0 := kg.cell 0 rfl
                      have g1 := kg.cell 1 rfl
                      refine g_plain rfl ?_
                      exact does_value (w' := W) (v := .int .i64 d.2) (by go_simp) ⟨(), .inr rfl, ⟨fun e => hS.1 n10, fun e => absurd e (by rw [un_ne (by decide), n10]; decide)⟩⟩
                    · have E45 := hval 3 _ 45 rfl rfl (dep_of hdep 3 (by rfl))
                      have E48 := hval 6 _ 48 rfl rfl (dep_of hdep 6 (by rfl))
                      unfold vAbF at E45 E48
                      have n10 := not_yet hcl hf 10 (by rfl)
                      have NB := n10
                      refine g_plain rfl ?_
                      exact does_value (w' := W) (v := .pointer (some ⟨bf, j1, none⟩)) (by go_simp) ⟨(), .inr rfl, ⟨fun e => hS.1 n10, fun e => absurd e (by rw [un_ne (by decide), n10]; decide)⟩⟩
                    · have E51 := hval 9 _ 51 rfl rfl (dep_of hdep 9 (by rfl))
                      have E50 := hval 8 _ 50 rfl rfl (dep_of hdep 8 (by rfl))
                      unfold vAbF at E51 E50
                      refine g_plain rfl ?_
                      obtain ⟨cj, hcj⟩ := HCJ.out
                      have hcj2 := cell_keep hcj (hS.1 hf)
                      obtain ⟨_, hbk⟩ := (HA7.out.keep (hS.1 hf)).num.blk
                      have hfr := hbk.frozen j1
                      exact does_skip (w' := W.setCell ⟨bf, j1, none⟩ (.int .i64 d.2)) (by go_simp) ⟨(), .inl rfl, (fun e => by rw [un_eq] at e; cases e), fun _ => (HA7.out.keep (hS.1 hf)).put HBF.out hj16 d.2⟩
                  · intro gh W8 hS
                    have HP := hid (hS.2 rfl)
                    clear hS HA7 KG7
                    simp only [putAll, vAbF, Nat.reduceAdd, Nat.zero_add, Act.put, List.setIfInBounds_toArray, List.set_cons_zero, List.set_cons_succ]
                    go_wp2_with fail
                    go_roundw
                    case rel => exact ⟨k + 1, hlt, by go_num, vd, by rw [HSS.out, HE.out, HJ.out]; exact HP⟩
                    case measure => simp [intOf]; omega
                | false =>
                  have HE := hid (HY4.out HND.out (by first | exact rfl | exact trivial) (by first | exact rfl | exact trivial))
                  clear HY3 HY4 HH HN HND
                  go_wp2_with fail
                  refine wp_region_invG 64 (.pointer none) (vAbG p d vd) (ApD w W7 base p bf cf s vd d) (by kernel_rfl) (by kernel_rfl) (by exact Nat.le_refl 64) ?_ ?_ ?_
                  · exact ApD.start HA7.out _
                  · intro i o f gh a W hi hf hdep hsame hcl hval hS
                    rcases i with _ | _ | _ | _ | _ | _ | _ | _ | _ | _ | _ | i
                    all_goals simp only [List.getElem?_cons_succ, List.getElem?_cons_zero, List.getElem?_nil, Option.some.injEq, reduceCtorEq] at hi
                    all_goals subst hi
                    · have E0 : a.tmps[0]? = some (.pointer (some ⟨p, 0, none⟩)) := (same_of hsame 0 (by rfl)).trans rfl
                      refine g_plain rfl ?_
                      exact does_value (w' := W) (v := .pointer (some ⟨p, 0, none⟩)) (by go_simp) ⟨.pointer none, .inr rfl, hS.same 0 _ (by decide) (by decide) (by decide)⟩
                    · have E0 : a.tmps[0]? = some (.pointer (some ⟨p, 0, none⟩)) := (same_of hsame 0 (by rfl)).trans rfl
                      refine g_plain rfl ?_
                      exact does_value (w' := W) (v := .pointer (some ⟨p, 0, none⟩)) (by go_simp) ⟨.pointer none, .inr rfl, hS.same 1 _ (by decide) (by decide) (by decide)⟩
                    · have E53 := hval 1 _ 53 rfl rfl (dep_of hdep 1 (by rfl))
                      unfold vAbG at E53
                      refine g_plain rfl ?_
                      exact does_value (w' := W) (v := .pointer (some ⟨p, 0, none⟩)) (by go_simp) ⟨.pointer none, .inr rfl, hS.same 2 _ (by decide) (by decide) (by decide)⟩
                    · have E54 := hval 2 _ 54 rfl rfl (dep_of hdep 2 (by rfl))
                      unfold vAbG at E54
                      refine g_plain rfl ?_
                      exact does_value (w' := W) (v := .pointer (some ⟨p, 1, none⟩)) (by go_simp) ⟨.pointer none, .inr rfl, hS.same 3 _ (by decide) (by decide) (by decide)⟩
                    · have E55 := hval 3 _ 55 rfl rfl (dep_of hdep 3 (by rfl))
                      unfold vAbG at E55
                      have n7 := not_yet hcl hf 7 (by rfl)
                      have n10 := not_yet hcl n7 10 (by rfl)
                      have NB := n10
                      have kt := hS.top NB
                      have t0 := kt.cell 0 rfl
                      have t1 := kt.cell 1 rfl
                      refine g_plain rfl ?_
                      exact does_value (w' := W) (v := vd) (by go_simp) ⟨.pointer none, .inr rfl, hS.same 4 _ (by decide) (by decide) (by decide)⟩
                    · have E6 : a.tmps[6]? = some (.pointer (some ⟨g, 0, none⟩)) := (same_of hsame 6 (by rfl)).trans rfl
                      refine g_plain rfl ?_
                      exact does_load_dotB _ rfl g (by rw [eval_getD, E6]; rfl) (hS.other KG7.out HVG.out) ⟨.pointer none, .inr rfl, hS.same 5 _ (by decide) (by decide) (by decide)⟩
                    · have E57 := hval 5 _ 57 rfl rfl (dep_of hdep 5 (by rfl))
                      unfold vAbG at E57
                      refine g_plain rfl ?_
                      have n7 := not_yet hcl hf 7 (by rfl)
                      have n10 := not_yet hcl n7 10 (by rfl)
                      unfold dvv at *
                      exact does_value (w' := W.alloc (.cells #[.int .i64 d.1, .int .i64 d.2] 27)) (v := .slice (some ⟨W.heap.size, 0, none⟩) 1 1) (by go_simp) ⟨_, .inr rfl, hS.build n7 n10⟩
                    · have E56 := hval 4 _ 56 rfl rfl (dep_of hdep 4 (by rfl))
                      have E58 := hval 6 _ 58 rfl rfl (dep_of hdep 6 (by rfl))
                      unfold vAbG at E56 E58
                      refine g_plain rfl ?_
                      have n10 := not_yet hcl hf 10 (by rfl)
                      obtain ⟨qq, v', W', e, hr, hS'⟩ := hS.more (dep_of hdep 6 (by rfl)) hf n10 (by have := HSO.out; omega) 23
                      rw [e] at E58
                      exact does_append _ _ _ rfl (by rw [eval_getD, E56]; rfl) (by rw [eval_getD, E58]; rfl) hr ⟨v', .inr rfl, hS'⟩
                    · have E52 := hval 0 _ 52 rfl rfl (dep_of hdep 0 (by rfl))
                      unfold vAbG at E52
                      refine g_plain rfl ?_
                      exact does_value (w' := W) (v := .pointer (some ⟨p, 0, none⟩)) (by go_simp) ⟨.pointer none, .inr rfl, hS.same 8 _ (by decide) (by decide) (by decide)⟩
                    · have E60 := hval 8 _ 60 rfl rfl (dep_of hdep 8 (by rfl))
                      unfold vAbG at E60
                      refine g_plain rfl ?_
                      exact does_value (w' := W) (v := .pointer (some ⟨p, 1, none⟩)) (by go_simp) ⟨.pointer none, .inr rfl, hS.same 9 _ (by decide) (by decide) (by decide)⟩
                    · have E61 := hval 9 _ 61 rfl rfl (dep_of hdep 9 (by rfl))
                      have E59 := hval 7 _ 59 rfl rfl (dep_of hdep 7 (by rfl))
                      unfold vAbG at E61 E59
                      refine g_plain rfl ?_
                      have e7 := dep_of hdep 7 (by rfl)
                      obtain ⟨A7, c7, e5, _⟩ := (hS.app e7).nd
                      have kt := hS.top hf
                      have t1 := kt.cell 1 rfl
                      have t2 := kt.frozen 1
                      have hst := hS.store e7 hf undef
                      rw [e5] at E59 hst
                      exact does_skip (w' := W.setCell ⟨p, 1, none⟩ (.slice A7 (s.2.length + 1) c7)) (by go_simp) ⟨_, .inl rfl, hst⟩
                  · intro gh W8 hS
                    have HP := hid (hS.fin rfl rfl HBF.out)
                    clear hS HA7 KG7
                    simp only [putAll, vAbG, Nat.reduceAdd, Nat.zero_add, Act.put, List.setIfInBounds_toArray, List.set_cons_zero, List.set_cons_succ]
                    generalize gh 7 = v7 at HP ⊢
                    generalize gh 6 = v6
                    go_wp2_with fail
                    go_roundw
                    case rel => exact ⟨k + 1, hlt, by go_num, v7, by rw [HSS.out, HE.out]; exact HP⟩
                    case measure => simp [intOf]; omega
    · obtain rfl : k = m := by omega
      go_wp2_with fail
      dsimp +zetaDelta only [Exit.noGoto, Exit.inBlock, Exit.then]
      go_ret
      exact ⟨rfl, vd, HA.out⟩
end Go.Proofs.Ythjflgnoeenenaa
