/- Two copies of an area in two new boxes, in whatever order they are drawn. -/
import Derived.Test.YtafoimlmiakmcaaLgInside
import Derived.Test.YtafoimlmiakmcaaLgLists
import Derived.Test.YtafoimlmiakmcaaPhaseT
namespace Go.Proofs.Ytafoimlmiakmcaa
open Go.RowKit
set_option linter.unusedSimpArgs false

/-- two copies of a struct in two new boxes, in whatever order -/
structure Two (W : World) (p q : Nat) (ac : Array Value) (w' : World) : Prop where
  below : Below W.heap.size W w'
  kp : Blk w' p 33 ac
  kq : Blk w' q 33 ac
  ne : p ≠ q
  lp : W.heap.size ≤ p
  lq : W.heap.size ≤ q
theorem load_area {ops : Array Oper} {rest : List Oper} {o : Oper} {a : Act} {w : World} {Q : Exit → Act → World → Prop} (hgd : o.guard = none) (x : Operand) (ho : o.op = .load 33 x) (g : Nat) (hx : a.eval x = .pointer (some ⟨g, 0, none⟩)) (cs : Array Value) (hs : 3 = cs.size) (hb : Blk w g 33 cs)
    (h : wpList Try.prog ops Q rest (a.put o.dst (.agg cs)) w) : wpList Try.prog ops Q (o :: rest) a w := by
  obtain ⟨fs, hu⟩ : ∃ fs, Try.prog.underlying 33 = some (.struct fs) := by
    have h := under_area
    split at h
    · rename_i fs he
      exact ⟨fs, he⟩
    · cases h
  exact wpList_load_row hgd 33 x ho g hx 33 cs (0, 0) (.struct fs) hb hu rfl (by rw [← hs]; exact size_area) h
theorem store_area {ops : Array Oper} {rest : List Oper} {o : Oper} {a : Act} {w : World} {Q : Exit → Act → World → Prop} (hgd : o.guard = none) (x y : Operand) (ho : o.op = .store 33 x y) (g : Nat) (cs : Array Value) (hx : a.eval x = .pointer (some ⟨g, 0, none⟩)) (hy : a.eval y = .agg cs) (old : Array Value) (hb : Blk w g 33 old) (hs : 3 = cs.size) (ho2 : old.size = cs.size) (h1 : cs.toList.all (·.oneCell') = true)
    (h : wpList Try.prog ops Q rest (a.put o.dst undef) (w.setRow g cs)) : wpList Try.prog ops Q (o :: rest) a w :=
  wpList_store_blk hgd 33 x y ho g cs hx hy 33 old hb (by rw [← hs]; exact size_area) ho2 h1 h
def zA : Array Value := #[.int .i64 0, .int .i64 0, .int .i64 0]
theorem alloc_area {ops : Array Oper} {rest : List Oper} {o : Oper} {a : Act} {w : World} {Q : Exit → Act → World → Prop} (hgd : o.guard = none) (ho : o.op = .alloc 33) (h : wpList Try.prog ops Q rest (a.put o.dst (.pointer (some ⟨w.heap.size, 0, none⟩))) (w.alloc (.cells zA 33))) : wpList Try.prog ops Q (o :: rest) a w :=
  wpList_alloc_blk hgd 33 ho _ info_area h
theorem put_swap (a : Act) (t t' : Tmp) (x y : Value) (h : t ≠ t') : (a.put (some t) x).put (some t') y = (a.put (some t') y).put (some t) x := by
  unfold Act.put
  simp only [Act.mk.injEq, and_true]
  exact Array.setIfInBounds_comm x y h
theorem put_none (a : Act) (x : Value) : a.put none x = a := rfl
theorem sw1 (a : Act) (x y : Value) : (a.put (some 96) x).put (some 95) y = (a.put (some 95) y).put (some 96) x := put_swap a _ _ x y (by decide)
theorem sw2 (a : Act) (x y : Value) : (a.put (some 17) x).put (some 95) y = (a.put (some 95) y).put (some 17) x := put_swap a _ _ x y (by decide)
theorem sw3 (a : Act) (x y : Value) : (a.put (some 17) x).put (some 96) y = (a.put (some 96) y).put (some 17) x := put_swap a _ _ x y (by decide)
theorem sw4 (a : Act) (x y : Value) : (a.put (some 18) x).put (some 95) y = (a.put (some 95) y).put (some 18) x := put_swap a _ _ x y (by decide)
theorem sw5 (a : Act) (x y : Value) : (a.put (some 18) x).put (some 96) y = (a.put (some 96) y).put (some 18) x := put_swap a _ _ x y (by decide)
theorem sw6 (a : Act) (x y : Value) : (a.put (some 18) x).put (some 17) y = (a.put (some 17) y).put (some 18) x := put_swap a _ _ x y (by decide)
/-- all that the thirty orders meet -/
structure Meet (W : World) (G : Nat) (ac : Array Value) : Prop where
  k0 : Blk W G 33 ac
  k1 : Blk (W.alloc (.cells zA 33)) G 33 ac
  k2 : Blk ((W.alloc (.cells zA 33)).alloc (.cells zA 33)) G 33 ac
  za : Blk ((W.alloc (.cells zA 33)).alloc (.cells zA 33)) W.heap.size 33 zA
  zb : Blk ((W.alloc (.cells zA 33)).alloc (.cells zA 33)) (W.alloc (.cells zA 33)).heap.size 33 zA
  k3 : Blk (((W.alloc (.cells zA 33)).alloc (.cells zA 33)).setRow W.heap.size ac) G 33 ac
  k4 : Blk (((W.alloc (.cells zA 33)).alloc (.cells zA 33)).setRow (W.alloc (.cells zA 33)).heap.size ac) G 33 ac
  zc : Blk (((W.alloc (.cells zA 33)).alloc (.cells zA 33)).setRow W.heap.size ac) (W.alloc (.cells zA 33)).heap.size 33 zA
  zd : Blk (((W.alloc (.cells zA 33)).alloc (.cells zA 33)).setRow (W.alloc (.cells zA 33)).heap.size ac) W.heap.size 33 zA
  t1 : Two W W.heap.size (W.alloc (.cells zA 33)).heap.size ac ((((W.alloc (.cells zA 33)).alloc (.cells zA 33)).setRow W.heap.size ac).setRow (W.alloc (.cells zA 33)).heap.size ac)
  t2 : Two W (W.alloc (.cells zA 33)).heap.size W.heap.size ac ((((W.alloc (.cells zA 33)).alloc (.cells zA 33)).setRow (W.alloc (.cells zA 33)).heap.size ac).setRow W.heap.size ac)
theorem row_other {w : World} {g g' : Nat} {t : TypeId} {cs ac : Array Value} (h : Blk w g t cs) (hne : g' ≠ g) : Blk (w.setRow g' ac) g t cs := (grown_setRow w g' ac).block g h.lt (fun e => hne (by injection e with e; exact e.symm)) |>.trans h
theorem meet_of {W : World} {G : Nat} {ac : Array Value} (h : Blk W G 33 ac) : Meet W G ac := by
  have s1 := size_new W (.cells zA 33)
  have b1 := below_new W (.cells zA 33)
  have n1 := Blk.new W 33 zA
  have hlt := h.lt
  have k1 := h.keep b1
  have b2 := below_new (W.alloc (.cells zA 33)) (.cells zA 33)
  have s2 := size_new (W.alloc (.cells zA 33)) (.cells zA 33)
  have n2 := Blk.new (W.alloc (.cells zA 33)) 33 zA
  have k2 := k1.keep b2
  have za := n1.keep b2
  have hB := b1.trans (b2.mono b1.size)
  have w1 : W.heap.size ≠ G := by omega
  have w2 : (W.alloc (.cells zA 33)).heap.size ≠ G := by omega
  have w3 : W.heap.size ≠ (W.alloc (.cells zA 33)).heap.size := by omega
  have l1 : W.heap.size ≤ (W.alloc (.cells zA 33)).heap.size := by omega
  have zc := row_other (ac := ac) n2 w3
  have zd := row_other (ac := ac) za (Ne.symm w3)
  have c1 := hB.trans (below_of_grown (grown_setRow _ W.heap.size ac) hB.size (fun g e => by cases e; exact Nat.le_refl _))
  have c2 := hB.trans (below_of_grown (grown_setRow _ (W.alloc (.cells zA 33)).heap.size ac) hB.size (fun g e => by cases e; exact l1))
  exact ⟨h, k1, k2, za, n2, row_other k2 w1, row_other k2 w2, zc, zd,
    ⟨c1.trans (below_of_grown (grown_setRow _ (W.alloc (.cells zA 33)).heap.size ac) c1.size (fun g e => by cases e; exact l1)), row_other (za.setRow ac) (Ne.symm w3), zc.setRow ac, w3, Nat.le_refl _, l1⟩,
    ⟨c2.trans (below_of_grown (grown_setRow _ W.heap.size ac) c2.size (fun g e => by cases e; exact Nat.le_refl _)), row_other (n2.setRow ac) w3, zd.setRow ac, Ne.symm w3, l1, Nat.le_refl _⟩⟩
theorem eval_same (a : Act) (t : Tmp) (v : Value) (h : t < a.tmps.size) : (a.put (some t) v).eval (.tmp t) = v := by
  simp [Act.put, Act.eval, h]
theorem eval_other (a : Act) (t t' : Tmp) (v : Value) (h : t ≠ t') : (a.put (some t) v).eval (.tmp t') = a.eval (.tmp t') := by
  simp [Act.put, Act.eval, h]
theorem size_put (a : Act) (d : Option Tmp) (v : Value) : (a.put d v).tmps.size = a.tmps.size := by
  cases d <;> simp [Act.put]
def thirty : List (List Nat) := [[0, 1, 2, 3, 4, 5], [0, 1, 3, 2, 4, 5], [0, 2, 1, 3, 4, 5], [0, 2, 3, 1, 4, 5], [0, 2, 3, 4, 1, 5], [0, 3, 1, 2, 4, 5], [0, 3, 2, 1, 4, 5], [0, 3, 2, 4, 1, 5], [1, 0, 2, 3, 4, 5], [1, 0, 3, 2, 4, 5], [1, 2, 0, 3, 4, 5], [1, 2, 3, 0, 4, 5], [1, 3, 0, 2, 4, 5], [1, 3, 2, 0, 4, 5], [2, 0, 1, 3, 4, 5], [2, 0, 3, 1, 4, 5], [2, 0, 3, 4, 1, 5], [2, 1, 0, 3, 4, 5], [2, 1, 3, 0, 4, 5], [2, 3, 0, 1, 4, 5], [2, 3, 0, 4, 1, 5], [2, 3, 1, 0, 4, 5], [3, 0, 1, 2, 4, 5], [3, 0, 2, 1, 4, 5], [3, 0, 2, 4, 1, 5], [3, 1, 0, 2, 4, 5], [3, 1, 2, 0, 4, 5], [3, 2, 0, 1, 4, 5], [3, 2, 0, 4, 1, 5], [3, 2, 1, 0, 4, 5]]
def thirtyA : List (List Nat) := [[0, 1, 2, 3, 4, 5], [0, 2, 1, 3, 4, 5], [0, 2, 3, 1, 4, 5], [0, 2, 3, 4, 1, 5], [1, 0, 2, 3, 4, 5], [1, 2, 0, 3, 4, 5], [1, 2, 3, 0, 4, 5], [2, 0, 1, 3, 4, 5], [2, 0, 3, 1, 4, 5], [2, 0, 3, 4, 1, 5], [2, 1, 0, 3, 4, 5], [2, 1, 3, 0, 4, 5], [2, 3, 0, 1, 4, 5], [2, 3, 0, 4, 1, 5], [2, 3, 1, 0, 4, 5]]
def thirtyB : List (List Nat) := [[0, 1, 3, 2, 4, 5], [0, 3, 1, 2, 4, 5], [0, 3, 2, 1, 4, 5], [0, 3, 2, 4, 1, 5], [1, 0, 3, 2, 4, 5], [1, 3, 0, 2, 4, 5], [1, 3, 2, 0, 4, 5], [3, 0, 1, 2, 4, 5], [3, 0, 2, 1, 4, 5], [3, 0, 2, 4, 1, 5], [3, 1, 0, 2, 4, 5], [3, 1, 2, 0, 4, 5], [3, 2, 0, 1, 4, 5], [3, 2, 0, 4, 1, 5], [3, 2, 1, 0, 4, 5]]
theorem thirty_two : ∀ o ∈ thirty, o ∈ thirtyA ∨ o ∈ thirtyB := by decide
set_option maxHeartbeats 8000000 in
theorem region_copies {id : Nat} {Q : Exit → Act → World → Prop} {a : Act} {w : World} {o0 o1 o2 o3 o4 o5 : Oper} (ac : Array Value) (G : Nat) (hm : Try.prog.follows .mixedOrders = true)
    (hL : orders .any #[o0, o1, o2, o3, o4, o5] (#[o0, o1, o2, o3, o4, o5] : Array Oper).size (Array.replicate (#[o0, o1, o2, o3, o4, o5] : Array Oper).size false) = thirty)
    (g0 : o0.guard = none) (g1 : o1.guard = none) (g2 : o2.guard = none) (g3 : o3.guard = none) (g4 : o4.guard = none) (g5 : o5.guard = none)
    (p0 : o0.op = .load 33 (.tmp 11)) (p1 : o1.op = .load 33 (.tmp 11)) (p2 : o2.op = .alloc 33) (p3 : o3.op = .alloc 33) (p4 : o4.op = .store 33 (.tmp 17) (.tmp 95)) (p5 : o5.op = .store 33 (.tmp 18) (.tmp 96))
    (d0 : o0.dst = some 95) (d1 : o1.dst = some 96) (d2 : o2.dst = some 17) (d3 : o3.dst = some 18) (d4 : o4.dst = none) (d5 : o5.dst = none)
    (h11 : a.eval (.tmp 11) = .pointer (some ⟨G, 0, none⟩)) (hsz : 97 ≤ a.tmps.size) (hb : Blk w.drew G 33 ac) (h3 : 3 = ac.size) (h1 : ac.toList.all (·.oneCell') = true)
    (hfin : ∀ p q w', Two w.drew p q ac w' → Q .normal ((((a.put (some 95) (.agg ac)).put (some 96) (.agg ac)).put (some 17) (.pointer (some ⟨p, 0, none⟩))).put (some 18) (.pointer (some ⟨q, 0, none⟩))) w') :
    (Code.region id #[o0, o1, o2, o3, o4, o5] true).wp Try.prog Q a w := by
  have HM := meet_of hb
  have k17 : 17 < a.tmps.size := by omega
  have k18 : 18 < a.tmps.size := by omega
  have k95 : 95 < a.tmps.size := by omega
  have k96 : 96 < a.tmps.size := by omega
  refine wp_region_orders (l := [o0, o1, o2, o3, o4, o5]) hm thirty hL ?_
  intro o ho
  rcases thirty_two o ho with ho | ho
  · unfold thirtyA at ho
    simp only [List.mem_cons, List.not_mem_nil, or_false] at ho
    rcases ho with rfl | rfl | rfl | rfl | rfl | rfl | rfl | rfl | rfl | rfl | rfl | rfl | rfl | rfl | rfl
    all_goals
      simp only [List.filterMap_cons, List.filterMap_nil, List.getElem?_cons_succ, List.getElem?_cons_zero]
      repeat (first
      | (refine alloc_area (by assumption) (by assumption) ?_)
      | (refine load_area (by assumption) (.tmp 11) (by assumption) G (by simp [d0, d1, d2, d3, d4, d5, put_none, eval_other, eval_same, size_put, h11, k17, k18, k95, k96]) ac h3 (by first | with_reducible exact HM.k0 | with_reducible exact HM.k1 | with_reducible exact HM.k2 | with_reducible exact HM.k3 | with_reducible exact HM.k4) ?_)
      | (refine store_area (by assumption) (.tmp 17) (.tmp 95) (by assumption) (w.drew.heap.size) ac (by simp [d0, d1, d2, d3, d4, d5, put_none, eval_other, eval_same, size_put, h11, k17, k18, k95, k96]) (by simp [d0, d1, d2, d3, d4, d5, put_none, eval_other, eval_same, size_put, h11, k17, k18, k95, k96]) zA (by with_reducible exact HM.za) h3 (by rw [← h3]; rfl) h1 ?_)
      | (refine store_area (by assumption) (.tmp 18) (.tmp 96) (by assumption) ((w.drew.alloc (.cells zA 33)).heap.size) ac (by simp [d0, d1, d2, d3, d4, d5, put_none, eval_other, eval_same, size_put, h11, k17, k18, k95, k96]) (by simp [d0, d1, d2, d3, d4, d5, put_none, eval_other, eval_same, size_put, h11, k17, k18, k95, k96]) zA (by with_reducible exact HM.zc) h3 (by rw [← h3]; rfl) h1 ?_))
      simp only [d0, d1, d2, d3, d4, d5, put_none, sw1, sw2, sw3, sw4, sw5, sw6]
      exact hfin _ _ _ HM.t1
  · unfold thirtyB at ho
    simp only [List.mem_cons, List.not_mem_nil, or_false] at ho
    rcases ho with rfl | rfl | rfl | rfl | rfl | rfl | rfl | rfl | rfl | rfl | rfl | rfl | rfl | rfl | rfl
    all_goals
      simp only [List.filterMap_cons, List.filterMap_nil, List.getElem?_cons_succ, List.getElem?_cons_zero]
      repeat (first
      | (refine alloc_area (by assumption) (by assumption) ?_)
      | (refine load_area (by assumption) (.tmp 11) (by assumption) G (by simp [d0, d1, d2, d3, d4, d5, put_none, eval_other, eval_same, size_put, h11, k17, k18, k95, k96]) ac h3 (by first | with_reducible exact HM.k0 | with_reducible exact HM.k1 | with_reducible exact HM.k2 | with_reducible exact HM.k3 | with_reducible exact HM.k4) ?_)
      | (refine store_area (by assumption) (.tmp 17) (.tmp 95) (by assumption) ((w.drew.alloc (.cells zA 33)).heap.size) ac (by simp [d0, d1, d2, d3, d4, d5, put_none, eval_other, eval_same, size_put, h11, k17, k18, k95, k96]) (by simp [d0, d1, d2, d3, d4, d5, put_none, eval_other, eval_same, size_put, h11, k17, k18, k95, k96]) zA (by with_reducible exact HM.zb) h3 (by rw [← h3]; rfl) h1 ?_)
      | (refine store_area (by assumption) (.tmp 18) (.tmp 96) (by assumption) (w.drew.heap.size) ac (by simp [d0, d1, d2, d3, d4, d5, put_none, eval_other, eval_same, size_put, h11, k17, k18, k95, k96]) (by simp [d0, d1, d2, d3, d4, d5, put_none, eval_other, eval_same, size_put, h11, k17, k18, k95, k96]) zA (by with_reducible exact HM.zd) h3 (by rw [← h3]; rfl) h1 ?_))
      simp only [d0, d1, d2, d3, d4, d5, put_none, sw1, sw2, sw3, sw4, sw5, sw6]
      exact hfin _ _ _ HM.t2
end Go.Proofs.Ytafoimlmiakmcaa
/- The law LogBack, walked. -/
namespace Go.Proofs.Ytafoimlmiakmcaa
open Go.RowKit

/-- a row of the law's own, of slices that came in -/
structure WantB (w : World) (B1 B0 : Nat) (v : Value) (l : List (List UInt8)) (vs : List Value) : Prop where
  row : w.ownsRow B1 34 1 v l.length vs
  each : ∀ (k : Nat) x u, l[k]? = some x → vs[k]? = some u → ∃ A' c, u = .slice A' x.length c ∧ SB w B0 A' x.length x ∧ x.length ≤ c
section
variable {w w' : World} {B1 B0 : Nat} {v : Value} {l : List (List UInt8)} {vs : List Value} {L : List Nat}
theorem WantB.nil (w : World) (B1 B0 : Nat) : WantB w B1 B0 (.slice none 0 0) [] [] := ⟨World.ownsRow_nil _ _ _ _, fun k x u h => by simp at h⟩
theorem WantB.chg (h : WantB w B1 B0 v l vs) (hc : Chg L w w') (hL : ∀ b, v.ownBlock = some b → b ∉ L) (h0 : ∀ b ∈ L, B0 ≤ b) : WantB w' B1 B0 v l vs :=
  ⟨ownsRow_chg h.row hc hL, fun k x u hx hu => by
    obtain ⟨A', c, e, hs, hle⟩ := h.each k x u hx hu
    exact ⟨A', c, e, hs.chg hc (fun b off _ hlt hm => by have := h0 b hm; omega), hle⟩⟩
theorem WantB.keep (h : WantB w B1 B0 v l vs) (hb : Below w.heap.size w w') : WantB w' B1 B0 v l vs := h.chg (L := []) (Chg.of_below hb) (fun _ _ => by simp) (fun _ hm => by cases hm)
theorem WantB.push {v' : Value} {A : Option Addr} {c : Nat} {x : List UInt8} (h : WantB w B1 B0 v l vs) (hB : B0 ≤ B1) (hs : SB w B0 A x.length x) (hc : x.length ≤ c)
    (hr : w'.ownsRow B1 34 1 v' (l.length + 1) (vs ++ [.slice A x.length c])) (hg : w.grownBy w' v.ownBlock) : WantB w' B1 B0 v' (l ++ [x]) (vs ++ [.slice A x.length c]) := by
  have hlt : ∀ g, v.ownBlock = some g → B0 ≤ g := fun g e => Nat.le_trans hB (World.ownsRow.lt h.row g e).1
  have hlen : vs.length = l.length := by have := h.row.1; omega
  refine ⟨by simpa using hr, fun k y u hy hu => ?_⟩
  rw [List.getElem?_append] at hy hu
  by_cases hk : k < l.length
  · rw [if_pos hk] at hy
    rw [if_pos (by omega)] at hu
    obtain ⟨A', c', e, hs', hle⟩ := h.each k y u hy hu
    exact ⟨A', c', e, hs'.grown hg hlt, hle⟩
  · rw [if_neg hk] at hy
    rw [if_neg (by omega)] at hu
    have e1 : k - l.length = 0 := by
      have := (List.getElem?_eq_some_iff.1 hy).1
      simp at this; omega
    have e2 : k - vs.length = 0 := by omega
    rw [e1] at hy
    rw [e2] at hu
    cases hy; cases hu
    exact ⟨A, c, rfl, hs.grown hg hlt, hc⟩
theorem WantB.sl (h : WantB w B1 B0 v l vs) : ∃ A c, v = .slice A l.length c ∧ SL w A l := by
  have hlen : vs.length = l.length := by have := h.row.1; omega
  have hrow := h.row
  have key : ∀ (k : Nat) x u, l[k]? = some x → vs[k]? = some u → ∃ B A' c, u = .slice A' x.length c ∧ SB w B A' x.length x ∧ x.length ≤ c := fun k x u hx hu => by
    obtain ⟨A', c, e, hs, hle⟩ := h.each k x u hx hu
    exact ⟨_, A', c, e, hs, hle⟩
  rcases h.row.2 with ⟨rfl, h0⟩ | ⟨g, cap, cur, rfl, _, _, hle, _⟩
  · have : l = [] := List.eq_nil_of_length_eq_zero h0
    subst this
    exact ⟨none, 0, rfl, SL.nil _ _⟩
  · exact ⟨some ⟨g, 0, none⟩, cap, rfl, vs, hlen, fun _ => ⟨g, 0, rfl, fun j u hj => by
      have := World.ownsRow.cells hrow (g := g) rfl j u hj
      rwa [Addr.add_lit] at this⟩, key⟩
end
theorem InS.chg {w wr w' : World} {base B1 G g : Nat} {F L : List Nat} {s : DS} {A : Option Addr} {n : Nat} {bs : List UInt8} {ac : Array Value} (h : InS w wr base B1 G g F s A n bs ac) (hc : Chg L wr w') (hL : ∀ b ∈ L, b ∉ F ∧ b ≠ G ∧ w.heap.size ≤ b) : InS w w' base w'.heap.size G g F s A n bs ac :=
  ⟨h.below.trans (hc.below (fun b hb => (hL b hb).2.2) h.below.size), Nat.le_refl _, h.dev.chg hc (fun b hb hm => (hL b hm).1 hb), fun b hb => by have := h.lt b hb; have := h.size; have := hc.size; omega,
    h.area.chg hc (fun hm => (hL G hm).2.1 rfl), by have := h.glt; have := h.size; have := hc.size; omega, h.gf, h.text.chg hc (fun b off _ hlt hm => by have := (hL b hm).2.2; omega), h.lo, by have := h.bw; have := h.size; have := hc.size; omega⟩
theorem needE_nat {m : Nat} (h : m ≤ 1048576) : needE (m : Int) = needN m := by
  unfold needE
  rw [if_neg (by omega), Int.toNat_natCast]
theorem back_long (A : Option Addr) (c : Nat) (l : List (List UInt8)) (z1 z2 z3 : Int) (w : World) (hs : SLB w w.heap.size A l) (hm : l.length ≤ 9223372036854775807) (hl : longB l 12 200 = true) :
    Calls Try.prog 7 #[.slice A l.length c, .int .i64 z1, .int .i64 z2, .int .i64 z3] w fun e w' => e = .returned (.bool true) ∧ Below w.heap.size w w' := by
  have HS := hid hs; have HL := hid hl
  clear hs hl
  go_enter Try.func7, Try.ntmps7
  go_wp2_with fail
  refine (known_calls w).mono ?_
  rintro _ w1 ⟨rfl, h⟩
  have H := hid h
  clear h
  go_wp2_with fail
  refine (longLists_calls A c l 12 200 _ w1 (HS.out.keepB H.out) hm (by omega) (by omega)).mono ?_
  rintro _ _ ⟨rfl, rfl⟩
  rw [HL.out]
  go_wp2_with fail
  go_ret
  exact ⟨rfl, H.out⟩
attribute [local go_sem] steady
attribute [local irreducible] wpPhase
set_option maxHeartbeats 16000000 in
set_option maxRecDepth 20000 in
theorem back_short (A : Option Addr) (c : Nat) (l : List (List UInt8)) (z1 z2 z3 : Int) (w : World) (hs : SLB w w.heap.size A l) (hm : l.length ≤ 9223372036854775807) (hl : longB l 12 200 = false) :
    Calls Try.prog 7 #[.slice A l.length c, .int .i64 z1, .int .i64 z2, .int .i64 z3] w fun e w' => e = .returned (.bool true) ∧ Below w.heap.size w w' := by
  obtain ⟨hl12, hl200⟩ := longB_ok hl
  have HS := hid hs; have HL := hid hl; have HLX := hid hl200
  clear hs hl hl200
  go_enter Try.func7, Try.ntmps7
  go_wp2_with fail
  refine (known_calls w).mono ?_
  rintro _ w1 ⟨rfl, h⟩
  have HB := hid h
  clear h
  go_wp2_with fail
  refine (longLists_calls A c l 12 200 _ w1 (HS.out.keepB HB.out) hm (by omega) (by omega)).mono ?_
  rintro _ _ ⟨rfl, rfl⟩
  rw [HL.out]
  go_wp2_with fail
  refine (pick_calls z1 40 w1 (by omega) (by omega)).mono ?_
  rintro _ _ ⟨rfl, rfl⟩
  have p1 := Int.emod_nonneg z1 (show (40 : Int) ≠ 0 by omega)
  have p2 := Int.emod_lt_of_pos z1 (show (0 : Int) < 40 by omega)
  generalize z1 % 40 = P1 at p1 p2 ⊢
  obtain ⟨N, hN, hN1, hN2⟩ : ∃ N : Nat, IntKind.i64.wrap (1 + P1) = (N : Int) ∧ 1 ≤ N ∧ N ≤ 40 := ⟨(1 + P1).toNat, by rw [wrap_in _ (by omega)]; omega, by omega, by omega⟩
  clear p1 p2
  go_wp2_with fail
  refine (pick_calls z2 2147483647 w1 (by omega) (by omega)).mono ?_
  rintro _ _ ⟨rfl, rfl⟩
  have p1 := Int.emod_nonneg z2 (show (2147483647 : Int) ≠ 0 by omega)
  have p2 := Int.emod_lt_of_pos z2 (show (0 : Int) < 2147483647 by omega)
  generalize z2 % 2147483647 = P2 at p1 p2 ⊢
  obtain ⟨gen, hG, hG1, hG2⟩ : ∃ N : Nat, IntKind.i64.wrap (1 + P2) = (N : Int) ∧ 1 ≤ N ∧ N ≤ 2147483647 := ⟨(1 + P2).toNat, by rw [IntWalk.i64_in _ (by omega)]; omega, by omega, by omega⟩
  clear p1 p2
  go_wp2_with fail
  refine (pick_calls z3 2147483647 w1 (by omega) (by omega)).mono ?_
  rintro _ _ ⟨rfl, rfl⟩
  have p1 := Int.emod_nonneg z3 (show (2147483647 : Int) ≠ 0 by omega)
  have p2 := Int.emod_lt_of_pos z3 (show (0 : Int) < 2147483647 by omega)
  generalize z3 % 2147483647 = P3 at p1 p2 ⊢
  obtain ⟨oth, hO, hO1, hO2⟩ : ∃ N : Nat, IntKind.i64.wrap (1 + P3) = (N : Int) ∧ 1 ≤ N ∧ N ≤ 2147483647 := ⟨(1 + P3).toNat, by rw [IntWalk.i64_in _ (by omega)]; omega, by omega, by omega⟩
  clear p1 p2
  go_wp2_with fail
  clear hN hG hO
  refine (room_calls 2 N gen (by omega) hG1 hG2 w1).mono ?_
  rintro _ w2 ⟨g, s0, rfl, hd, hLL, hl0, hn0, -⟩
  obtain ⟨PB, hPB⟩ : ∃ PB : Int, ((2 + N : Nat) : Int) = PB := ⟨_, rfl⟩
  have HPB := hid hPB
  rw [show arv (areaN 2 N gen) = .agg #[.int .i64 2, .int .i64 PB, .int .i64 (gen : Int)] from by unfold arv areaN; rw [hPB]; rfl]
  have HAR := hid (show arv (areaN 2 N gen) = .agg #[.int .i64 2, .int .i64 PB, .int .i64 (gen : Int)] from by unfold arv areaN; rw [hPB]; rfl)
  have HL0 := hid hLL; have HD := hid hd; have Hl0 := hid hl0
  clear hd hLL hl0 hn0 hPB
  have kz := Blk.new w2 33 #[.int .i64 0, .int .i64 0, .int .i64 0]
  have HNS := hid (new_set w2 33 #[.int .i64 0, .int .i64 0, .int .i64 0] #[.int .i64 2, .int .i64 PB, .int .i64 (gen : Int)])
  go_wp2_with (first
    | (refine wpList_alloc_blk rfl 33 rfl _ info_area ?_)
    | (refine wpList_store_blk rfl 33 _ _ rfl w2.heap.size #[.int .i64 2, .int .i64 PB, .int .i64 (gen : Int)] rfl rfl 33 _ kz size_area rfl rfl ?_))
  obtain ⟨bA, kA⟩ := HNS.out
  have sA : ((w2.alloc (.cells #[.int .i64 0, .int .i64 0, .int .i64 0] 33)).setRow w2.heap.size #[.int .i64 2, .int .i64 PB, .int .i64 (gen : Int)]).heap.size = w2.heap.size + 1 := by simp
  clear kz HNS
  generalize (w2.alloc (.cells #[.int .i64 0, .int .i64 0, .int .i64 0] 33)).setRow w2.heap.size #[.int .i64 2, .int .i64 PB, .int .i64 (gen : Int)] = w3 at kA bA sA ⊢
  obtain ⟨F0, hI⟩ : ∃ F0, InS w w3 w1.heap.size w3.heap.size w2.heap.size g F0 s0 none 0 [] #[.int .i64 2, .int .i64 PB, .int .i64 (gen : Int)] := by
    obtain ⟨hb2, F0, hd⟩ := HD.out
    have hb3 := hb2.trans (bA.mono hb2.size)
    exact ⟨F0, ⟨HB.out.trans (hb3.mono HB.out.size), Nat.le_refl _, hd.keep bA, fun b hb => by have := (hd.lt b hb).2; omega, kA, by omega, fun hm => by have := (hd.lt _ hm).2; omega, SB.nil _ _ _, HB.out.size, by have := hb2.size; omega⟩⟩
  have HI := hid hI
  have HGW := hid (show w2.heap.size < w3.heap.size from by omega)
  have HW3 := hid (show w.heap.size ≤ w3.heap.size from hI.below.size)
  clear kA bA sA HD HB hI
  generalize hG : w2.heap.size = G at HI HGW ⊢
  go_loopw [12, 13, 14, 15, 16] (fun v12 v13 v14 _ _ wr => ∃ (i at_ : Nat) (recs : List (List UInt8)) (vs : List Value) (s : DS) (F : List Nat), v12 = .int .i64 (at_ : Int) ∧ v14 = .int .i64 (i : Int) ∧ i ≤ l.length ∧ recs.length ≤ i ∧ at_ ≤ N ∧
      Hid (InS w wr w1.heap.size wr.heap.size G g F s none 0 [] #[.int .i64 2, .int .i64 PB, .int .i64 (gen : Int)]) ∧ Hid (LogS 2 N gen at_ recs s) ∧ Hid (s.loose.length = at_) ∧ Hid (WantB wr w3.heap.size w.heap.size v13 recs vs) ∧ Hid (∀ b, v13.ownBlock = some b → b ∉ F) ∧ Hid (w3.heap.size ≤ wr.heap.size)) (fun _ _ v14 _ _ _ => l.length - (intOf v14).toNat)
  case atStart => exact ⟨0, 0, [], [], s0, F0, rfl, rfl, Nat.zero_le _, Nat.zero_le _, Nat.zero_le _, HI, HL0, hid (by rw [Hl0.out]; rfl), hid (WantB.nil _ _ _), hid (fun b e => by cases e), hid (Nat.le_refl _)⟩
  case round =>
    clear HI HL0 Hl0
    obtain ⟨i, at_, recs, vs, s, F, rfl, rfl, hi, hri, hat, HJ, HLS, HLO, HWA, HWF, HSZ⟩ := hrel
    by_cases hlt : i < l.length
    · have hlt' : (i : Int) < (l.length : Int) := by omega
      obtain ⟨b, off, A', c', x, rfl, hbl, hx, hcx, hsx, hxc, -⟩ := (HS.out.keepB HJ.out.below).at_ hlt
      have hx200 := HLX.out x (List.mem_of_getElem? hx)
      have HCX := hid hcx; have HSX := hid hsx
      clear hx hcx hsx
      obtain ⟨s', X, E, hR⟩ : ∃ s' X E, logWR s (areaN 2 N gen) (at_ : Int) x = (s', X, E) := ⟨_, _, _, rfl⟩
      have HR := hid hR
      have hlo := HLO.out
      have HWR := hid (lgWrite_calls w1.heap.size g F s wr.drew (areaN 2 N gen) (at_ : Int) A' x.length c' w.heap.size x HJ.out.drew.dev (Nat.le_trans HJ.out.bw HJ.out.size) (HLS.out.plain.ok (by omega)) (by omega) HSX.out.drew hxc (fun hp b off e hm => by
        have h1 := (HJ.out.dev.lt b hm).1
        have h2 := HJ.out.lo
        obtain ⟨b', off', e', hlt, -⟩ := HSX.out.2 hp
        rw [e] at e'; cases e'
        omega))
      rw [hR, HAR.out] at HWR
      dsimp only at HWR
      clear hR
      have hpost : ∀ w', DevAt wr.drew w1.heap.size F g s' w' → ∃ F', InS w w' w1.heap.size w'.heap.size G g F' s' none 0 [] #[.int .i64 2, .int .i64 PB, .int .i64 (gen : Int)] ∧ Chg F wr.drew w' ∧ ∀ b ∈ F', b ∈ F ∨ wr.drew.heap.size ≤ b := fun w' hp => HJ.out.drew.at_ hp
      have HPO := hid hpost
      have HLT := hid (lt_of_cell HCX.out)
      have hcells : ((wr.drew.cell? ⟨G, 0, none⟩ = some (.int .i64 2) ∧ wr.drew.cell? ⟨G, 1, none⟩ = some (.int .i64 PB) ∧ wr.drew.cell? ⟨G, 2, none⟩ = some (.int .i64 (gen : Int))) ∧ wr.drew.cell? ⟨b, off + i, none⟩ = some (.slice A' x.length c')) :=
        ⟨⟨HJ.out.area.cell 0 rfl, HJ.out.area.cell 1 rfl, HJ.out.area.cell 2 rfl⟩, HCX.out⟩
      have HCH := hid (fun w' (h : Chg F wr.drew w') => cell_chg hcells.2 h (fun hm => by
        have h1 := (HJ.out.dev.lt b hm).1
        have h2 := HJ.out.lo
        omega))
      clear hpost
      generalize hxm : x.length = m at hcells hxc HWR HCH
      go_wp2_with fail
      refine wp_region_phase (fun k w' => (k = 0 ∧ w' = wr.drew) ∨ (k = 1 ∧ DevAt wr.drew w1.heap.size F g s' w')) (fun w' => (w'.cell? ⟨G, 0, none⟩ = some (.int .i64 2) ∧ w'.cell? ⟨G, 1, none⟩ = some (.int .i64 PB) ∧ w'.cell? ⟨G, 2, none⟩ = some (.int .i64 (gen : Int))) ∧ w'.cell? ⟨b, off + i, none⟩ = some (.slice A' m c')) (fun k w' h => by
        rcases h with ⟨-, rfl⟩ | ⟨-, hp⟩
        · exact hcells
        · obtain ⟨F', h1, h2, -⟩ := HPO.out w' hp
          exact ⟨⟨h1.area.cell 0 rfl, h1.area.cell 1 rfl, h1.area.cell 2 rfl⟩, HCH.out w' h2⟩) (by kernel_rfl) (by kernel_rfl) (by kernel_rfl) (.inl ⟨rfl, rfl⟩) ?_
      intro S _ st hS
      have e0 := fun z => (hS z).1.1
      have e1 := fun z => (hS z).1.2.1
      have e2 := fun z => (hS z).1.2.2
      have e3 := fun z => (hS z).2
      clear hS hcells
      (refine phase_plain rfl (fun K hK => ?_); go_simp; refine hK _ ?_; clear hK K)
      (refine phase_plain rfl (fun K hK => ?_); go_simp; refine hK _ ?_; clear hK K)
      (refine phase_plain rfl (fun K hK => ?_); go_simp; refine hK _ ?_; clear hK K)
      (refine phase_plain rfl (fun K hK => ?_); go_simp; refine hK _ ?_; clear hK K)
      (refine phase_plain rfl (fun K hK => ?_); go_simp; refine hK _ ?_; clear hK K)
      (refine phase_plain rfl (fun K hK => ?_); go_simp; refine hK _ ?_; clear hK K)
      (refine phase_plain rfl (fun K hK => ?_); go_simp; refine hK _ ?_; clear hK K)
      refine phase_call rfl rfl 17 #[.pointer (some ⟨g, 0, none⟩), .agg #[.int .i64 2, .int .i64 PB, .int .i64 (gen : Int)], .int .i64 (at_ : Int), .slice A' m c'] (fun w => by go_simp) (.tuple #[.int .i64 X, .int .i64 (E : Int)]) (fun w' hw => ?_) ?_
      · rcases hw with ⟨-, rfl⟩ | ⟨h, -⟩
        · exact HWR.out.mono fun e w'' ⟨he, hp⟩ => ⟨he, .inr ⟨rfl, hp⟩⟩
        · cases h
      (refine phase_plain rfl (fun K hK => ?_); go_simp; refine hK _ ?_; clear hK K)
      (refine phase_plain rfl (fun K hK => ?_); go_simp; refine hK _ ?_; clear hK K)
      (refine phase_plain rfl (fun K hK => ?_); go_simp; refine hK _ ?_; clear hK K)
      (refine phase_plain rfl (fun K hK => ?_); go_simp; refine hK _ ?_; clear hK K)
      (refine phase_plain rfl (fun K hK => ?_); go_simp; refine hK _ ?_; clear hK K)
      refine phase_nil ?_
      rintro w4 (⟨h, -⟩ | ⟨-, hp⟩)
      · cases h
      clear e0 e1 e2 e3 HWR HCH
      obtain ⟨F', hK, hcg, hF'⟩ := HPO.out w4 hp
      have c4 : w4.cell? ⟨b, off + i, none⟩ = some (.slice A' m c') := by
        rw [← hxm]
        exact cell_chg HCX.out hcg.from_drew (fun hm => by
          have h1 := (HJ.out.dev.lt b hm).1
          have h2 := HJ.out.lo
          omega)
      have HWA4 := hid (HWA.out.chg hcg.from_drew HWF.out (fun b hb => Nat.le_trans HJ.out.lo (HJ.out.dev.lt b hb).1))
      have HWF4 := hid (show ∀ b, u13.ownBlock = some b → b ∉ F' from fun b e hm => by
        rcases hF' b hm with h | h
        · exact HWF.out b e h
        · have := (World.ownsRow.lt HWA.out.row b e).2
          have h2 : wr.heap.size ≤ b := h
          omega)
      have HK := hid hK; have HSX4 := hid (HSX.out.chg hcg.from_drew (fun b off _ hlt hm => by
        have h1 := (HJ.out.dev.lt b hm).1
        have h2 := HJ.out.lo
        omega))
      have HSZ4 := hid (Nat.le_trans HSZ.out (show wr.heap.size ≤ w4.heap.size from hcg.size))
      clear hp hK hcg hF' HPO HWA HWF HCX HJ HSX HSZ
      have HND := hid (fun W => need_calls (m : Int) W)
      rw [needE_nat (by omega)] at HND
      have HM := hid hxm
      by_cases hfit : at_ + needN m ≤ N
      · obtain ⟨s'', e1, e2, e3⟩ := HLS.out.write (rec := x) (by omega) (by rw [hxm]; exact hfit)
        rw [HR.out] at e1
        injection e1 with q1 q2
        injection q2 with q2 q3
        subst q1 q2 q3
        have hl' : s'.loose.length = at_ + needN m := by rw [e3.loose, List.length_append, hlo]; simp [recSecs, hxm]
        rw [hxm] at e2 ⊢
        have HE2 := hid e2; have HL2 := hid hl'
        clear e2 e3 hl' HR hlo HLO HLS hxm
        have hsum : IntKind.i64.wrap ((at_ : Int) + (needN m : Int)) = ((at_ + needN m : Nat) : Int) := by rw [wrap_in _ (by omega)]; omega
        generalize needN m = nd at hfit HND HE2 HL2 hsum ⊢
        generalize at_ + nd = T at hfit HE2 HL2 hsum ⊢
        have hT : ¬ (N : Int) < (T : Int) := by omega
        go_wp2_with fail
        refine (HND.out _).mono ?_
        rintro _ _ ⟨rfl, rfl⟩
        go_wp2_with fail
        refine (HND.out _).mono ?_
        rintro _ _ ⟨rfl, rfl⟩
        clear HND
        go_wp2_with (at_builtin; refine Held.go ?_)
        have hbn := below_new w4 (.cells #[Value.slice A' m c'] 34)
        have hone := cell_one_new w4 (Value.slice A' m c') 34
        generalize w4.alloc (.cells #[Value.slice A' m c'] 34) = w5 at hbn hone ⊢
        have HWA5 := hid (HWA4.out.keep hbn); have HK5 := hid (HK.out.keep hbn); have HSX5 := hid (HSX4.out.keep hbn)
        obtain ⟨i0, hi0, hz0, hz1, hz2⟩ := info_parts info_row
        refine wpList_append_own_at w5 rfl _ _ 50 rfl w3.heap.size 34 i0 _ 1 24 Try.underlying50 hi0 hz0 hz1 hz2 rfl (by omega) u13 recs.length vs rfl HWA5.out.row ⟨w4.heap.size, 0, none⟩ 1 1 [Value.slice A' m c'] rfl rfl hone (by simp [Value.oneCell']) (by simp [maxLen]; omega) (by omega) (Nat.le_trans HSZ4.out hbn.size) ?_
        intro v8 w8 h8 hg8 _ hm8
        have HK8 := hid (HK5.out.chg (Chg.of_grown hg8 (L := u13.ownBlock.toList) (fun g e => by simp [e])) (fun b hb => by
          have e : u13.ownBlock = some b := by simpa using hb
          have h1 := (World.ownsRow.lt HWA4.out.row b e).1
          have h2 := HGW.out; have h3 := HW3.out
          exact ⟨HWF4.out b e, by omega, by omega⟩))
        have HSZ8 := hid (Nat.le_trans (Nat.le_trans HSZ4.out hbn.size) hg8.size)
        have HWF8 := hid (show ∀ b, v8.ownBlock = some b → b ∉ F' from fun b e hm => by
          rcases hm8 with h | h
          · exact HWF4.out b (h ▸ e) hm
          · rw [h] at e
            cases e
            have h1 := HK.out.lt _ hm
            have h2 := hbn.size
            omega)
        rw [← HM.out] at h8
        have HWA8 := hid (HWA5.out.push HW3.out HSX5.out (by rw [HM.out]; exact hxc) h8 hg8)
        clear h8 hg8 hm8 hone hbn hi0 hz0 hz1 hz2 HWA4 HWA5 HK HK5 HSX4 HSX5 HWF4 c4 HSZ4
        go_wp2_with fail
        go_roundw
        case rel => exact ⟨i + 1, T, recs ++ [x], _, s', F', rfl, by go_num, by omega, by simp; omega, by omega, HK8, HE2, HL2, HWA8, HWF8, HSZ8⟩
        case measure => simp [intOf]; omega
      · rw [HLS.out.full (rec := x) (by omega) (by rw [hxm]; exact hfit)] at HR
        have e1 := HR.out
        injection e1 with q1 q2
        injection q2 with q2 q3
        subst q1 q2 q3
        have hsum : IntKind.i64.wrap ((at_ : Int) + (needN m : Int)) = ((at_ + needN m : Nat) : Int) := by rw [wrap_in _ (by unfold needN; omega)]; omega
        clear HR hlo hxm
        generalize needN m = nd at hfit HND hsum ⊢
        generalize at_ + nd = T at hfit hsum ⊢
        have hT : (N : Int) < (T : Int) := by omega
        go_wp2_with fail
        refine (HND.out _).mono ?_
        rintro _ _ ⟨rfl, rfl⟩
        clear HND
        go_wp2_with fail
        clear c4
        go_roundw
        case rel => exact ⟨i + 1, at_, recs, vs, s, F', rfl, by go_num, by omega, by omega, hat, HK, HLS, HLO, HWA4, HWF4, HSZ4⟩
        case measure => simp [intOf]; omega
    · obtain rfl : i = l.length := by omega
      go_wp2_with fail
      refine region_copies #[.int .i64 2, .int .i64 PB, .int .i64 (gen : Int)] G (by kernel_rfl) (by kernel_rfl) rfl rfl rfl rfl rfl rfl rfl rfl rfl rfl rfl rfl rfl rfl rfl rfl rfl rfl rfl (show 97 ≤ 139 by omega) HJ.out.drew.area rfl rfl ?_
      intro p q w4 ht
      simp only [Act.put, List.setIfInBounds_toArray, List.set_cons_zero, List.set_cons_succ]
      obtain ⟨A3, c3, hu13, hsl⟩ := HWA.out.sl
      have HWB := hid (show ∀ b, u13.ownBlock = some b → b < wr.heap.size from fun b e => (World.ownsRow.lt HWA.out.row b e).2)
      have hI4 := HJ.out.drew.keep ht.below
      have hlp : wr.heap.size ≤ p := ht.lp
      have hlq : wr.heap.size ≤ q := ht.lq
      have hgl := HJ.out.glt
      have hfl := HJ.out.lt
      have hbw := HJ.out.below.size
      have hW4 := HWA.out.chg ((Chg.of_below (L := []) ht.below).from_drew) (fun _ _ => by simp) (fun _ hm => by cases hm)
      have cg1 : Chg [p, q] w4 (w4.setCell ⟨p, 2, none⟩ (.int .i64 (oth : Int))) := chg_set (L := [p, q]) (by simp) 2 _
      have cg2 : Chg [p, q] (w4.setCell ⟨p, 2, none⟩ (.int .i64 (oth : Int))) ((w4.setCell ⟨p, 2, none⟩ (.int .i64 (oth : Int))).setCell ⟨q, 0, none⟩ (.int .i64 3)) := chg_set (L := [p, q]) (by simp) 0 _
      have hne : ∀ b ∈ [p, q], b ∉ F ∧ b ≠ G ∧ w.heap.size ≤ b := fun b hb => by
        rcases List.mem_cons.1 hb with rfl | hb
        · exact ⟨fun hm => by have := hfl _ hm; omega, by omega, by omega⟩
        · obtain rfl : b = q := by simpa using hb
          exact ⟨fun hm => by have := hfl _ hm; omega, by omega, by omega⟩
      have hI5 := hI4.chg cg1 hne
      have hI6 := hI5.chg cg2 hne
      have kp5 := ht.kp.set_ 2 (.int .i64 (oth : Int))
      have kq5 := ht.kq.chg (chg_set (L := [p]) (by simp) 2 (.int .i64 (oth : Int)) : Chg [p] w4 (w4.setCell ⟨p, 2, none⟩ (.int .i64 (oth : Int)))) (by have := ht.ne; simp; omega)
      have kq6 := kq5.set_ 0 (.int .i64 3)
      have kp6 := kp5.chg (chg_set (L := [q]) (by simp) 0 (.int .i64 3) : Chg [q] _ ((w4.setCell ⟨p, 2, none⟩ (.int .i64 (oth : Int))).setCell ⟨q, 0, none⟩ (.int .i64 3))) (by have := ht.ne; simp; omega)
      have hW6 := (hW4.chg (L := [p, q]) (cg1.trans cg2 (fun b h => .inl h)) (fun b e hm => by
        have h1 := HWB.out b e
        rcases List.mem_cons.1 hm with rfl | hm
        · omega
        · obtain rfl : b = q := by simpa using hm
          omega) (fun b hb => (hne b hb).2.2))
      have a0 := ht.kp.cell 2 rfl
      have a1 := ht.kp.frozen 2
      have b0 := kq5.cell 0 rfl
      have b1 := kq5.frozen 0
      have x0 := hI5.area.cell 0 rfl
      have y0 := hI6.area.cell 0 rfl
      have y1 := hI6.area.cell 1 rfl
      have y2 := hI6.area.cell 2 rfl
      have HI6 := hid hI6; have HP6 := hid kp6; have HQ6 := hid kq6; have HW6 := hid hW6
      clear hI4 hI5 hI6 kp5 kq5 kp6 kq6 hW4 hW6 cg1 cg2 hne ht hsl hgl hfl hbw HJ HSZ
      subst hu13
      go_wp2_with fail
      clear a0 a1 b0 b1 x0
      obtain ⟨A4, c4, e4, hsl6⟩ := HW6.out.sl
      injection e4 with e5 e6 e7
      subst e5 e7
      have HH := hid (lgHas_calls (areaN 2 N gen) (at_ : Int) A3 c3 recs HI6.out.dev1 hsl6)
      rw [HAR.out, HLS.out.has] at HH
      clear hsl6 e6
      generalize (w4.setCell ⟨p, 2, none⟩ (.int .i64 (oth : Int))).setCell ⟨q, 0, none⟩ (.int .i64 3) = W6 at HI6 HP6 HQ6 HW6 HH y0 y1 y2 ⊢
      refine HH.out.mono ?_
      rintro _ w7 ⟨rfl, hb7⟩
      have HI7 := hid (HI6.out.keep hb7); have HP7 := hid (HP6.out.keep hb7); have HQ7 := hid (HQ6.out.keep hb7); have HW7 := hid (HW6.out.keep hb7)
      clear HH hb7 HI6 HP6 HQ6 HW6 y0 y1 y2
      have y0 := HQ7.out.cell 0 rfl
      have y1 := HQ7.out.cell 1 rfl
      have y2 := HQ7.out.cell 2 rfl
      have hnx : ∀ W, InS w W w1.heap.size W6.heap.size G g F s none 0 [] #[.int .i64 2, .int .i64 PB, .int .i64 (gen : Int)] → Calls Try.prog 43 #[.pointer (some ⟨g, 0, none⟩), .agg #[.int .i64 3, .int .i64 PB, .int .i64 (gen : Int)], .int .i64 0, .slice none 0 0] W fun e w' => e = .returned (.bool true) ∧ Below W.heap.size W w' := fun W hI => by
        have h1 := HLS.out.next (by omega) (by omega)
        rw [HPB.out] at h1
        have h2 := lgHas_calls (⟨((2 : Nat) : Int) + 1, PB, (gen : Int)⟩ : AR) 0 none 0 [] hI.dev1 (SL.nil _ _)
        rw [h1] at h2
        exact h2
      have hot : ¬ oth = gen → ∀ W, InS w W w1.heap.size W6.heap.size G g F s none 0 [] #[.int .i64 2, .int .i64 PB, .int .i64 (gen : Int)] → Calls Try.prog 43 #[.pointer (some ⟨g, 0, none⟩), .agg #[.int .i64 2, .int .i64 PB, .int .i64 (oth : Int)], .int .i64 0, .slice none 0 0] W fun e w' => e = .returned (.bool true) ∧ Below W.heap.size W w' := fun hh W hI => by
        have h1 := HLS.out.other hh hO1 hO2
        have h2 := lgHas_calls (areaN 2 N oth) 0 none 0 [] hI.dev1 (SL.nil _ _)
        rw [h1] at h2
        unfold areaN at h2
        rw [HPB.out] at h2
        exact h2
      have HNXT := hid hnx; have HOT := hid hot
      clear hnx hot
      by_cases hog : oth = gen
      · have hog' : (oth : Int) = (gen : Int) := by omega
        have HNX := hid (HNXT.out w7 HI7.out)
        have HWX := HW7
        clear HNXT HOT
        go_wp2_with fail
        refine HNX.out.mono ?_
        rintro _ w9 ⟨rfl, hb9⟩
        have HI9 := hid (HI7.out.keep hb9); have HW9 := hid (HWX.out.keep hb9)
        clear hb9 y0 y1 y2
        obtain ⟨f1, f2, f3⟩ := HLS.out.flush
        have HFL := hid (dFlush_calls w1.heap.size g F s w9 HI9.out.dev (HLS.out.plain.ok (by have := HLO.out; omega)).1 (by have := HLO.out; omega))
        rw [f1] at HFL
        have HF3 := hid f3
        clear f1 f2 f3
        go_wp2_with fail
        refine HFL.out.mono ?_
        rintro _ w10 hp
        obtain ⟨he, hq⟩ := DevAt.of_post hp
        subst he
        obtain ⟨F2, hI10, hcg, -⟩ := HI9.out.at_ hq
        have HW10 := hid (HW9.out.chg hcg HWF.out (fun b hb => Nat.le_trans HI9.out.lo (HI9.out.dev.lt b hb).1))
        have HI10 := hid hI10
        clear hp hq hI10 hcg HFL
        rw [show ((0 : Nat) : Int) = 0 from rfl]
        obtain ⟨A5, c5, e5, hsl10⟩ := HW10.out.sl
        injection e5 with e6 e7 e8
        subst e6 e8
        have HH := hid (lgHas_calls (areaN 2 N gen) (at_ : Int) A3 c3 recs HI10.out.dev1 hsl10)
        rw [HAR.out, HF3.out.has] at HH
        clear hsl10 e7
        have y0 := HI10.out.area.cell 0 rfl
        have y1 := HI10.out.area.cell 1 rfl
        have y2 := HI10.out.area.cell 2 rfl
        go_wp2_with fail
        refine HH.out.mono ?_
        rintro _ w11 ⟨rfl, hb11⟩
        have HE := hid (HI10.out.keep hb11).below
        clear hb11 HH y0 y1 y2
        go_wp2_with fail
        go_ret
        exact ⟨rfl, HE.out⟩
      · have hog' : ¬ (oth : Int) = (gen : Int) := by omega
        have HO7 := hid (HOT.out hog w7 HI7.out)
        have z0 := HP7.out.cell 0 rfl
        have z1' := HP7.out.cell 1 rfl
        have z2' := HP7.out.cell 2 rfl
        clear HOT
        go_wp2_with fail
        refine HO7.out.mono ?_
        rintro _ w8 ⟨rfl, hb8⟩
        have HI8 := hid (HI7.out.keep hb8); have HQ8 := hid (HQ7.out.keep hb8); have HWX := hid (HW7.out.keep hb8)
        have HNX := hid (HNXT.out w8 HI8.out)
        clear y0 y1 y2 z0 z1' z2' hb8 HO7 HNXT
        have y0 := HQ8.out.cell 0 rfl
        have y1 := HQ8.out.cell 1 rfl
        have y2 := HQ8.out.cell 2 rfl
        go_wp2_with fail
        refine HNX.out.mono ?_
        rintro _ w9 ⟨rfl, hb9⟩
        have HI9 := hid (HI8.out.keep hb9); have HW9 := hid (HWX.out.keep hb9)
        clear hb9 y0 y1 y2
        obtain ⟨f1, f2, f3⟩ := HLS.out.flush
        have HFL := hid (dFlush_calls w1.heap.size g F s w9 HI9.out.dev (HLS.out.plain.ok (by have := HLO.out; omega)).1 (by have := HLO.out; omega))
        rw [f1] at HFL
        have HF3 := hid f3
        clear f1 f2 f3
        go_wp2_with fail
        refine HFL.out.mono ?_
        rintro _ w10 hp
        obtain ⟨he, hq⟩ := DevAt.of_post hp
        subst he
        obtain ⟨F2, hI10, hcg, -⟩ := HI9.out.at_ hq
        have HW10 := hid (HW9.out.chg hcg HWF.out (fun b hb => Nat.le_trans HI9.out.lo (HI9.out.dev.lt b hb).1))
        have HI10 := hid hI10
        clear hp hq hI10 hcg HFL
        rw [show ((0 : Nat) : Int) = 0 from rfl]
        obtain ⟨A5, c5, e5, hsl10⟩ := HW10.out.sl
        injection e5 with e6 e7 e8
        subst e6 e8
        have HH := hid (lgHas_calls (areaN 2 N gen) (at_ : Int) A3 c3 recs HI10.out.dev1 hsl10)
        rw [HAR.out, HF3.out.has] at HH
        clear hsl10 e7
        have y0 := HI10.out.area.cell 0 rfl
        have y1 := HI10.out.area.cell 1 rfl
        have y2 := HI10.out.area.cell 2 rfl
        go_wp2_with fail
        refine HH.out.mono ?_
        rintro _ w11 ⟨rfl, hb11⟩
        have HE := hid (HI10.out.keep hb11).below
        clear hb11 HH y0 y1 y2
        go_wp2_with fail
        go_ret
        exact ⟨rfl, HE.out⟩
end Go.Proofs.Ytafoimlmiakmcaa
