/- CloudDots: the law's walk. Written by tools/mkod.py. -/
import Derived.Test.YthjflgnoeenenaaOcLat
import Derived.Test.YthjflgnoeenenaaOcCopy
import Derived.Test.YthjflgnoeenenaaOcDotM
import Derived.Test.YthjflgnoeenenaaRgX
namespace Go.Proofs.Ythjflgnoeenenaa
open Go Go.RowKit Go.Shelf Cl

structure DotsM (a b : Cd) (d : Dt) (q : Int) (v10 : List Int) (d10 : List Dt) (xa xb : Bool) (t : Int) (vm : List Int) (dm : List Dt) (cn : Int) : Prop where
  ab : joinB a b = ((v10, d10), 0)
  l10 : v10.length ≤ 20
  m10 : d10.length ≤ 100
  ha : hasB a d = xa
  hb : hasB b d = xb
  h10 : hasB (v10, d10) d = (xa || xb)
  bk : makeC a.1 (backI a.2 a.2.length) = (a, 0)
  top : t = topC a q
  t0 : 0 ≤ t
  t1 : t ≤ 1048576
  full : t = 1048576 → nextC a q = ((0, 0), 10) ∧ hasB a (q, 1048576) = true
  next : t ≠ 1048576 → nextC a q = ((q, t + 1), 0) ∧ hasB a (q, t + 1) = false ∧ makeC a.1 (a.2 ++ [(q, t + 1)]) = ((vm, dm), 0) ∧ hasB (vm, dm) (q, t + 1) = true ∧ countB (vm, dm) = cn + 1
  prev : t ≠ 0 → hasB a (q, t) = true
  cnt : countB a = cn
  c0 : 0 ≤ cn
  c1 : cn ≤ 1000000000
  lm : vm.length ≤ 20
  mm : dm.length ≤ 100
theorem sum_bound {v : List Int} (h : ∀ x ∈ v, 0 ≤ x ∧ x ≤ 1048576) : 0 ≤ v.sum ∧ v.sum ≤ v.length * 1048576 := by
  induction v with
  | nil => simp
  | cons x r ih =>
    have h1 := h x List.mem_cons_self
    have h2 := ih fun y hy => h y (List.mem_cons_of_mem _ hy)
    rw [List.sum_cons, List.length_cons]
    omega
theorem dots_math {a b : Cd} (ha : checkC a = 0) (hb : checkC b = 0) (la : a.2.length ≤ 30) (lb : b.2.length ≤ 30) (d : Dt) {q : Int} (h1 : 1 ≤ q) (h2 : q ≤ 16) : ∃ v10 d10 xa xb t vm dm cn, DotsM a b d q v10 d10 xa xb t vm dm cn := by
  have oa := check_ok ha; have ob := check_ok hb
  have oab := join_ok oa ob
  have l1 := join_len a b
  have hrg : ∀ h3 : topC a q < 1048576, ranged a.1 (a.2 ++ [(q, topC a q + 1)]) := fun h3 => next_ranged oa h1 h2 h3
  have t0 := top_nonneg oa q
  have t1 := top_le oa q
  have hsum := sum_bound oa.rg.2.1
  have hl := oa.rg.1
  by_cases hf : topC a q = 1048576
  · refine ⟨(joinC a b).1, (joinC a b).2, hasB a d, hasB b d, topC a q, [], [], countB a, joinB_ok ha hb (by omega), ?_, by omega, rfl, rfl, has_join ha hb (by omega) d, make_back ha (by omega), rfl, t0, t1, fun _ => ⟨?_, ?_⟩, fun h => absurd hf h, fun h => ?_, rfl, ?_, ?_, by simp, by simp⟩
    · have := oab.rg.1; omega
    · unfold nextC; rw [if_pos ha, if_pos ⟨h1, h2⟩, if_pos hf]
    · rw [has_ok ha, ← hf]; exact decide_eq_true (top_is q (by omega))
    · rw [has_ok ha]; exact decide_eq_true (top_is q (by omega))
    · unfold countB countC; rw [if_pos ha]; omega
    · unfold countB countC; rw [if_pos ha]; omega
  · have h3 : topC a q < 1048576 := by omega
    have hm := formed_len a.1 (a.2 ++ [(q, topC a q + 1)])
    rw [List.length_append, List.length_singleton] at hm
    have om := formed_ok (hrg h3)
    have cm := check_of om (by omega)
    refine ⟨(joinC a b).1, (joinC a b).2, hasB a d, hasB b d, topC a q, (formedV a.1 (a.2 ++ [(q, topC a q + 1)])).1, (formedV a.1 (a.2 ++ [(q, topC a q + 1)])).2, countB a, joinB_ok ha hb (by omega), ?_, by omega, rfl, rfl, has_join ha hb (by omega) d, make_back ha (by omega), rfl, t0, t1, fun h => absurd h hf, fun _ => ⟨?_, ?_, ?_, ?_, ?_⟩, fun h => ?_, rfl, ?_, ?_, ?_, by omega⟩
    · have := oab.rg.1; omega
    · unfold nextC; rw [if_pos ha, if_pos ⟨h1, h2⟩, if_neg hf]
    · rw [has_ok ha]; exact decide_eq_false next_not
    · exact make_ok (hrg h3) (by rw [List.length_append, List.length_singleton]; omega)
    · rw [has_ok cm]; exact decide_eq_true (next_in oa h1 h2 h3)
    · unfold countB; rw [if_pos cm, if_pos ha]; exact next_count oa h1 h2 h3
    · rw [has_ok ha]; exact decide_eq_true (top_is q (by omega))
    · unfold countB countC; rw [if_pos ha]; omega
    · unfold countB countC; rw [if_pos ha]; omega
    · have := om.rg.1; omega
def selB (b : Bool) (x y : Value) : Value := match b with
  | true => x
  | false => y
theorem selB_t (x y : Value) : selB true x y = x := rfl
theorem selB_f (x y : Value) : selB false x y = y := rfl
attribute [local go_sem] selB_t selB_f
/-- what the operations of a round leave: two dots laid in a row, an append -/
def bkF (bs : Nat) (da : List Dt) (k : Nat) (x : Dt) (o : Value) : Nat → Value → World → Prop
  | 11 => fun v W => ∃ q, v = .slice (some ⟨q, 0, none⟩) 2 2 ∧ ND W (some ⟨q, 0, none⟩) 2 [x, x]
  | 12 => fun v W => OwnD W bs v (2 * k + 2) (backI da (k + 1))
  | 13 => fun v W => OwnD W bs v (2 * k + 2) (backI da (k + 1))
  | 1000 => fun _ W => OwnD W bs o (2 * k) (backI da k)
  | _ => fun _ _ => True
def bkK : Nat → List Nat
  | 11 => [12]
  | 12 => [13]
  | 1000 => [12]
  | _ => []
theorem bkF_grows (bs : Nat) (da : List Dt) (k : Nat) (x : Dt) (o : Value) : Grows (bkF bs da k x o) := fun j v W W' h hb => by
  unfold bkF at h ⊢
  split
  · obtain ⟨q, e, hq⟩ := h
    exact ⟨q, e, hq.keep hb⟩
  · exact OwnD.keep h hb
  · exact OwnD.keep h hb
  · exact OwnD.keep h hb
  · trivial
theorem bkF_start {bs : Nat} {da : List Dt} {k : Nat} {x : Dt} {o v : Value} {W : World} {i : Nat} (hi : 14 ≤ i) (h : OwnD W bs o (2 * k) (backI da k)) : bkF bs da k x o i v W.drew := by
  unfold bkF
  split
  · omega
  · omega
  · omega
  · exact h.keep (Below.refl _ _).drew
  · trivial
theorem bkF_write {bs : Nat} {da : List Dt} {k : Nat} {x : Dt} {o v : Value} {W W' : World} {f : Nat → Bool} {i : Nat} (hi : i ≠ 12) (n13 : f 13 = false) (fi : f i = true) (hk : ∀ k ∈ bkK i, f k = false ∧ k ≠ 12) (hF : bkF bs da k x o i v W) : bkF bs da k x o i v W' := by
  unfold bkF at hF ⊢
  split
  · exact absurd rfl (hk 12 (by simp [bkK])).2
  · exact absurd rfl hi
  · rw [n13] at fi; cases fi
  · exact absurd rfl (hk 12 (by simp [bkK])).2
  · trivial
/-- what the operations leave that make a cloud with one more dot -/
def mkF (bs : Nat) (da : List Dt) (x : Dt) (vm : List Int) (dm : List Dt) : Nat → Value → World → Prop
  | 4 => fun v W => OwnD W bs v da.length da
  | 6 => fun v W => ∃ q, v = .slice (some ⟨q, 0, none⟩) 1 1 ∧ ND W (some ⟨q, 0, none⟩) 1 [x]
  | 7 => fun v W => OwnD W bs v (da.length + 1) (da ++ [x])
  | 8 => fun v W => ∃ V D, v = .tuple #[.agg #[V, D], .int .i64 0] ∧ ClO bs W V D (vm, dm)
  | 9 => fun v W => ∃ V D, v = .tuple #[.agg #[V, D], .int .i64 0] ∧ ClO bs W V D (vm, dm)
  | 10 => fun v W => ∃ V D, v = .agg #[V, D] ∧ ClO bs W V D (vm, dm)
  | 12 => fun v W => ∃ q, v = .pointer (some ⟨q, 0, none⟩) ∧ bs ≤ q ∧ Blk W q 25 #[.slice none 0 0, .slice none 0 0]
  | _ => fun _ _ => True
def mkK : Nat → List Nat
  | 4 => [7]
  | 6 => [7]
  | 12 => [13]
  | _ => []
def mkG (bs : Nat) (vm : List Int) (dm : List Dt) (x y : Value) (W : World) : Prop := ∃ q V D, x = .pointer (some ⟨q, 0, none⟩) ∧ y = .agg #[V, D] ∧ Blk W q 25 #[V, D] ∧ ClO bs W V D (vm, dm)
theorem mkF_grows (bs : Nat) (da : List Dt) (x : Dt) (vm : List Int) (dm : List Dt) : Grows (mkF bs da x vm dm) := fun j v W W' h hb => by
  unfold mkF at h ⊢
  split
  · exact OwnD.keep h hb
  · obtain ⟨q, e, hq⟩ := h
    exact ⟨q, e, hq.keep hb⟩
  · exact OwnD.keep h hb
  · obtain ⟨V, D, e, hc⟩ := h
    exact ⟨V, D, e, hc.keep hb⟩
  · obtain ⟨V, D, e, hc⟩ := h
    exact ⟨V, D, e, hc.keep hb⟩
  · obtain ⟨V, D, e, hc⟩ := h
    exact ⟨V, D, e, hc.keep hb⟩
  · obtain ⟨q, e, hq, hk⟩ := h
    exact ⟨q, e, hq, hk.keep hb⟩
  · trivial
theorem mkG_grows (bs : Nat) (vm : List Int) (dm : List Dt) : ∀ x y W W', mkG bs vm dm x y W → Below W.heap.size W W' → mkG bs vm dm x y W' := fun _ _ _ _ ⟨q, V, D, e1, e2, hk, hc⟩ hb => ⟨q, V, D, e1, e2, hk.keep hb, hc.keep hb⟩
theorem mkF_start {bs : Nat} {da : List Dt} {x : Dt} {vm : List Int} {dm : List Dt} {v : Value} {W : World} {i : Nat} (hi : 15 ≤ i) : mkF bs da x vm dm i v W := by
  unfold mkF
  split
  · omega
  · omega
  · omega
  · omega
  · omega
  · omega
  · omega
  · trivial
theorem mkF_app {bs : Nat} {da : List Dt} {x : Dt} {vm : List Int} {dm : List Dt} {v : Value} {W W' : World} {f : Nat → Bool} {i : Nat} {row : Option Nat} (hi : i ≠ 7) (n8 : f 8 = false) (n9 : f 9 = false) (n10 : f 10 = false) (fi : f i = true) (hk : ∀ k ∈ mkK i, f k = false ∧ k ≠ 7) (hg : W.grownBy W' row) (hne : ∀ p cs, Blk W p 25 cs → row ≠ some p) (hF : mkF bs da x vm dm i v W) : mkF bs da x vm dm i v W' := by
  unfold mkF at hF ⊢
  split
  · exact absurd rfl (hk 7 (by simp [mkK])).2
  · exact absurd rfl (hk 7 (by simp [mkK])).2
  · exact absurd rfl hi
  · rw [n8] at fi; cases fi
  · rw [n9] at fi; cases fi
  · rw [n10] at fi; cases fi
  · obtain ⟨q, e, hq, hb⟩ := hF
    exact ⟨q, e, hq, hb.grown hg (hne _ _ hb)⟩
  · trivial
theorem clo_store {bs : Nat} {W : World} {V D : Value} {R : Cd} {q : Nat} {cs : Array Value} (h : ClO bs W V D R) (hk : Blk W q 25 cs) (cs' : Array Value) : ClO bs (W.setRow q cs') V D R := by
  have hg := grown_setRow W q cs'
  refine ⟨h.1.kept hg ?_, h.2.1.kept hg (.inr (h.2.1.blk2 hk (by decide))), h.2.2⟩
  rcases hv : V.ownBlock with _ | b
  · exact .inl rfl
  · refine .inr fun e => ?_
    obtain ⟨A, c, rfl, _, _, hA⟩ := h.1.ni
    cases A with
    | none => cases hv
    | some a =>
      have hn := h.1
      rcases hn.2 with ⟨e2, _⟩ | ⟨g, cap, cur, e2, _, hb, _⟩
      · cases e2
      · cases e2
        cases hv
        cases e
        exact blk_ne (t := 3) (cs := cur) hb hk (by decide) rfl
theorem mkF_store {bs : Nat} {da : List Dt} {x : Dt} {vm : List Int} {dm : List Dt} {v : Value} {W : World} {f : Nat → Bool} {i q : Nat} {cs cs' : Array Value} (hb : Blk W q 25 cs) (h7 : f 7 = true) (hk : ∀ k ∈ mkK i, f k = false ∧ k ≠ 13) (hF : mkF bs da x vm dm i v W) : mkF bs da x vm dm i v (W.setRow q cs') := by
  have hg := grown_setRow W q cs'
  unfold mkF at hF ⊢
  split
  · exact OwnD.kept hF hg (.inr (OwnD.blk2 hF hb (by decide)))
  · have := (hk 7 (by simp [mkK])).1
    rw [h7] at this
    cases this
  · exact OwnD.kept hF hg (.inr (OwnD.blk2 hF hb (by decide)))
  · obtain ⟨V, D, e, hc⟩ := hF
    exact ⟨V, D, e, clo_store hc hb _⟩
  · obtain ⟨V, D, e, hc⟩ := hF
    exact ⟨V, D, e, clo_store hc hb _⟩
  · obtain ⟨V, D, e, hc⟩ := hF
    exact ⟨V, D, e, clo_store hc hb _⟩
  · exact absurd rfl (hk 13 (by simp [mkK])).2
  · trivial
theorem mk_true {c : Cd} : (decide ((c, (0 : Int)).2 = 0) && decide ((c, (0 : Int)).1 = c)) = true := by simp
def vOd5 (A10 : Option Addr) (c10 : Nat) (B10 : Option Addr) (e10 : Nat) (v10 : List Int) (d10 : List Dt) (Aa : Option Addr) (ca : Nat) (Ba : Option Addr) (ea : Nat) (va : List Int) (da : List Dt) (Ab : Option Addr) (cb : Nat) (Bb : Option Addr) (eb : Nat) (vb : List Int) (db : List Dt) (Rd : Int) (Nd : Int) (xa : Bool) (xb : Bool) : Nat → Unit → Value
  | 0, _ => .int .i64 0
  | 1, _ => .bool false
  | 2, _ => .bool false
  | 3, _ => .agg #[.slice A10 v10.length c10, .slice B10 d10.length e10]
  | 4, _ => .agg #[.int .i64 Rd, .int .i64 Nd]
  | 5, _ => .bool (xa || xb)
  | 6, _ => .agg #[.slice Aa va.length ca, .slice Ba da.length ea]
  | 7, _ => .agg #[.int .i64 Rd, .int .i64 Nd]
  | 8, _ => .bool xa
  | 9, _ => .bool xa
  | 10, _ => selB xa undef (.agg #[.slice Ab vb.length cb, .slice Bb db.length eb])
  | 11, _ => selB xa undef (.agg #[.int .i64 Rd, .int .i64 Nd])
  | 12, _ => selB xa undef (.bool xb)
  | 13, _ => .bool (xa || xb)
  | 14, _ => .bool false
  | 15, _ => .bool false
  | _, _ => undef
def vOd11 (A12 : Option Addr) (c12 : Nat) (k : Nat) (p4 : Nat) (b1 : Nat) (o1 : Nat) (m : Nat) (ea : Nat) (j : Nat) (x : Dt) : Nat → Value → Value
  | 0, _ => .slice A12 (2 * k) c12
  | 1, _ => .pointer (some ⟨p4, 1, none⟩)
  | 2, _ => .slice (some ⟨b1, o1, none⟩) m ea
  | 3, _ => .int .i64 (j : Int)
  | 4, _ => .pointer (some ⟨b1, o1 + j * 2, none⟩)
  | 5, _ => dvv x
  | 6, _ => .pointer (some ⟨p4, 1, none⟩)
  | 7, _ => .slice (some ⟨b1, o1, none⟩) m ea
  | 8, _ => .int .i64 (j : Int)
  | 9, _ => .pointer (some ⟨b1, o1 + j * 2, none⟩)
  | 10, _ => dvv x
  | 11, k => k
  | 12, k => k
  | 13, k => k
  | _, _ => undef
def vOd17 (Aa : Option Addr) (ca : Nat) (Ba : Option Addr) (ea : Nat) (va : List Int) (da : List Dt) (q : Int) : Nat → Unit → Value
  | 0, _ => .bool true
  | 1, _ => .bool true
  | 2, _ => .int .i64 10
  | 3, _ => .bool true
  | 4, _ => .bool true
  | 5, _ => .bool true
  | 6, _ => .agg #[.slice Aa va.length ca, .slice Ba da.length ea]
  | 7, _ => .int .i64 q
  | 8, _ => .agg #[.int .i64 q, .int .i64 1048576]
  | 9, _ => .bool true
  | 10, _ => .bool true
  | 11, _ => .bool true
  | _, _ => undef
def vOd18 (p4 : Nat) (Aa : Option Addr) (ca : Nat) (Ba : Option Addr) (ea : Nat) (va : List Int) (da : List Dt) (q : Int) (t : Int) : Nat → Value → Value
  | 0, _ => .pointer (some ⟨p4, 0, none⟩)
  | 1, _ => .slice Aa va.length ca
  | 2, _ => .pointer (some ⟨p4, 1, none⟩)
  | 3, _ => .slice Ba da.length ea
  | 4, k => k
  | 5, _ => .agg #[.int .i64 q, .int .i64 (t + 1)]
  | 6, k => k
  | 7, k => k
  | 8, k => k
  | 9, k => k
  | 10, k => k
  | 11, _ => .int .i64 0
  | 12, k => k
  | 14, _ => .int .i64 0
  | _, _ => undef
def vOd19a (Aa : Option Addr) (ca : Nat) (Ba : Option Addr) (ea : Nat) (va : List Int) (da : List Dt) (q : Int) (t : Int) (g14 : Nat) (A16 : Option Addr) (c16 : Nat) (B16 : Option Addr) (e16 : Nat) (vm : List Int) (dm : List Dt) (cn : Int) : Nat → Unit → Value
  | 0, _ => .bool true
  | 1, _ => .bool true
  | 2, _ => .agg #[.slice Aa va.length ca, .slice Ba da.length ea]
  | 3, _ => .agg #[.int .i64 q, .int .i64 (t + 1)]
  | 4, _ => .bool false
  | 5, _ => .bool true
  | 6, _ => .bool true
  | 7, _ => .bool true
  | 8, _ => .pointer (some ⟨g14, 0, none⟩)
  | 9, _ => .int .i64 q
  | 10, _ => .int .i64 q
  | 11, _ => .bool true
  | 12, _ => .bool true
  | 13, _ => .bool true
  | 14, _ => .pointer (some ⟨g14, 1, none⟩)
  | 15, _ => .int .i64 (t + 1)
  | 16, _ => .bool true
  | 17, _ => .bool true
  | 18, _ => undef
  | 19, _ => undef
  | 20, _ => undef
  | 21, _ => undef
  | 22, _ => undef
  | 23, _ => undef
  | 24, _ => undef
  | 25, _ => .bool true
  | 26, _ => .bool true
  | 27, _ => .bool true
  | 28, _ => .int .i64 0
  | 29, _ => .bool true
  | 30, _ => .bool true
  | 31, _ => .bool true
  | 32, _ => .agg #[.slice A16 vm.length c16, .slice B16 dm.length e16]
  | 33, _ => .agg #[.int .i64 q, .int .i64 (t + 1)]
  | 34, _ => .bool true
  | 35, _ => .bool true
  | 36, _ => .bool true
  | 37, _ => .agg #[.slice A16 vm.length c16, .slice B16 dm.length e16]
  | 38, _ => .int .i64 (cn + 1)
  | 39, _ => .agg #[.slice Aa va.length ca, .slice Ba da.length ea]
  | 40, _ => .int .i64 cn
  | 41, _ => .int .i64 (cn + 1)
  | 42, _ => .bool true
  | 43, _ => .bool true
  | 44, _ => .bool true
  | _, _ => undef
def vOd19b (Aa : Option Addr) (ca : Nat) (Ba : Option Addr) (ea : Nat) (va : List Int) (da : List Dt) (q : Int) (t : Int) (g14 : Nat) (A16 : Option Addr) (c16 : Nat) (B16 : Option Addr) (e16 : Nat) (vm : List Int) (dm : List Dt) (cn : Int) : Nat → Unit → Value
  | 0, _ => .bool true
  | 1, _ => .bool true
  | 2, _ => .agg #[.slice Aa va.length ca, .slice Ba da.length ea]
  | 3, _ => .agg #[.int .i64 q, .int .i64 (t + 1)]
  | 4, _ => .bool false
  | 5, _ => .bool true
  | 6, _ => .bool true
  | 7, _ => .bool true
  | 8, _ => .pointer (some ⟨g14, 0, none⟩)
  | 9, _ => .int .i64 q
  | 10, _ => .int .i64 q
  | 11, _ => .bool true
  | 12, _ => .bool true
  | 13, _ => .bool true
  | 14, _ => .pointer (some ⟨g14, 1, none⟩)
  | 15, _ => .int .i64 (t + 1)
  | 16, _ => .bool false
  | 17, _ => .bool false
  | 18, _ => .agg #[.slice Aa va.length ca, .slice Ba da.length ea]
  | 19, _ => .int .i64 q
  | 20, _ => .pointer (some ⟨g14, 1, none⟩)
  | 21, _ => .int .i64 (t + 1)
  | 22, _ => .int .i64 t
  | 23, _ => .agg #[.int .i64 q, .int .i64 t]
  | 24, _ => .bool true
  | 25, _ => .bool true
  | 26, _ => .bool true
  | 27, _ => .bool true
  | 28, _ => .int .i64 0
  | 29, _ => .bool true
  | 30, _ => .bool true
  | 31, _ => .bool true
  | 32, _ => .agg #[.slice A16 vm.length c16, .slice B16 dm.length e16]
  | 33, _ => .agg #[.int .i64 q, .int .i64 (t + 1)]
  | 34, _ => .bool true
  | 35, _ => .bool true
  | 36, _ => .bool true
  | 37, _ => .agg #[.slice A16 vm.length c16, .slice B16 dm.length e16]
  | 38, _ => .int .i64 (cn + 1)
  | 39, _ => .agg #[.slice Aa va.length ca, .slice Ba da.length ea]
  | 40, _ => .int .i64 cn
  | 41, _ => .int .i64 (cn + 1)
  | 42, _ => .bool true
  | 43, _ => .bool true
  | 44, _ => .bool true
  | _, _ => undef
theorem cloud_cloud_dot (w : World) (cs ds es : Array Value) : ∃ w3, w3 = ((w.alloc (.cells cs 25)).alloc (.cells ds 25)).alloc (.cells es 27) ∧ Blk w3 w.heap.size 25 cs ∧ Blk w3 (w.heap.size + 1) 25 ds ∧ Blk w3 (w.heap.size + 1 + 1) 27 es ∧ Below w.heap.size w w3 := by
  obtain ⟨w2, hw2, k1, k2, hb⟩ := two_clouds w cs ds
  have hb3 := below_new w2 (.cells es 27)
  have k3 := Blk.new w2 27 es
  have hs : w2.heap.size = w.heap.size + 1 + 1 := by rw [hw2]; simp
  rw [hs] at k3
  exact ⟨_, by rw [hw2], k1.keep hb3, k2.keep hb3, k3, hb.trans (hb3.mono hb.size)⟩
theorem Below.mono0 {n m : Nat} {w w' : World} (h : Below n w w') (hm : m ≤ n) : Below m w w' := h.mono hm
set_option maxRecDepth 100000 in
set_option maxHeartbeats 8000000 in
theorem cdots_calls (na ca ma ea nb cb mb eb : Nat) (Aa Ba Ab Bb : Option Addr) (va vb : List Int) (da db : List Dt) (Rd Nd r : Int) (w : World) (h1 : NI w Aa na va) (h2 : ND w Ba ma da) (h3 : NI w Ab nb vb) (h4 : ND w Bb mb db) (hac : na ≤ ca) (hae : ma ≤ ea) (hbc : nb ≤ cb) (hbe : mb ≤ eb) :
    Calls Try.prog 7 #[cdv Aa na ca Ba ma ea, cdv Ab nb cb Bb mb eb, .agg #[.int .i64 Rd, .int .i64 Nd], .int .i64 r] w fun e w' => e = .returned (.bool true) ∧ Below w.heap.size w w' := by
  obtain rfl := h1.1
  obtain rfl := h2.1
  obtain rfl := h3.1
  obtain rfl := h4.1
  have hzc := (zero_of_info info_cloud).1
  have hzd := (zero_of_info info_dot0).1
  obtain ⟨W0, hW0, k4, k5, k6, hb⟩ := cloud_cloud_dot w #[.slice Aa va.length ca, .slice Ba da.length ea] #[.slice Ab vb.length cb, .slice Bb db.length eb] #[.int .i64 Rd, .int .i64 Nd]
  have HW0 := hid hW0; have HB := hid hb; have K4 := hid k4; have K5 := hid k5; have K6 := hid k6
  have Na := hid (h1.keep hb); have Da := hid (h2.keep hb); have Nb := hid (h3.keep hb); have Db := hid (h4.keep hb)
  obtain ⟨p4, hp4⟩ : ∃ p4, w.heap.size = p4 := ⟨_, rfl⟩
  obtain ⟨p5, hp5⟩ : ∃ p5, p4 + 1 = p5 := ⟨_, rfl⟩
  obtain ⟨p6, hp6⟩ : ∃ p6, p5 + 1 = p6 := ⟨_, rfl⟩
  have HP4 := hid hp4; have HP5 := hid hp5; have HP6 := hid hp6
  rw [hp4] at K4 K5 K6
  rw [hp5] at K5 K6
  rw [hp6] at K6
  clear h1 h2 h3 h4 hW0 hb k4 k5 k6 hp4 hp5 hp6
  unfold cdv
  go_enter Try.func7, Try.ntmps7
  go_wp2_with fail
  rw [← HW0.out, HP4.out, HP5.out, HP6.out]
  have hc : Calls Try.prog 5 #[] W0 (fun e w' => e = .returned (.bool true) ∧ Below W0.heap.size W0 w') := by
    have h := known_calls W0
    exact h
  have HC := hid hc
  clear hc
  go_wp2_with fail
  refine HC.out.mono ?_
  rintro e W1 ⟨rfl, hb⟩
  clear HC
  replace Na := hid (Na.out.keep hb)
  replace Da := hid (Da.out.keep hb)
  replace Nb := hid (Nb.out.keep hb)
  replace Db := hid (Db.out.keep hb)
  replace K4 := hid (K4.out.keep hb)
  replace K5 := hid (K5.out.keep hb)
  replace K6 := hid (K6.out.keep hb)
  replace HB := hid (HB.out.trans (hb.mono HB.out.size))
  clear hb
  obtain ⟨q, hq⟩ : ∃ q, longC va.length da.length = q := ⟨_, rfl⟩
  have hc : Calls Try.prog 8 #[.agg #[.slice Aa va.length ca, .slice Ba da.length ea]] W1 (fun e w' => e = .returned (.bool q) ∧ Below W1.heap.size W1 w') := by
    have h := longC_calls va.length ca da.length ea Aa Ba W1
    rw [hq] at h
    exact h
  have HC := hid hc
  clear hc
  have q0K4 := K4.out.cell 0 rfl
  have q1K4 := K4.out.cell 1 rfl
  go_wp2_with fail
  clear q0K4 q1K4
  refine HC.out.mono ?_
  rintro e W2 ⟨rfl, hb⟩
  clear HC
  replace Na := hid (Na.out.keep hb)
  replace Da := hid (Da.out.keep hb)
  replace Nb := hid (Nb.out.keep hb)
  replace Db := hid (Db.out.keep hb)
  replace K4 := hid (K4.out.keep hb)
  replace K5 := hid (K5.out.keep hb)
  replace K6 := hid (K6.out.keep hb)
  replace HB := hid (HB.out.trans (hb.mono HB.out.size))
  clear hb
  have HQ := hid hq
  clear hq
  cases q
  case true =>
    go_wp2_with fail
    go_ret
    exact ⟨rfl, HB.out⟩
  have La := hid (longC_no HQ.out)
  clear HQ
  obtain ⟨q, hq⟩ : ∃ q, longC vb.length db.length = q := ⟨_, rfl⟩
  have hc : Calls Try.prog 8 #[.agg #[.slice Ab vb.length cb, .slice Bb db.length eb]] W2 (fun e w' => e = .returned (.bool q) ∧ Below W2.heap.size W2 w') := by
    have h := longC_calls vb.length cb db.length eb Ab Bb W2
    rw [hq] at h
    exact h
  have HC := hid hc
  clear hc
  have q0K5 := K5.out.cell 0 rfl
  have q1K5 := K5.out.cell 1 rfl
  go_wp2_with fail
  clear q0K5 q1K5
  refine HC.out.mono ?_
  rintro e W3 ⟨rfl, hb⟩
  clear HC
  replace Na := hid (Na.out.keep hb)
  replace Da := hid (Da.out.keep hb)
  replace Nb := hid (Nb.out.keep hb)
  replace Db := hid (Db.out.keep hb)
  replace K4 := hid (K4.out.keep hb)
  replace K5 := hid (K5.out.keep hb)
  replace K6 := hid (K6.out.keep hb)
  replace HB := hid (HB.out.trans (hb.mono HB.out.size))
  clear hb
  have HQ := hid hq
  clear hq
  cases q
  case true =>
    go_wp2_with fail
    go_ret
    exact ⟨rfl, HB.out⟩
  have Lb := hid (longC_no HQ.out)
  clear HQ
  obtain ⟨z, hz⟩ : ∃ z, checkC (va, da) = z := ⟨_, rfl⟩
  have hc : Calls Try.prog 18 #[.agg #[.slice Aa va.length ca, .slice Ba da.length ea]] W3 (fun e w' => e = .returned (.int .i64 z) ∧ Below W3.heap.size W3 w') := by
    have h := ocCheck_calls va.length ca da.length ea Aa Ba va da W3 Na.out Da.out (by have := La.out; omega) (by have := La.out; omega) hac
    rw [hz] at h
    exact h
  have HC := hid hc
  clear hc
  have q0K4 := K4.out.cell 0 rfl
  have q1K4 := K4.out.cell 1 rfl
  go_wp2_with fail
  clear q0K4 q1K4
  refine HC.out.mono ?_
  rintro e W4 ⟨rfl, hb⟩
  clear HC
  replace Na := hid (Na.out.keep hb)
  replace Da := hid (Da.out.keep hb)
  replace Nb := hid (Nb.out.keep hb)
  replace Db := hid (Db.out.keep hb)
  replace K4 := hid (K4.out.keep hb)
  replace K5 := hid (K5.out.keep hb)
  replace K6 := hid (K6.out.keep hb)
  replace HB := hid (HB.out.trans (hb.mono HB.out.size))
  clear hb
  have HZ := hid hz
  clear hz
  by_cases h0 : z = 0
  case neg =>
    have hzq : (z == 0) = false := by simpa using h0
    go_wp2_with fail
    go_ret
    exact ⟨rfl, HB.out⟩
  subst h0
  have Oa := HZ
  clear HZ
  obtain ⟨z, hz⟩ : ∃ z, checkC (vb, db) = z := ⟨_, rfl⟩
  have hc : Calls Try.prog 18 #[.agg #[.slice Ab vb.length cb, .slice Bb db.length eb]] W4 (fun e w' => e = .returned (.int .i64 z) ∧ Below W4.heap.size W4 w') := by
    have h := ocCheck_calls vb.length cb db.length eb Ab Bb vb db W4 Nb.out Db.out (by have := Lb.out; omega) (by have := Lb.out; omega) hbc
    rw [hz] at h
    exact h
  have HC := hid hc
  clear hc
  have q0K5 := K5.out.cell 0 rfl
  have q1K5 := K5.out.cell 1 rfl
  go_wp2_with fail
  clear q0K5 q1K5
  refine HC.out.mono ?_
  rintro e W5 ⟨rfl, hb⟩
  clear HC
  replace Na := hid (Na.out.keep hb)
  replace Da := hid (Da.out.keep hb)
  replace Nb := hid (Nb.out.keep hb)
  replace Db := hid (Db.out.keep hb)
  replace K4 := hid (K4.out.keep hb)
  replace K5 := hid (K5.out.keep hb)
  replace K6 := hid (K6.out.keep hb)
  replace HB := hid (HB.out.trans (hb.mono HB.out.size))
  clear hb
  have HZ := hid hz
  clear hz
  by_cases h0 : z = 0
  case neg =>
    have hzq : (z == 0) = false := by simpa using h0
    go_wp2_with fail
    go_ret
    exact ⟨rfl, HB.out⟩
  subst h0
  have Ob := HZ
  clear HZ
  obtain ⟨q, hq⟩ : ∃ q, 1 + r % 16 = q := ⟨_, rfl⟩
  have hq1 : 1 ≤ q := by omega
  have hq2 : q ≤ 16 := by omega
  have HQR := hid hq
  clear hq
  obtain ⟨v10, d10, xa, xb, t, vm, dm, cn, hm⟩ := dots_math Oa.out Ob.out La.out.2 Lb.out.2 (Rd, Nd) hq1 hq2
  have M := hid hm
  clear hm
  have HQ1 := hid hq1; have HQ2 := hid hq2
  clear hq1 hq2
  have hc : Calls Try.prog 27 #[.agg #[.slice Aa va.length ca, .slice Ba da.length ea], .agg #[.slice Ab vb.length cb, .slice Bb db.length eb]] W5 (fun e w' => ∃ V D, e = .returned (.tuple #[.agg #[V, D], .int .i64 0]) ∧ ClO W5.heap.size w' V D (v10, d10) ∧ Below W5.heap.size W5 w') := by
    have h := ocJoin_calls va.length ca da.length ea vb.length cb db.length eb Aa Ba Ab Bb va vb da db W5 Na.out Da.out Nb.out Db.out (by have := La.out.1; omega) (by have := Lb.out.1; omega) (by have := La.out.2; have := Lb.out.2; omega) hac hbc hae hbe
    rw [M.out.ab] at h
    exact h
  have HC := hid hc
  clear hc
  have q0K4 := K4.out.cell 0 rfl
  have q1K4 := K4.out.cell 1 rfl
  have q0K5 := K5.out.cell 0 rfl
  have q1K5 := K5.out.cell 1 rfl
  go_wp2_with fail
  clear q0K4 q1K4 q0K5 q1K5
  refine HC.out.mono ?_
  rintro e W6 ⟨V10, D10, rfl, ⟨ho1, ho2, -⟩, hb⟩
  clear HC
  replace Na := hid (Na.out.keep hb)
  replace Da := hid (Da.out.keep hb)
  replace Nb := hid (Nb.out.keep hb)
  replace Db := hid (Db.out.keep hb)
  replace K4 := hid (K4.out.keep hb)
  replace K5 := hid (K5.out.keep hb)
  replace K6 := hid (K6.out.keep hb)
  replace HB := hid (HB.out.trans (hb.mono HB.out.size))
  clear hb
  obtain ⟨A10, c10, rfl, ll, hf, -⟩ := ho1.ni
  obtain ⟨B10, e10, rfl, kk, hg, -⟩ := ho2.nd
  have l10 := hid ll; have k10 := hid kk
  clear ll kk
  have F10 : Hid (NI W6 A10 v10.length v10) := hf
  have G10 : Hid (ND W6 B10 d10.length d10) := hg
  clear ho1 ho2 hf hg
  have hk3 := Blk.new W6 25 #[.slice none 0 0, .slice none 0 0]
  have HK3 := hid hk3
  have HK4 := hid (hk3.setRow #[.slice A10 v10.length c10, .slice B10 d10.length e10])
  have HB4 := hid (show Below W6.heap.size W6 ((W6.alloc (.cells #[.slice none 0 0, .slice none 0 0] 25)).setRow W6.heap.size #[.slice A10 v10.length c10, .slice B10 d10.length e10]) from (below_new _ _).trans (below_of_grown (grown_setRow _ _ _) (by rw [size_new]; omega) (fun g e => by cases e; exact Nat.le_refl _)))
  clear hk3
  go_wp2_with (refine wpList_store_blk rfl _ _ _ rfl W6.heap.size #[.slice A10 v10.length c10, .slice B10 d10.length e10] rfl rfl _ _ HK3.out (by kernel_rfl) rfl (by rfl) ?_; refine Held.go ?_)
  unfold Held
  obtain ⟨W7, hW4⟩ : ∃ WX, WX = (W6.alloc (.cells #[.slice none 0 0, .slice none 0 0] 25)).setRow W6.heap.size #[.slice A10 v10.length c10, .slice B10 d10.length e10] := ⟨_, rfl⟩
  rw [← hW4] at HK4 HB4 ⊢
  clear hW4 HK3
  obtain ⟨g10, hg⟩ : ∃ g, W6.heap.size = g := ⟨_, rfl⟩
  rw [hg] at HK4 ⊢
  clear hg
  have hb := HB4.out
  clear HB4
  replace Na := hid (Na.out.keep hb)
  replace Da := hid (Da.out.keep hb)
  replace Nb := hid (Nb.out.keep hb)
  replace Db := hid (Db.out.keep hb)
  replace F10 := hid (F10.out.keep hb)
  replace G10 := hid (G10.out.keep hb)
  replace K4 := hid (K4.out.keep hb)
  replace K5 := hid (K5.out.keep hb)
  replace K6 := hid (K6.out.keep hb)
  replace HB := hid (HB.out.trans (hb.mono HB.out.size))
  clear hb
  have K10 := HK4
  clear HK4
  have HH1 := hid (fun (W : World) (hb : Below W7.heap.size W7 W) => show Calls Try.prog 20 #[.agg #[.slice A10 v10.length c10, .slice B10 d10.length e10], .agg #[.int .i64 Rd, .int .i64 Nd]] W _ from ocHas_calls v10.length c10 d10.length e10 A10 B10 v10 d10 (Rd, Nd) W (F10.out.keep hb) (G10.out.keep hb) (by have := M.out.l10; omega) (by have := M.out.m10; omega) l10.out)
  rw [M.out.h10] at HH1
  have HH2 := hid (fun (W : World) (hb : Below W7.heap.size W7 W) => show Calls Try.prog 20 #[.agg #[.slice Aa va.length ca, .slice Ba da.length ea], .agg #[.int .i64 Rd, .int .i64 Nd]] W _ from ocHas_calls va.length ca da.length ea Aa Ba va da (Rd, Nd) W (Na.out.keep hb) (Da.out.keep hb) (by have := La.out.1; omega) (by have := La.out.2; omega) hac)
  rw [M.out.ha] at HH2
  have HH3 := hid (fun (W : World) (hb : Below W7.heap.size W7 W) => show Calls Try.prog 20 #[.agg #[.slice Ab vb.length cb, .slice Bb db.length eb], .agg #[.int .i64 Rd, .int .i64 Nd]] W _ from ocHas_calls vb.length cb db.length eb Ab Bb vb db (Rd, Nd) W (Nb.out.keep hb) (Db.out.keep hb) (by have := Lb.out.1; omega) (by have := Lb.out.2; omega) hbc)
  rw [M.out.hb] at HH3
  go_wp2_with fail
  refine wp_region_invG 163 () (vOd5 A10 c10 B10 e10 v10 d10 Aa ca Ba ea va da Ab cb Bb eb vb db Rd Nd xa xb) (fun _ _ W => Below W7.heap.size W7 W) (by kernel_rfl) (by kernel_rfl) (by exact Nat.le_refl 163) ?_ ?_ ?_
  · exact (Below.refl _ _).drew
  · intro i o f gh a W hi hf hdep hsame hcl hval hS
    rcases i with _ | _ | _ | _ | _ | _ | _ | _ | _ | _ | _ | _ | _ | _ | _ | _ | i
    all_goals simp only [List.getElem?_cons_succ, List.getElem?_cons_zero, List.getElem?_nil, Option.some.injEq, reduceCtorEq] at hi
    all_goals subst hi
    · have E11 : a.tmps[11]? = some (.int .i64 0) := (same_of hsame 11 (by rfl)).trans rfl
      refine g_plain rfl ?_
      exact does_value (w' := W) (v := .int .i64 0) (by go_simp) ⟨(), .inr rfl, hS⟩
    · have E42 := hval 0 _ 42 rfl rfl (dep_of hdep 0 (by rfl))
      unfold vOd5 at E42
      refine g_plain rfl ?_
      exact does_value (w' := W) (v := .bool false) (by go_simp) ⟨(), .inr rfl, hS⟩
    · have E43 := hval 1 _ 43 rfl rfl (dep_of hdep 1 (by rfl))
      unfold vOd5 at E43
      refine g_plain rfl ?_
      exact does_value (w' := W) (v := .bool false) (by go_simp) ⟨(), .inr rfl, hS⟩
    · have EG := hval 2 _ 44 rfl rfl (dep_of hdep 2 (by rfl))
      have E10 : a.tmps[10]? = some (.pointer (some ⟨g10, 0, none⟩)) := (same_of hsame 10 (by rfl)).trans rfl
      unfold vOd5 at EG
      refine g_want rfl rfl rfl EG ?_
      exact does_load_cloud _ rfl g10 rfl (by rw [eval_getD, E10]; rfl) (K10.out.keep hS) ⟨(), .inr rfl, hS⟩
    · have EG := hval 2 _ 44 rfl rfl (dep_of hdep 2 (by rfl))
      have E6 : a.tmps[6]? = some (.pointer (some ⟨p6, 0, none⟩)) := (same_of hsame 6 (by rfl)).trans rfl
      unfold vOd5 at EG
      refine g_want rfl rfl rfl EG ?_
      exact does_load_dotB _ rfl p6 (by rw [eval_getD, E6]; rfl) (d := (Rd, Nd)) (K6.out.keep hS) ⟨(), .inr rfl, hS⟩
    · have EG := hval 2 _ 44 rfl rfl (dep_of hdep 2 (by rfl))
      have E45 := hval 3 _ 45 rfl rfl (dep_of hdep 3 (by rfl))
      have E46 := hval 4 _ 46 rfl rfl (dep_of hdep 4 (by rfl))
      unfold vOd5 at EG E45 E46
      refine g_want rfl rfl rfl EG ?_
      refine does_call 20 #[.agg #[.slice A10 v10.length c10, .slice B10 d10.length e10], .agg #[.int .i64 Rd, .int .i64 Nd]] (by go_simp) ((HH1.out W hS).mono ?_)
      rintro e w' ⟨rfl, hb⟩
      exact ⟨.bool (xa || xb), rfl, (), .inr rfl, hS.trans (hb.mono hS.size)⟩
    · have EG := hval 2 _ 44 rfl rfl (dep_of hdep 2 (by rfl))
      have E4 : a.tmps[4]? = some (.pointer (some ⟨p4, 0, none⟩)) := (same_of hsame 4 (by rfl)).trans rfl
      unfold vOd5 at EG
      refine g_want rfl rfl rfl EG ?_
      exact does_load_cloud _ rfl p4 rfl (by rw [eval_getD, E4]; rfl) (K4.out.keep hS) ⟨(), .inr rfl, hS⟩
    · have EG := hval 2 _ 44 rfl rfl (dep_of hdep 2 (by rfl))
      have E6 : a.tmps[6]? = some (.pointer (some ⟨p6, 0, none⟩)) := (same_of hsame 6 (by rfl)).trans rfl
      unfold vOd5 at EG
      refine g_want rfl rfl rfl EG ?_
      exact does_load_dotB _ rfl p6 (by rw [eval_getD, E6]; rfl) (d := (Rd, Nd)) (K6.out.keep hS) ⟨(), .inr rfl, hS⟩
    · have EG := hval 2 _ 44 rfl rfl (dep_of hdep 2 (by rfl))
      have E48 := hval 6 _ 48 rfl rfl (dep_of hdep 6 (by rfl))
      have E49 := hval 7 _ 49 rfl rfl (dep_of hdep 7 (by rfl))
      unfold vOd5 at EG E48 E49
      refine g_want rfl rfl rfl EG ?_
      refine does_call 20 #[.agg #[.slice Aa va.length ca, .slice Ba da.length ea], .agg #[.int .i64 Rd, .int .i64 Nd]] (by go_simp) ((HH2.out W hS).mono ?_)
      rintro e w' ⟨rfl, hb⟩
      exact ⟨.bool xa, rfl, (), .inr rfl, hS.trans (hb.mono hS.size)⟩
    · have EG := hval 2 _ 44 rfl rfl (dep_of hdep 2 (by rfl))
      have E50 := hval 8 _ 50 rfl rfl (dep_of hdep 8 (by rfl))
      unfold vOd5 at EG E50
      refine g_want rfl rfl rfl EG ?_
      exact does_value (w' := W) (v := .bool xa) (by go_simp) ⟨(), .inr rfl, hS⟩
    · have EG := hval 9 _ 51 rfl rfl (dep_of hdep 9 (by rfl))
      have E5 : a.tmps[5]? = some (.pointer (some ⟨p5, 0, none⟩)) := (same_of hsame 5 (by rfl)).trans rfl
      unfold vOd5 at EG
      cases xa with
      | true => exact g_skip rfl rfl rfl EG rfl ⟨(), .inr rfl, hS⟩
      | false =>
        refine g_want rfl rfl rfl EG ?_
        exact does_load_cloud _ rfl p5 rfl (by rw [eval_getD, E5]; rfl) (K5.out.keep hS) ⟨(), .inr rfl, hS⟩
    · have EG := hval 9 _ 51 rfl rfl (dep_of hdep 9 (by rfl))
      have E6 : a.tmps[6]? = some (.pointer (some ⟨p6, 0, none⟩)) := (same_of hsame 6 (by rfl)).trans rfl
      unfold vOd5 at EG
      cases xa with
      | true => exact g_skip rfl rfl rfl EG rfl ⟨(), .inr rfl, hS⟩
      | false =>
        refine g_want rfl rfl rfl EG ?_
        exact does_load_dotB _ rfl p6 (by rw [eval_getD, E6]; rfl) (d := (Rd, Nd)) (K6.out.keep hS) ⟨(), .inr rfl, hS⟩
    · have EG := hval 9 _ 51 rfl rfl (dep_of hdep 9 (by rfl))
      have E52 := hval 10 _ 52 rfl rfl (dep_of hdep 10 (by rfl))
      have E53 := hval 11 _ 53 rfl rfl (dep_of hdep 11 (by rfl))
      unfold vOd5 at EG E52 E53
      cases xa with
      | true => exact g_skip rfl rfl rfl EG rfl ⟨(), .inr rfl, hS⟩
      | false =>
        refine g_want rfl rfl rfl EG ?_
        refine does_call 20 #[.agg #[.slice Ab vb.length cb, .slice Bb db.length eb], .agg #[.int .i64 Rd, .int .i64 Nd]] (by go_simp) ((HH3.out W hS).mono ?_)
        rintro e w' ⟨rfl, hb⟩
        exact ⟨.bool xb, rfl, (), .inr rfl, hS.trans (hb.mono hS.size)⟩
    · have EG := hval 2 _ 44 rfl rfl (dep_of hdep 2 (by rfl))
      have E51 := hval 9 _ 51 rfl rfl (dep_of hdep 9 (by rfl))
      have E54 := hval 12 _ 54 rfl rfl (dep_of hdep 12 (by rfl))
      unfold vOd5 at EG E51 E54
      refine g_want rfl rfl rfl EG ?_
      cases xa with
      | true => exact does_value (w' := W) (v := .bool true) (by go_simp) ⟨(), .inr rfl, hS⟩
      | false => exact does_value (w' := W) (v := .bool xb) (by go_simp) ⟨(), .inr rfl, hS⟩
    · have EG := hval 2 _ 44 rfl rfl (dep_of hdep 2 (by rfl))
      have E47 := hval 5 _ 47 rfl rfl (dep_of hdep 5 (by rfl))
      have E55 := hval 13 _ 55 rfl rfl (dep_of hdep 13 (by rfl))
      unfold vOd5 at EG E47 E55
      refine g_want rfl rfl rfl EG ?_
      exact does_value (w' := W) (v := .bool false) (by go_simp) ⟨(), .inr rfl, hS⟩
    · have E44 := hval 2 _ 44 rfl rfl (dep_of hdep 2 (by rfl))
      have E56 := hval 14 _ 56 rfl rfl (dep_of hdep 14 (by rfl))
      unfold vOd5 at E44 E56
      refine g_plain rfl ?_
      exact does_value (w' := W) (v := .bool false) (by go_simp) ⟨(), .inr rfl, hS⟩
  intro gh W8 hb
  clear HH1 HH2 HH3
  replace Na := hid (Na.out.keep hb)
  replace Da := hid (Da.out.keep hb)
  replace Nb := hid (Nb.out.keep hb)
  replace Db := hid (Db.out.keep hb)
  replace F10 := hid (F10.out.keep hb)
  replace G10 := hid (G10.out.keep hb)
  replace K4 := hid (K4.out.keep hb)
  replace K5 := hid (K5.out.keep hb)
  replace K6 := hid (K6.out.keep hb)
  replace K10 := hid (K10.out.keep hb)
  replace HB := hid (HB.out.trans (hb.mono HB.out.size))
  clear hb
  simp only [putAll, vOd5, Nat.reduceAdd, Nat.zero_add, Act.put, List.setIfInBounds_toArray, List.set_cons_zero, List.set_cons_succ]
  obtain ⟨m, hm⟩ : ∃ m, da.length = m := ⟨_, rfl⟩
  have hm30 : m ≤ 30 := by have := La.out.2; omega
  have hms : IntKind.i64.wrap ((m : Int) - 1) = (m : Int) - 1 := IntWalk.i64_in _ (by omega)
  have HM := hid hm
  have c0 := K4.out.cell 0 rfl
  have c1 := K4.out.cell 1 rfl
  rw [hm] at c1
  clear hm
  go_wp2_with fail
  clear c0 c1 hms
  go_loopw [12, 13] (fun v12 v13 wr => ∃ k : Nat, k ≤ m ∧ v13 = .int .i64 ((m : Int) - 1 - (k : Int)) ∧ Hid (OwnD wr W8.heap.size v12 (2 * k) (backI da k)) ∧ Hid (Below W8.heap.size W8 wr)) (fun _ v13 _ => (intOf v13 + 1).toNat)
  case atStart => exact ⟨0, Nat.zero_le _, by simp, hid (by rw [back_zero]; exact OwnD.nil _ _), hid (Below.refl _ _)⟩
  case round =>
    obtain ⟨k, hk, rfl, HO, HW⟩ := hrel
    by_cases hlt : k < m
    · have hge : (0 : Int) ≤ (m : Int) - 1 - (k : Int) := by omega
      obtain ⟨j, hj⟩ : ∃ j : Nat, j = m - 1 - k := ⟨_, rfl⟩
      have hji : (m : Int) - 1 - (k : Int) = (j : Int) := by omega
      have hjm : (j : Int) < (m : Int) := by omega
      have hjs : IntKind.i64.wrap ((j : Int) - 1) = (j : Int) - 1 := IntWalk.i64_in _ (by omega)
      have hnd := Da.out
      rw [HM.out] at hnd
      obtain ⟨b1, o1, x, rfl, hx, hc1, hc2⟩ := hnd.at_ (show j < m by omega)
      have HSTEP := hid (show backI da (k + 1) = backI da k ++ [x, x] from by
        have hl : k < da.length := by rw [HM.out]; exact hlt
        obtain ⟨hx1, hx2⟩ := List.getElem?_eq_some_iff.1 hx
        have e : da.length - 1 - k = j := by rw [HM.out]; exact hj.symm
        rw [back_step hl]
        simp only [e, hx2])
      have HC1 := hid hc1; have HC2 := hid hc2
      have HK4 := hid (K4.out.keep HW.out)
      have HJ := hid hj
      rw [hji]
      rw [hji] at hge
      clear hji hx hc1 hc2 hnd hj
      obtain ⟨A12, c12, rfl, -⟩ := HO.out.nd
      have HWS := hid HW.out.size
      go_wp2_with fail
      refine wp_region_invG 163 (.pointer none) (vOd11 A12 c12 k p4 b1 o1 m ea j x) (RgX W8.heap.size wr (bkF W8.heap.size da k x (.slice A12 (2 * k) c12)) bkK) (by kernel_rfl) (by kernel_rfl) (by exact Nat.le_refl 163) ?_ ?_ ?_
      · exact RgX.start 14 _ (by omega) (fun i hi => bkF_start hi HO.out)
      · intro i o f gh a W hi hf hdep hsame hcl hval hS
        rcases i with _ | _ | _ | _ | _ | _ | _ | _ | _ | _ | _ | _ | _ | _ | i
        all_goals simp only [List.getElem?_cons_succ, List.getElem?_cons_zero, List.getElem?_nil, Option.some.injEq, reduceCtorEq] at hi
        all_goals subst hi
        · have n12 := not_yet hcl hf 12 (by rfl)
          have n13 := not_yet hcl n12 13 (by rfl)
          have E12 : a.tmps[12]? = some (.slice A12 (2 * k) c12) := (same_but hsame 12 13 n13 (by rfl)).trans rfl
          refine g_plain rfl ?_
          exact does_value (w' := W) (v := .slice A12 (2 * k) c12) (by go_simp) ⟨.pointer none, .inr rfl, hS.same 0 _ trivial⟩
        · have E4 : a.tmps[4]? = some (.pointer (some ⟨p4, 0, none⟩)) := (same_of hsame 4 (by rfl)).trans rfl
          refine g_plain rfl ?_
          exact does_value (w' := W) (v := .pointer (some ⟨p4, 1, none⟩)) (by go_simp) ⟨.pointer none, .inr rfl, hS.same 1 _ trivial⟩
        · have E67 := hval 1 _ 67 rfl rfl (dep_of hdep 1 (by rfl))
          unfold vOd11 at E67
          have hb0 := HW.out.trans hS.bel
          have c1 := (K4.out.keep hb0).cell 1 rfl
          rw [HM.out] at c1
          refine g_plain rfl ?_
          exact does_value (w' := W) (v := .slice (some ⟨b1, o1, none⟩) m ea) (by go_simp) ⟨.pointer none, .inr rfl, hS.same 2 _ trivial⟩
        · have E13 : a.tmps[13]? = some (.int .i64 (j : Int)) := (same_of hsame 13 (by rfl)).trans rfl
          refine g_plain rfl ?_
          exact does_value (w' := W) (v := .int .i64 (j : Int)) (by go_simp) ⟨.pointer none, .inr rfl, hS.same 3 _ trivial⟩
        · have E68 := hval 2 _ 68 rfl rfl (dep_of hdep 2 (by rfl))
          have E69 := hval 3 _ 69 rfl rfl (dep_of hdep 3 (by rfl))
          unfold vOd11 at E68 E69
          refine g_plain rfl ?_
          exact does_value (w' := W) (v := .pointer (some ⟨b1, o1 + j * 2, none⟩)) (by go_simp) ⟨.pointer none, .inr rfl, hS.same 4 _ trivial⟩
        · have E70 := hval 4 _ 70 rfl rfl (dep_of hdep 4 (by rfl))
          unfold vOd11 at E70
          refine g_plain rfl ?_
          have hb0 := HW.out.trans hS.bel
          exact does_load_dotAt _ rfl b1 (o1 + j * 2) (by rw [eval_getD, E70]; rfl) (cell_keep HC1.out hb0) (cell_keep HC2.out hb0) ⟨.pointer none, .inr rfl, hS.same 5 _ trivial⟩
        · have E4 : a.tmps[4]? = some (.pointer (some ⟨p4, 0, none⟩)) := (same_of hsame 4 (by rfl)).trans rfl
          refine g_plain rfl ?_
          exact does_value (w' := W) (v := .pointer (some ⟨p4, 1, none⟩)) (by go_simp) ⟨.pointer none, .inr rfl, hS.same 6 _ trivial⟩
        · have E72 := hval 6 _ 72 rfl rfl (dep_of hdep 6 (by rfl))
          unfold vOd11 at E72
          have hb0 := HW.out.trans hS.bel
          have c1 := (K4.out.keep hb0).cell 1 rfl
          rw [HM.out] at c1
          refine g_plain rfl ?_
          exact does_value (w' := W) (v := .slice (some ⟨b1, o1, none⟩) m ea) (by go_simp) ⟨.pointer none, .inr rfl, hS.same 7 _ trivial⟩
        · have E13 : a.tmps[13]? = some (.int .i64 (j : Int)) := (same_of hsame 13 (by rfl)).trans rfl
          refine g_plain rfl ?_
          exact does_value (w' := W) (v := .int .i64 (j : Int)) (by go_simp) ⟨.pointer none, .inr rfl, hS.same 8 _ trivial⟩
        · have E73 := hval 7 _ 73 rfl rfl (dep_of hdep 7 (by rfl))
          have E74 := hval 8 _ 74 rfl rfl (dep_of hdep 8 (by rfl))
          unfold vOd11 at E73 E74
          refine g_plain rfl ?_
          exact does_value (w' := W) (v := .pointer (some ⟨b1, o1 + j * 2, none⟩)) (by go_simp) ⟨.pointer none, .inr rfl, hS.same 9 _ trivial⟩
        · have E75 := hval 9 _ 75 rfl rfl (dep_of hdep 9 (by rfl))
          unfold vOd11 at E75
          refine g_plain rfl ?_
          have hb0 := HW.out.trans hS.bel
          exact does_load_dotAt _ rfl b1 (o1 + j * 2) (by rw [eval_getD, E75]; rfl) (cell_keep HC1.out hb0) (cell_keep HC2.out hb0) ⟨.pointer none, .inr rfl, hS.same 10 _ trivial⟩
        · have E71 := hval 5 _ 71 rfl rfl (dep_of hdep 5 (by rfl))
          have E76 := hval 10 _ 76 rfl rfl (dep_of hdep 10 (by rfl))
          unfold vOd11 at E71 E76
          refine g_plain rfl ?_
          exact does_value (w' := W.alloc (.cells #[.int .i64 x.1, .int .i64 x.2, .int .i64 x.1, .int .i64 x.2] 27)) (v := .slice (some ⟨W.heap.size, 0, none⟩) 2 2) (by unfold dvv at *; go_simp) ⟨_, .inr rfl, hS.step (bkF_grows _ _ _ _ _) 11 _ (below_new W _) (hS.size HWS.out) ⟨_, rfl, lit_nd [x, x] _ rfl (by simp)⟩⟩
        · have E66 := hval 0 _ 66 rfl rfl (dep_of hdep 0 (by rfl))
          have E77 := hval 11 _ 77 rfl rfl (dep_of hdep 11 (by rfl))
          unfold vOd11 at E66 E77
          refine g_plain rfl ?_
          obtain ⟨qq, e, hq⟩ := hS.ok 11 (dep_of hdep 11 (by rfl)) (kill_one hf)
          have ho := hS.ok 1000 (hS.far 1000 (by omega)) (kill_one hf)
          rw [e] at E77
          obtain ⟨v', W', hr, ho2, hg, _⟩ := run_append_dots W 23 _ _ _ _ ho _ 2 2 [x, x] hq (by omega) (hS.size HWS.out)
          exact does_append _ _ _ rfl (by rw [eval_getD, E66]; rfl) (by rw [eval_getD, E77]; rfl) hr ⟨v', .inr rfl, hS.write 12 v' (below_app hg ho (hS.size HWS.out)) (by rw [← HSTEP.out] at ho2; exact ho2) (fun i hi fi hk hF => bkF_write hi (not_yet hcl hf 13 (by rfl)) fi hk hF)⟩
        · have E78 := hval 12 _ 78 rfl rfl (dep_of hdep 12 (by rfl))
          unfold vOd11 at E78
          refine g_plain rfl ?_
          exact does_value (w' := W) (v := gh 12) (by go_simp) ⟨gh 12, .inr rfl, hS.same 13 _ (hS.ok 12 (dep_of hdep 12 (by rfl)) (kill_one hf))⟩
      · intro gh W hS
        have HF := hid (hS.ok 13 rfl kill_none)
        have HW2 := hid (HW.out.trans hS.bel)
        clear hS HO HC1 HC2 HSTEP
        simp only [putAll, vOd11, Nat.reduceAdd, Nat.zero_add, Act.put, List.setIfInBounds_toArray, List.set_cons_zero, List.set_cons_succ]
        generalize gh 13 = v12 at HF ⊢
        go_wp2_with fail
        go_roundw
        case rel => exact ⟨k + 1, hlt, by have := HJ.out; congr 1; omega, HF, HW2⟩
        case measure => simp [intOf]
    · have hkm : m = k := by omega
      subst hkm
      rw [show (m : Int) - 1 - (m : Int) = -1 by omega]
      have hb := HW.out
      replace Na := hid (Na.out.keep hb)
      replace Da := hid (Da.out.keep hb)
      replace Nb := hid (Nb.out.keep hb)
      replace Db := hid (Db.out.keep hb)
      replace F10 := hid (F10.out.keep hb)
      replace G10 := hid (G10.out.keep hb)
      replace K4 := hid (K4.out.keep hb)
      replace K5 := hid (K5.out.keep hb)
      replace K6 := hid (K6.out.keep hb)
      replace K10 := hid (K10.out.keep hb)
      replace HB := hid (HB.out.trans (hb.mono HB.out.size))
      clear hb HW
      obtain ⟨A12, c12, rfl, hc12, hnd12, -⟩ := HO.out.nd
      have F12 : Hid (ND wr A12 (2 * m) (backI da m)) := hnd12
      clear HO hnd12
      have HBK := hid (show makeC va (backI da m) = ((va, da), 0) from by rw [← HM.out]; exact M.out.bk)
      have hc : Calls Try.prog 33 #[.agg #[.slice Aa va.length ca, .slice Ba da.length ea], .slice Aa va.length ca, .slice A12 (2 * m) c12] wr (fun e w' => e = .returned (.bool true) ∧ Below wr.heap.size wr w') := by
        have h := lmakes_calls va.length ca da.length ea va.length ca (2 * m) c12 Aa Ba Aa A12 va va da (backI da m) wr Na.out Da.out Na.out F12.out (by have := La.out.1; omega) (by have := La.out.2; omega) (by have := La.out.1; omega) (by omega) (by rw [HBK.out]; have := La.out.1; show va.length ≤ _; omega) (by rw [HBK.out]; have := La.out.2; show da.length ≤ _; omega)
        rw [HBK.out] at h
        rw [mk_true] at h
        exact h
      have HC := hid hc
      clear hc
      have q0K4 := K4.out.cell 0 rfl
      have q1K4 := K4.out.cell 1 rfl
      go_wp2_with fail
      clear q0K4 q1K4
      refine HC.out.mono ?_
      rintro e W9 ⟨rfl, hb⟩
      clear HC
      replace Na := hid (Na.out.keep hb)
      replace Da := hid (Da.out.keep hb)
      replace Nb := hid (Nb.out.keep hb)
      replace Db := hid (Db.out.keep hb)
      replace F10 := hid (F10.out.keep hb)
      replace G10 := hid (G10.out.keep hb)
      replace F12 := hid (F12.out.keep hb)
      replace K4 := hid (K4.out.keep hb)
      replace K5 := hid (K5.out.keep hb)
      replace K6 := hid (K6.out.keep hb)
      replace K10 := hid (K10.out.keep hb)
      replace HB := hid (HB.out.trans (hb.mono HB.out.size))
      clear hb
      clear F12
      have hwr : IntKind.i64.wrap (1 + r % 16) = q := by rw [IntWalk.i64_in _ (by omega)]; exact HQR.out
      go_wp2_with fail
      refine (pick_calls r 16 W9 (by omega) (by omega)).mono ?_
      rintro e w' ⟨rfl, rfl⟩
      by_cases hf : t = 1048576
      · have HFU := hid (M.out.full hf)
        clear hf
        have hc : Calls Try.prog 15 #[.agg #[.slice Aa va.length ca, .slice Ba da.length ea], .int .i64 q] W9 (fun e w' => e = .returned (.tuple #[.agg #[.int .i64 0, .int .i64 0], .int .i64 10]) ∧ Below W9.heap.size W9 w') := by
          have h := ocNext_calls va.length ca da.length ea Aa Ba va da q W9 Na.out Da.out (by have := La.out.1; omega) (by have := La.out.2; omega) hac
          rw [HFU.out.1] at h
          exact h
        have HC := hid hc
        clear hc
        have q0K4 := K4.out.cell 0 rfl
        have q1K4 := K4.out.cell 1 rfl
        go_wp2_with fail
        clear q0K4 q1K4
        refine HC.out.mono ?_
        rintro e W10 ⟨rfl, hb⟩
        clear HC
        replace Na := hid (Na.out.keep hb)
        replace Da := hid (Da.out.keep hb)
        replace Nb := hid (Nb.out.keep hb)
        replace Db := hid (Db.out.keep hb)
        replace F10 := hid (F10.out.keep hb)
        replace G10 := hid (G10.out.keep hb)
        replace K4 := hid (K4.out.keep hb)
        replace K5 := hid (K5.out.keep hb)
        replace K6 := hid (K6.out.keep hb)
        replace K10 := hid (K10.out.keep hb)
        replace HB := hid (HB.out.trans (hb.mono HB.out.size))
        clear hb
        have hk3 := Blk.new W10 27 #[.int .i64 0, .int .i64 0]
        have HK3 := hid hk3
        have HK4 := hid (hk3.setRow #[.int .i64 0, .int .i64 0])
        have HB4 := hid (show Below W10.heap.size W10 ((W10.alloc (.cells #[.int .i64 0, .int .i64 0] 27)).setRow W10.heap.size #[.int .i64 0, .int .i64 0]) from (below_new _ _).trans (below_of_grown (grown_setRow _ _ _) (by rw [size_new]; omega) (fun g e => by cases e; exact Nat.le_refl _)))
        clear hk3
        go_wp2_with (refine wpList_store_blk rfl _ _ _ rfl W10.heap.size #[.int .i64 0, .int .i64 0] rfl rfl _ _ HK3.out (by kernel_rfl) rfl (by rfl) ?_; refine Held.go ?_)
        unfold Held
        obtain ⟨W11, hW4⟩ : ∃ WX, WX = (W10.alloc (.cells #[.int .i64 0, .int .i64 0] 27)).setRow W10.heap.size #[.int .i64 0, .int .i64 0] := ⟨_, rfl⟩
        rw [← hW4] at HK4 HB4 ⊢
        clear hW4 HK3
        obtain ⟨g14, hg⟩ : ∃ g, W10.heap.size = g := ⟨_, rfl⟩
        rw [hg] at HK4 ⊢
        clear hg
        have hb := HB4.out
        clear HB4
        replace Na := hid (Na.out.keep hb)
        replace Da := hid (Da.out.keep hb)
        replace Nb := hid (Nb.out.keep hb)
        replace Db := hid (Db.out.keep hb)
        replace F10 := hid (F10.out.keep hb)
        replace G10 := hid (G10.out.keep hb)
        replace K4 := hid (K4.out.keep hb)
        replace K5 := hid (K5.out.keep hb)
        replace K6 := hid (K6.out.keep hb)
        replace K10 := hid (K10.out.keep hb)
        replace HB := hid (HB.out.trans (hb.mono HB.out.size))
        clear hb
        have K14 := HK4
        clear HK4
        have HH4 := hid (fun (W : World) (hb : Below W11.heap.size W11 W) => show Calls Try.prog 20 #[.agg #[.slice Aa va.length ca, .slice Ba da.length ea], .agg #[.int .i64 q, .int .i64 1048576]] W _ from ocHas_calls va.length ca da.length ea Aa Ba va da (q, 1048576) W (Na.out.keep hb) (Da.out.keep hb) (by have := La.out.1; omega) (by have := La.out.2; omega) hac)
        rw [HFU.out.2] at HH4
        go_wp2_with fail
        refine wp_region_invG 163 () (vOd17 Aa ca Ba ea va da q) (fun _ _ W => Below W11.heap.size W11 W) (by kernel_rfl) (by kernel_rfl) (by exact Nat.le_refl 163) ?_ ?_ ?_
        · exact (Below.refl _ _).drew
        · intro i o f gh a W hi hf hdep hsame hcl hval hS
          rcases i with _ | _ | _ | _ | _ | _ | _ | _ | _ | _ | _ | _ | i
          all_goals simp only [List.getElem?_cons_succ, List.getElem?_cons_zero, List.getElem?_nil, Option.some.injEq, reduceCtorEq] at hi
          all_goals subst hi
          · have E9 : a.tmps[9]? = some (.bool true) := (same_of hsame 9 (by rfl)).trans rfl
            refine g_plain rfl ?_
            exact does_value (w' := W) (v := .bool true) (by go_simp) ⟨(), .inr rfl, hS⟩
          · have E96 := hval 0 _ 96 rfl rfl (dep_of hdep 0 (by rfl))
            unfold vOd17 at E96
            refine g_plain rfl ?_
            exact does_value (w' := W) (v := .bool true) (by go_simp) ⟨(), .inr rfl, hS⟩
          · have EG := hval 1 _ 97 rfl rfl (dep_of hdep 1 (by rfl))
            have E15 : a.tmps[15]? = some (.int .i64 10) := (same_of hsame 15 (by rfl)).trans rfl
            unfold vOd17 at EG
            refine g_want rfl rfl rfl EG ?_
            exact does_value (w' := W) (v := .int .i64 10) (by go_simp) ⟨(), .inr rfl, hS⟩
          · have EG := hval 1 _ 97 rfl rfl (dep_of hdep 1 (by rfl))
            have E98 := hval 2 _ 98 rfl rfl (dep_of hdep 2 (by rfl))
            unfold vOd17 at EG E98
            refine g_want rfl rfl rfl EG ?_
            exact does_value (w' := W) (v := .bool true) (by go_simp) ⟨(), .inr rfl, hS⟩
          · have E97 := hval 1 _ 97 rfl rfl (dep_of hdep 1 (by rfl))
            have E99 := hval 3 _ 99 rfl rfl (dep_of hdep 3 (by rfl))
            unfold vOd17 at E97 E99
            refine g_plain rfl ?_
            exact does_value (w' := W) (v := .bool true) (by go_simp) ⟨(), .inr rfl, hS⟩
          · have E100 := hval 4 _ 100 rfl rfl (dep_of hdep 4 (by rfl))
            unfold vOd17 at E100
            refine g_plain rfl ?_
            exact does_value (w' := W) (v := .bool true) (by go_simp) ⟨(), .inr rfl, hS⟩
          · have EG := hval 5 _ 101 rfl rfl (dep_of hdep 5 (by rfl))
            have E4 : a.tmps[4]? = some (.pointer (some ⟨p4, 0, none⟩)) := (same_of hsame 4 (by rfl)).trans rfl
            unfold vOd17 at EG
            refine g_want rfl rfl rfl EG ?_
            exact does_load_cloud _ rfl p4 rfl (by rw [eval_getD, E4]; rfl) (K4.out.keep hS) ⟨(), .inr rfl, hS⟩
          · have EG := hval 5 _ 101 rfl rfl (dep_of hdep 5 (by rfl))
            have E3 : a.tmps[3]? = some (.int .i64 q) := (same_of hsame 3 (by rfl)).trans rfl
            unfold vOd17 at EG
            refine g_want rfl rfl rfl EG ?_
            exact does_value (w' := W) (v := .int .i64 q) (by go_simp) ⟨(), .inr rfl, hS⟩
          · have EG := hval 5 _ 101 rfl rfl (dep_of hdep 5 (by rfl))
            have E103 := hval 7 _ 103 rfl rfl (dep_of hdep 7 (by rfl))
            unfold vOd17 at EG E103
            refine g_want rfl rfl rfl EG ?_
            refine does_call 32 #[.int .i64 q, .int .i64 1048576] (by go_simp) ((lat_calls q 1048576 W).mono ?_)
            rintro e w' ⟨rfl, hb⟩
            exact ⟨.agg #[.int .i64 q, .int .i64 1048576], rfl, (), .inr rfl, hS.trans (hb.mono hS.size)⟩
          · have EG := hval 5 _ 101 rfl rfl (dep_of hdep 5 (by rfl))
            have E102 := hval 6 _ 102 rfl rfl (dep_of hdep 6 (by rfl))
            have E104 := hval 8 _ 104 rfl rfl (dep_of hdep 8 (by rfl))
            unfold vOd17 at EG E102 E104
            refine g_want rfl rfl rfl EG ?_
            refine does_call 20 #[.agg #[.slice Aa va.length ca, .slice Ba da.length ea], .agg #[.int .i64 q, .int .i64 1048576]] (by go_simp) ((HH4.out W hS).mono ?_)
            rintro e w' ⟨rfl, hb⟩
            exact ⟨.bool true, rfl, (), .inr rfl, hS.trans (hb.mono hS.size)⟩
          · have E101 := hval 5 _ 101 rfl rfl (dep_of hdep 5 (by rfl))
            have E105 := hval 9 _ 105 rfl rfl (dep_of hdep 9 (by rfl))
            unfold vOd17 at E101 E105
            refine g_plain rfl ?_
            exact does_value (w' := W) (v := .bool true) (by go_simp) ⟨(), .inr rfl, hS⟩
          · have E106 := hval 10 _ 106 rfl rfl (dep_of hdep 10 (by rfl))
            unfold vOd17 at E106
            refine g_plain rfl ?_
            exact does_value (w' := W) (v := .bool true) (by go_simp) ⟨(), .inr rfl, hS⟩
        intro gh W12 hb
        clear HH4
        replace Na := hid (Na.out.keep hb)
        replace Da := hid (Da.out.keep hb)
        replace Nb := hid (Nb.out.keep hb)
        replace Db := hid (Db.out.keep hb)
        replace F10 := hid (F10.out.keep hb)
        replace G10 := hid (G10.out.keep hb)
        replace K4 := hid (K4.out.keep hb)
        replace K5 := hid (K5.out.keep hb)
        replace K6 := hid (K6.out.keep hb)
        replace K10 := hid (K10.out.keep hb)
        replace K14 := hid (K14.out.keep hb)
        replace HB := hid (HB.out.trans (hb.mono HB.out.size))
        clear hb
        simp only [putAll, vOd17, Nat.reduceAdd, Nat.zero_add, Act.put, List.setIfInBounds_toArray, List.set_cons_zero, List.set_cons_succ]
        go_wp2_with fail
        go_ret
        exact ⟨rfl, HB.out⟩
      · have HNE := hid (M.out.next hf)
        have hc : Calls Try.prog 15 #[.agg #[.slice Aa va.length ca, .slice Ba da.length ea], .int .i64 q] W9 (fun e w' => e = .returned (.tuple #[.agg #[.int .i64 q, .int .i64 (t + 1)], .int .i64 0]) ∧ Below W9.heap.size W9 w') := by
          have h := ocNext_calls va.length ca da.length ea Aa Ba va da q W9 Na.out Da.out (by have := La.out.1; omega) (by have := La.out.2; omega) hac
          rw [HNE.out.1] at h
          exact h
        have HC := hid hc
        clear hc
        have q0K4 := K4.out.cell 0 rfl
        have q1K4 := K4.out.cell 1 rfl
        go_wp2_with fail
        clear q0K4 q1K4
        refine HC.out.mono ?_
        rintro e W10 ⟨rfl, hb⟩
        clear HC
        replace Na := hid (Na.out.keep hb)
        replace Da := hid (Da.out.keep hb)
        replace Nb := hid (Nb.out.keep hb)
        replace Db := hid (Db.out.keep hb)
        replace F10 := hid (F10.out.keep hb)
        replace G10 := hid (G10.out.keep hb)
        replace K4 := hid (K4.out.keep hb)
        replace K5 := hid (K5.out.keep hb)
        replace K6 := hid (K6.out.keep hb)
        replace K10 := hid (K10.out.keep hb)
        replace HB := hid (HB.out.trans (hb.mono HB.out.size))
        clear hb
        have hk3 := Blk.new W10 27 #[.int .i64 0, .int .i64 0]
        have HK3 := hid hk3
        have HK4 := hid (hk3.setRow #[.int .i64 q, .int .i64 (t + 1)])
        have HB4 := hid (show Below W10.heap.size W10 ((W10.alloc (.cells #[.int .i64 0, .int .i64 0] 27)).setRow W10.heap.size #[.int .i64 q, .int .i64 (t + 1)]) from (below_new _ _).trans (below_of_grown (grown_setRow _ _ _) (by rw [size_new]; omega) (fun g e => by cases e; exact Nat.le_refl _)))
        clear hk3
        go_wp2_with (refine wpList_store_blk rfl _ _ _ rfl W10.heap.size #[.int .i64 q, .int .i64 (t + 1)] rfl rfl _ _ HK3.out (by kernel_rfl) rfl (by rfl) ?_; refine Held.go ?_)
        unfold Held
        obtain ⟨W11, hW4⟩ : ∃ WX, WX = (W10.alloc (.cells #[.int .i64 0, .int .i64 0] 27)).setRow W10.heap.size #[.int .i64 q, .int .i64 (t + 1)] := ⟨_, rfl⟩
        rw [← hW4] at HK4 HB4 ⊢
        clear hW4 HK3
        obtain ⟨g14, hg⟩ : ∃ g, W10.heap.size = g := ⟨_, rfl⟩
        rw [hg] at HK4 ⊢
        clear hg
        have hb := HB4.out
        clear HB4
        replace Na := hid (Na.out.keep hb)
        replace Da := hid (Da.out.keep hb)
        replace Nb := hid (Nb.out.keep hb)
        replace Db := hid (Db.out.keep hb)
        replace F10 := hid (F10.out.keep hb)
        replace G10 := hid (G10.out.keep hb)
        replace K4 := hid (K4.out.keep hb)
        replace K5 := hid (K5.out.keep hb)
        replace K6 := hid (K6.out.keep hb)
        replace K10 := hid (K10.out.keep hb)
        replace HB := hid (HB.out.trans (hb.mono HB.out.size))
        clear hb
        have K14 := HK4
        clear HK4
        go_wp2_with fail
        refine wp_region_invG 163 (.pointer none) (vOd18 p4 Aa ca Ba ea va da q t) (RgY W11.heap.size W11 (mkF W11.heap.size da (q, t + 1) vm dm) mkK 13 12 10 (mkG W11.heap.size vm dm)) (by kernel_rfl) (by kernel_rfl) (by exact Nat.le_refl 163) ?_ ?_ ?_
        · exact RgY.start 15 _ (by omega) (by decide) (fun i hi => mkF_start hi)
        · intro i o f gh a W hi hf hdep hsame hcl hval hS
          rcases i with _ | _ | _ | _ | _ | _ | _ | _ | _ | _ | _ | _ | _ | _ | _ | i
          all_goals simp only [List.getElem?_cons_succ, List.getElem?_cons_zero, List.getElem?_nil, Option.some.injEq, reduceCtorEq] at hi
          all_goals subst hi
          · have E4 : a.tmps[4]? = some (.pointer (some ⟨p4, 0, none⟩)) := (same_of hsame 4 (by rfl)).trans rfl
            refine g_plain rfl ?_
            exact does_value (w' := W) (v := .pointer (some ⟨p4, 0, none⟩)) (by go_simp) ⟨.pointer none, .inr rfl, hS.same 0 _ trivial (by decide) (.inl ⟨by decide, by decide⟩)⟩
          · have E108 := hval 0 _ 108 rfl rfl (dep_of hdep 0 (by rfl))
            unfold vOd18 at E108
            have kp := K4.out.keep hS.x.bel
            have c0 := kp.cell 0 rfl
            have c1 := kp.cell 1 rfl
            refine g_plain rfl ?_
            exact does_value (w' := W) (v := .slice Aa va.length ca) (by go_simp) ⟨.pointer none, .inr rfl, hS.same 1 _ trivial (by decide) (.inl ⟨by decide, by decide⟩)⟩
          · have E4 : a.tmps[4]? = some (.pointer (some ⟨p4, 0, none⟩)) := (same_of hsame 4 (by rfl)).trans rfl
            refine g_plain rfl ?_
            exact does_value (w' := W) (v := .pointer (some ⟨p4, 1, none⟩)) (by go_simp) ⟨.pointer none, .inr rfl, hS.same 2 _ trivial (by decide) (.inl ⟨by decide, by decide⟩)⟩
          · have E110 := hval 2 _ 110 rfl rfl (dep_of hdep 2 (by rfl))
            unfold vOd18 at E110
            have kp := K4.out.keep hS.x.bel
            have c0 := kp.cell 0 rfl
            have c1 := kp.cell 1 rfl
            refine g_plain rfl ?_
            exact does_value (w' := W) (v := .slice Ba da.length ea) (by go_simp) ⟨.pointer none, .inr rfl, hS.same 3 _ trivial (by decide) (.inl ⟨by decide, by decide⟩)⟩
          · have E111 := hval 3 _ 111 rfl rfl (dep_of hdep 3 (by rfl))
            unfold vOd18 at E111
            refine g_plain rfl ?_
            refine does_call 11 #[.slice Ba da.length ea] (by go_simp) ((copyD_calls da.length ea Ba da W (Da.out.keep hS.x.bel) (by have := La.out.2; omega)).mono ?_)
            rintro e w' ⟨v, rfl, ho, hb⟩
            exact ⟨_, rfl, v, .inr rfl, hS.step (mkF_grows _ _ _ _ _) (mkG_grows _ _ _) 4 v hb (hS.x.size (Nat.le_refl _)) (ho.lower (hS.x.size (Nat.le_refl _))) (by decide) (.inl ⟨by decide, by decide⟩)⟩
          · have E14 : a.tmps[14]? = some (.pointer (some ⟨g14, 0, none⟩)) := (same_of hsame 14 (by rfl)).trans rfl
            refine g_plain rfl ?_
            exact does_load_dotB _ rfl g14 (by rw [eval_getD, E14]; rfl) (d := (q, t + 1)) (K14.out.keep hS.x.bel) ⟨.pointer none, .inr rfl, hS.same 5 _ trivial (by decide) (.inl ⟨by decide, by decide⟩)⟩
          · have E113 := hval 5 _ 113 rfl rfl (dep_of hdep 5 (by rfl))
            unfold vOd18 at E113
            refine g_plain rfl ?_
            exact does_value (w' := W.alloc (.cells #[.int .i64 q, .int .i64 (t + 1)] 27)) (v := .slice (some ⟨W.heap.size, 0, none⟩) 1 1) (by go_simp) ⟨_, .inr rfl, hS.step (mkF_grows _ _ _ _ _) (mkG_grows _ _ _) 6 _ (below_new W _) (hS.x.size (Nat.le_refl _)) ⟨_, rfl, lit_nd [(q, t + 1)] _ rfl (by simp)⟩ (by decide) (.inl ⟨by decide, by decide⟩)⟩
          · have E112 := hval 4 _ 112 rfl rfl (dep_of hdep 4 (by rfl))
            have E114 := hval 6 _ 114 rfl rfl (dep_of hdep 6 (by rfl))
            unfold vOd18 at E112 E114
            refine g_plain rfl ?_
            obtain ⟨qq, e, hq⟩ := hS.x.ok 6 (dep_of hdep 6 (by rfl)) (kill_one hf)
            have ho := hS.x.ok 4 (dep_of hdep 4 (by rfl)) (kill_one hf)
            rw [e] at E114
            have n8 := not_yet hcl hf 8 (by rfl)
            have n9 := not_yet hcl n8 9 (by rfl)
            have n10 := not_yet hcl n9 10 (by rfl)
            have n13 := not_yet hcl n10 13 (by rfl)
            obtain ⟨v', W', hr, ho2, hg, _⟩ := run_append_dots W 23 _ _ _ _ ho _ 1 1 [(q, t + 1)] hq (by have := La.out.2; omega) (hS.x.size (Nat.le_refl _))
            have hle := below_app hg ho (hS.x.size (Nat.le_refl _))
            exact does_append _ _ _ rfl (by rw [eval_getD, E112]; rfl) (by rw [eval_getD, E114]; rfl) hr ⟨v', .inr rfl, hS.write 7 v' hle ho2 (fun i hi fi hk hF => mkF_app hi n8 n9 n10 fi hk hg (fun p cs kb e => by obtain ⟨_, h9⟩ := ho.blk e; exact blk_ne h9 kb (by decide) rfl) hF) (by decide) n13⟩
          · have E109 := hval 1 _ 109 rfl rfl (dep_of hdep 1 (by rfl))
            have E115 := hval 7 _ 115 rfl rfl (dep_of hdep 7 (by rfl))
            unfold vOd18 at E109 E115
            refine g_plain rfl ?_
            obtain ⟨A7, c7, e, _, hn7, _⟩ := OwnD.nd (hS.x.ok 7 (dep_of hdep 7 (by rfl)) kill_none)
            rw [e] at E115
            refine does_call 13 #[.slice Aa va.length ca, .slice A7 (da.length + 1) c7] (by go_simp) ((ocMake_calls va.length ca (da.length + 1) c7 Aa A7 va (da ++ [(q, t + 1)]) W (Na.out.keep hS.x.bel) hn7 (by have := La.out.1; omega) (by have := La.out.2; omega)).mono ?_)
            rintro e w' ⟨V, D, rfl, h1, h2, h3, hb⟩
            rw [HNE.out.2.2.1] at h1 h2 ⊢
            exact ⟨_, rfl, _, .inr rfl, hS.step (mkF_grows _ _ _ _ _) (mkG_grows _ _ _) 8 _ hb (hS.x.size (Nat.le_refl _)) ⟨V, D, rfl, h1.lower (hS.x.size (Nat.le_refl _)), h2.lower (hS.x.size (Nat.le_refl _)), h3⟩ (by decide) (.inl ⟨by decide, by decide⟩)⟩
          · have E116 := hval 8 _ 116 rfl rfl (dep_of hdep 8 (by rfl))
            unfold vOd18 at E116
            refine g_plain rfl ?_
            exact does_value (w' := W) (v := gh 8) (by go_simp) ⟨gh 8, .inr rfl, hS.same 9 _ (hS.x.ok 8 (dep_of hdep 8 (by rfl)) kill_none) (by decide) (.inl ⟨by decide, by decide⟩)⟩
          · have E107 := hval 9 _ 107 rfl rfl (dep_of hdep 9 (by rfl))
            unfold vOd18 at E107
            refine g_plain rfl ?_
            have n13 := not_yet hcl hf 13 (by rfl)
            obtain ⟨V, D, e, hc⟩ := hS.x.ok 9 (dep_of hdep 9 (by rfl)) kill_none
            rw [e] at E107
            exact does_value (w' := W) (v := .agg #[V, D]) (by go_simp) ⟨_, .inr rfl, hS.same 10 _ ⟨V, D, rfl, hc⟩ (by decide) (.inr n13)⟩
          · have E107 := hval 9 _ 107 rfl rfl (dep_of hdep 9 (by rfl))
            unfold vOd18 at E107
            refine g_plain rfl ?_
            obtain ⟨V, D, e, hc⟩ := hS.x.ok 9 (dep_of hdep 9 (by rfl)) kill_none
            rw [e] at E107
            exact does_value (w' := W) (v := .int .i64 0) (by go_simp) ⟨.pointer none, .inr rfl, hS.same 11 _ trivial (by decide) (.inl ⟨by decide, by decide⟩)⟩
          · refine g_plain rfl ?_
            have n13 := not_yet hcl hf 13 (by rfl)
            exact does_value (w' := W.alloc (.cells #[.slice none 0 0, .slice none 0 0] 25)) (v := .pointer (some ⟨W.heap.size, 0, none⟩)) (by go_simp) ⟨_, .inr rfl, hS.step (mkF_grows _ _ _ _ _) (mkG_grows _ _ _) 12 _ (below_new W _) (hS.x.size (Nat.le_refl _)) ⟨_, rfl, (hS.x.size (Nat.le_refl _)), Blk.new W _ _⟩ (by decide) (.inr n13)⟩
          · have E16 := hval 12 _ 16 rfl rfl (dep_of hdep 12 (by rfl))
            have E117 := hval 10 _ 117 rfl rfl (dep_of hdep 10 (by rfl))
            unfold vOd18 at E16 E117
            refine g_plain rfl ?_
            obtain ⟨qq, e12, hqs, hqb⟩ := hS.x.ok 12 (dep_of hdep 12 (by rfl)) (kill_one hf)
            obtain ⟨V, D, e10, hc⟩ := hS.x.ok 10 (dep_of hdep 10 (by rfl)) kill_none
            rw [e12] at E16
            rw [e10] at E117
            have hgr := grown_setRow W qq #[V, D]
            have h9 := done_of hcl (dep_of hdep 10 (by rfl)) 9 (by rfl)
            have h8 := done_of hcl h9 8 (by rfl)
            have h7 := done_of hcl h8 7 (by rfl)
            obtain ⟨AV, cV, eV, _⟩ := hc.1.ni
            obtain ⟨AD, cD, eD, _⟩ := hc.2.1.nd
            have hc2 := clo_store hc hqb #[V, D]
            have h1c : (#[V, D] : Array Value).toList.all (·.oneCell') = true := by rw [eV, eD]; rfl
            have hle : Below W11.heap.size W (W.setRow qq #[V, D]) := below_of_grown hgr (hS.x.size (Nat.le_refl _)) (fun g e => by injection e with e; omega)
            exact doc_store 25 _ _ rfl qq #[V, D] (by rw [eval_getD, E16]; rfl) (by rw [eval_getD, E117]; rfl) 25 _ hqb (by kernel_rfl) rfl h1c ⟨.pointer none, .inl rfl, hS.last (.pointer none) hle trivial (fun i hi fi hk hF => mkF_store hqb h7 hk hF) (by decide) (by decide) ⟨qq, V, D, e12, e10, hqb.setRow _, hc2⟩⟩
          · have E118 := hval 11 _ 118 rfl rfl (dep_of hdep 11 (by rfl))
            unfold vOd18 at E118
            refine g_plain rfl ?_
            exact does_value (w' := W) (v := .int .i64 0) (by go_simp) ⟨.pointer none, .inr rfl, hS.same 14 _ trivial (by decide) (.inl ⟨by decide, by decide⟩)⟩
        intro gh W12 hS
        obtain ⟨g16, V16, D16, e12, e10, hk16, ho1, ho2, -⟩ := hS.fin rfl
        have hb := hS.x.bel
        clear hS
        simp only [putAll, vOd18, Nat.reduceAdd, Nat.zero_add, Act.put, List.setIfInBounds_toArray, List.set_cons_zero, List.set_cons_succ]
        rw [e12, e10]
        clear e12 e10
        generalize gh 4 = y4; generalize gh 6 = y6; generalize gh 7 = y7; generalize gh 8 = y8; generalize gh 9 = y9
        replace Na := hid (Na.out.keep hb)
        replace Da := hid (Da.out.keep hb)
        replace Nb := hid (Nb.out.keep hb)
        replace Db := hid (Db.out.keep hb)
        replace F10 := hid (F10.out.keep hb)
        replace G10 := hid (G10.out.keep hb)
        replace K4 := hid (K4.out.keep hb)
        replace K5 := hid (K5.out.keep hb)
        replace K6 := hid (K6.out.keep hb)
        replace K10 := hid (K10.out.keep hb)
        replace K14 := hid (K14.out.keep hb)
        replace HB := hid (HB.out.trans (hb.mono HB.out.size))
        clear hb
        obtain ⟨A16, c16, rfl, ll, hf, -⟩ := ho1.ni
        obtain ⟨B16, e16, rfl, kk, hg, -⟩ := ho2.nd
        have l16 := hid ll; have k16 := hid kk
        clear ll kk
        have F16 : Hid (NI W12 A16 vm.length vm) := hf
        have G16 : Hid (ND W12 B16 dm.length dm) := hg
        clear ho1 ho2 hf hg
        have K16 := hid hk16
        clear hk16
        have HH5 := hid (fun (W : World) (hb : Below W12.heap.size W12 W) => show Calls Try.prog 20 #[.agg #[.slice Aa va.length ca, .slice Ba da.length ea], .agg #[.int .i64 q, .int .i64 (t + 1)]] W _ from ocHas_calls va.length ca da.length ea Aa Ba va da (q, (t + 1)) W (Na.out.keep hb) (Da.out.keep hb) (by have := La.out.1; omega) (by have := La.out.2; omega) hac)
        rw [HNE.out.2.1] at HH5
        have HH7 := hid (fun (W : World) (hb : Below W12.heap.size W12 W) => show Calls Try.prog 20 #[.agg #[.slice A16 vm.length c16, .slice B16 dm.length e16], .agg #[.int .i64 q, .int .i64 (t + 1)]] W _ from ocHas_calls vm.length c16 dm.length e16 A16 B16 vm dm (q, (t + 1)) W (F16.out.keep hb) (G16.out.keep hb) (by have := M.out.lm; omega) (by have := M.out.mm; omega) l16.out)
        rw [HNE.out.2.2.2.1] at HH7
        have HC1 := hid (fun (W : World) (hb : Below W12.heap.size W12 W) => show Calls Try.prog 22 #[.agg #[.slice A16 vm.length c16, .slice B16 dm.length e16]] W _ from ocCount_calls vm.length c16 dm.length e16 A16 B16 vm dm W (F16.out.keep hb) (G16.out.keep hb) (by have := M.out.lm; omega) (by have := M.out.mm; omega) l16.out)
        rw [HNE.out.2.2.2.2] at HC1
        have HC2 := hid (fun (W : World) (hb : Below W12.heap.size W12 W) => show Calls Try.prog 22 #[.agg #[.slice Aa va.length ca, .slice Ba da.length ea]] W _ from ocCount_calls va.length ca da.length ea Aa Ba va da W (Na.out.keep hb) (Da.out.keep hb) (by have := La.out.1; omega) (by have := La.out.2; omega) hac)
        rw [M.out.cnt] at HC2
        have hcs : IntKind.i64.wrap (cn + 1) = cn + 1 := IntWalk.i64_in _ (by have := M.out.c0; have := M.out.c1; omega)
        have htz : IntKind.i64.wrap t = t := IntWalk.i64_in _ (by have := M.out.t0; have := M.out.t1; omega)
        by_cases hz : t = 0
        · have h1 : ((t + 1 : Int) == 1) = true := by simp [hz]
          clear hz
          go_wp2_with fail
          refine wp_region_invG 163 () (vOd19a Aa ca Ba ea va da q t g14 A16 c16 B16 e16 vm dm cn) (fun _ _ W => Below W12.heap.size W12 W) (by kernel_rfl) (by kernel_rfl) (by exact Nat.le_refl 163) ?_ ?_ ?_
          · exact (Below.refl _ _).drew
          · intro i o f gh a W hi hf hdep hsame hcl hval hS
            rcases i with _ | _ | _ | _ | _ | _ | _ | _ | _ | _ | _ | _ | _ | _ | _ | _ | _ | _ | _ | _ | _ | _ | _ | _ | _ | _ | _ | _ | _ | _ | _ | _ | _ | _ | _ | _ | _ | _ | _ | _ | _ | _ | _ | _ | _ | i
            all_goals simp only [List.getElem?_cons_succ, List.getElem?_cons_zero, List.getElem?_nil, Option.some.injEq, reduceCtorEq] at hi
            all_goals subst hi
            · have E9 : a.tmps[9]? = some (.bool true) := (same_of hsame 9 (by rfl)).trans rfl
              refine g_plain rfl ?_
              exact does_value (w' := W) (v := .bool true) (by go_simp) ⟨(), .inr rfl, hS⟩
            · have E119 := hval 0 _ 119 rfl rfl (dep_of hdep 0 (by rfl))
              unfold vOd19a at E119
              refine g_plain rfl ?_
              exact does_value (w' := W) (v := .bool true) (by go_simp) ⟨(), .inr rfl, hS⟩
            · have EG := hval 1 _ 120 rfl rfl (dep_of hdep 1 (by rfl))
              have E4 : a.tmps[4]? = some (.pointer (some ⟨p4, 0, none⟩)) := (same_of hsame 4 (by rfl)).trans rfl
              unfold vOd19a at EG
              refine g_want rfl rfl rfl EG ?_
              exact does_load_cloud _ rfl p4 rfl (by rw [eval_getD, E4]; rfl) (K4.out.keep hS) ⟨(), .inr rfl, hS⟩
            · have EG := hval 1 _ 120 rfl rfl (dep_of hdep 1 (by rfl))
              have E14 : a.tmps[14]? = some (.pointer (some ⟨g14, 0, none⟩)) := (same_of hsame 14 (by rfl)).trans rfl
              unfold vOd19a at EG
              refine g_want rfl rfl rfl EG ?_
              exact does_load_dotB _ rfl g14 (by rw [eval_getD, E14]; rfl) (d := (q, (t + 1))) (K14.out.keep hS) ⟨(), .inr rfl, hS⟩
            · have EG := hval 1 _ 120 rfl rfl (dep_of hdep 1 (by rfl))
              have E121 := hval 2 _ 121 rfl rfl (dep_of hdep 2 (by rfl))
              have E122 := hval 3 _ 122 rfl rfl (dep_of hdep 3 (by rfl))
              unfold vOd19a at EG E121 E122
              refine g_want rfl rfl rfl EG ?_
              refine does_call 20 #[.agg #[.slice Aa va.length ca, .slice Ba da.length ea], .agg #[.int .i64 q, .int .i64 (t + 1)]] (by go_simp) ((HH5.out W hS).mono ?_)
              rintro e w' ⟨rfl, hb⟩
              exact ⟨.bool false, rfl, (), .inr rfl, hS.trans (hb.mono hS.size)⟩
            · have EG := hval 1 _ 120 rfl rfl (dep_of hdep 1 (by rfl))
              have E123 := hval 4 _ 123 rfl rfl (dep_of hdep 4 (by rfl))
              unfold vOd19a at EG E123
              refine g_want rfl rfl rfl EG ?_
              exact does_value (w' := W) (v := .bool true) (by go_simp) ⟨(), .inr rfl, hS⟩
            · have E120 := hval 1 _ 120 rfl rfl (dep_of hdep 1 (by rfl))
              have E124 := hval 5 _ 124 rfl rfl (dep_of hdep 5 (by rfl))
              unfold vOd19a at E120 E124
              refine g_plain rfl ?_
              exact does_value (w' := W) (v := .bool true) (by go_simp) ⟨(), .inr rfl, hS⟩
            · have E125 := hval 6 _ 125 rfl rfl (dep_of hdep 6 (by rfl))
              unfold vOd19a at E125
              refine g_plain rfl ?_
              exact does_value (w' := W) (v := .bool true) (by go_simp) ⟨(), .inr rfl, hS⟩
            · have EG := hval 7 _ 126 rfl rfl (dep_of hdep 7 (by rfl))
              have E14 : a.tmps[14]? = some (.pointer (some ⟨g14, 0, none⟩)) := (same_of hsame 14 (by rfl)).trans rfl
              unfold vOd19a at EG
              refine g_want rfl rfl rfl EG ?_
              exact does_value (w' := W) (v := .pointer (some ⟨g14, 0, none⟩)) (by go_simp) ⟨(), .inr rfl, hS⟩
            · have EG := hval 7 _ 126 rfl rfl (dep_of hdep 7 (by rfl))
              have E127 := hval 8 _ 127 rfl rfl (dep_of hdep 8 (by rfl))
              unfold vOd19a at EG E127
              have kp := K14.out.keep hS
              have c0 := kp.cell 0 rfl
              have c1 := kp.cell 1 rfl
              refine g_want rfl rfl rfl EG ?_
              exact does_value (w' := W) (v := .int .i64 q) (by go_simp) ⟨(), .inr rfl, hS⟩
            · have EG := hval 7 _ 126 rfl rfl (dep_of hdep 7 (by rfl))
              have E3 : a.tmps[3]? = some (.int .i64 q) := (same_of hsame 3 (by rfl)).trans rfl
              unfold vOd19a at EG
              refine g_want rfl rfl rfl EG ?_
              exact does_value (w' := W) (v := .int .i64 q) (by go_simp) ⟨(), .inr rfl, hS⟩
            · have EG := hval 7 _ 126 rfl rfl (dep_of hdep 7 (by rfl))
              have E128 := hval 9 _ 128 rfl rfl (dep_of hdep 9 (by rfl))
              have E129 := hval 10 _ 129 rfl rfl (dep_of hdep 10 (by rfl))
              unfold vOd19a at EG E128 E129
              refine g_want rfl rfl rfl EG ?_
              exact does_value (w' := W) (v := .bool true) (by go_simp) ⟨(), .inr rfl, hS⟩
            · have E126 := hval 7 _ 126 rfl rfl (dep_of hdep 7 (by rfl))
              have E130 := hval 11 _ 130 rfl rfl (dep_of hdep 11 (by rfl))
              unfold vOd19a at E126 E130
              refine g_plain rfl ?_
              exact does_value (w' := W) (v := .bool true) (by go_simp) ⟨(), .inr rfl, hS⟩
            · have E131 := hval 12 _ 131 rfl rfl (dep_of hdep 12 (by rfl))
              unfold vOd19a at E131
              refine g_plain rfl ?_
              exact does_value (w' := W) (v := .bool true) (by go_simp) ⟨(), .inr rfl, hS⟩
            · have EG := hval 13 _ 132 rfl rfl (dep_of hdep 13 (by rfl))
              have E14 : a.tmps[14]? = some (.pointer (some ⟨g14, 0, none⟩)) := (same_of hsame 14 (by rfl)).trans rfl
              unfold vOd19a at EG
              refine g_want rfl rfl rfl EG ?_
              exact does_value (w' := W) (v := .pointer (some ⟨g14, 1, none⟩)) (by go_simp) ⟨(), .inr rfl, hS⟩
            · have EG := hval 13 _ 132 rfl rfl (dep_of hdep 13 (by rfl))
              have E133 := hval 14 _ 133 rfl rfl (dep_of hdep 14 (by rfl))
              unfold vOd19a at EG E133
              have kp := K14.out.keep hS
              have c0 := kp.cell 0 rfl
              have c1 := kp.cell 1 rfl
              refine g_want rfl rfl rfl EG ?_
              exact does_value (w' := W) (v := .int .i64 (t + 1)) (by go_simp) ⟨(), .inr rfl, hS⟩
            · have EG := hval 13 _ 132 rfl rfl (dep_of hdep 13 (by rfl))
              have E134 := hval 15 _ 134 rfl rfl (dep_of hdep 15 (by rfl))
              unfold vOd19a at EG E134
              refine g_want rfl rfl rfl EG ?_
              exact does_value (w' := W) (v := .bool true) (by go_simp) ⟨(), .inr rfl, hS⟩
            · have EG := hval 13 _ 132 rfl rfl (dep_of hdep 13 (by rfl))
              have E135 := hval 16 _ 135 rfl rfl (dep_of hdep 16 (by rfl))
              unfold vOd19a at EG E135
              refine g_want rfl rfl rfl EG ?_
              exact does_value (w' := W) (v := .bool true) (by go_simp) ⟨(), .inr rfl, hS⟩
            · have EG := hval 17 _ 136 rfl rfl (dep_of hdep 17 (by rfl))
              unfold vOd19a at EG
              exact g_skip rfl rfl rfl EG rfl ⟨(), .inr rfl, hS⟩
            · have EG := hval 17 _ 136 rfl rfl (dep_of hdep 17 (by rfl))
              unfold vOd19a at EG
              exact g_skip rfl rfl rfl EG rfl ⟨(), .inr rfl, hS⟩
            · have EG := hval 17 _ 136 rfl rfl (dep_of hdep 17 (by rfl))
              unfold vOd19a at EG
              exact g_skip rfl rfl rfl EG rfl ⟨(), .inr rfl, hS⟩
            · have EG := hval 17 _ 136 rfl rfl (dep_of hdep 17 (by rfl))
              unfold vOd19a at EG
              exact g_skip rfl rfl rfl EG rfl ⟨(), .inr rfl, hS⟩
            · have EG := hval 17 _ 136 rfl rfl (dep_of hdep 17 (by rfl))
              unfold vOd19a at EG
              exact g_skip rfl rfl rfl EG rfl ⟨(), .inr rfl, hS⟩
            · have EG := hval 17 _ 136 rfl rfl (dep_of hdep 17 (by rfl))
              unfold vOd19a at EG
              exact g_skip rfl rfl rfl EG rfl ⟨(), .inr rfl, hS⟩
            · have EG := hval 17 _ 136 rfl rfl (dep_of hdep 17 (by rfl))
              unfold vOd19a at EG
              exact g_skip rfl rfl rfl EG rfl ⟨(), .inr rfl, hS⟩
            · have EG := hval 13 _ 132 rfl rfl (dep_of hdep 13 (by rfl))
              have E136 := hval 17 _ 136 rfl rfl (dep_of hdep 17 (by rfl))
              have E143 := hval 24 _ 143 rfl rfl (dep_of hdep 24 (by rfl))
              unfold vOd19a at EG E136 E143
              refine g_want rfl rfl rfl EG ?_
              exact does_value (w' := W) (v := .bool true) (by go_simp) ⟨(), .inr rfl, hS⟩
            · have E132 := hval 13 _ 132 rfl rfl (dep_of hdep 13 (by rfl))
              have E144 := hval 25 _ 144 rfl rfl (dep_of hdep 25 (by rfl))
              unfold vOd19a at E132 E144
              refine g_plain rfl ?_
              exact does_value (w' := W) (v := .bool true) (by go_simp) ⟨(), .inr rfl, hS⟩
            · have E145 := hval 26 _ 145 rfl rfl (dep_of hdep 26 (by rfl))
              unfold vOd19a at E145
              refine g_plain rfl ?_
              exact does_value (w' := W) (v := .bool true) (by go_simp) ⟨(), .inr rfl, hS⟩
            · have EG := hval 27 _ 146 rfl rfl (dep_of hdep 27 (by rfl))
              have E17 : a.tmps[17]? = some (.int .i64 0) := (same_of hsame 17 (by rfl)).trans rfl
              unfold vOd19a at EG
              refine g_want rfl rfl rfl EG ?_
              exact does_value (w' := W) (v := .int .i64 0) (by go_simp) ⟨(), .inr rfl, hS⟩
            · have EG := hval 27 _ 146 rfl rfl (dep_of hdep 27 (by rfl))
              have E147 := hval 28 _ 147 rfl rfl (dep_of hdep 28 (by rfl))
              unfold vOd19a at EG E147
              refine g_want rfl rfl rfl EG ?_
              exact does_value (w' := W) (v := .bool true) (by go_simp) ⟨(), .inr rfl, hS⟩
            · have E146 := hval 27 _ 146 rfl rfl (dep_of hdep 27 (by rfl))
              have E148 := hval 29 _ 148 rfl rfl (dep_of hdep 29 (by rfl))
              unfold vOd19a at E146 E148
              refine g_plain rfl ?_
              exact does_value (w' := W) (v := .bool true) (by go_simp) ⟨(), .inr rfl, hS⟩
            · have E149 := hval 30 _ 149 rfl rfl (dep_of hdep 30 (by rfl))
              unfold vOd19a at E149
              refine g_plain rfl ?_
              exact does_value (w' := W) (v := .bool true) (by go_simp) ⟨(), .inr rfl, hS⟩
            · have EG := hval 31 _ 150 rfl rfl (dep_of hdep 31 (by rfl))
              have E16 : a.tmps[16]? = some (.pointer (some ⟨g16, 0, none⟩)) := (same_of hsame 16 (by rfl)).trans rfl
              unfold vOd19a at EG
              refine g_want rfl rfl rfl EG ?_
              exact does_load_cloud _ rfl g16 rfl (by rw [eval_getD, E16]; rfl) (K16.out.keep hS) ⟨(), .inr rfl, hS⟩
            · have EG := hval 31 _ 150 rfl rfl (dep_of hdep 31 (by rfl))
              have E14 : a.tmps[14]? = some (.pointer (some ⟨g14, 0, none⟩)) := (same_of hsame 14 (by rfl)).trans rfl
              unfold vOd19a at EG
              refine g_want rfl rfl rfl EG ?_
              exact does_load_dotB _ rfl g14 (by rw [eval_getD, E14]; rfl) (d := (q, (t + 1))) (K14.out.keep hS) ⟨(), .inr rfl, hS⟩
            · have EG := hval 31 _ 150 rfl rfl (dep_of hdep 31 (by rfl))
              have E151 := hval 32 _ 151 rfl rfl (dep_of hdep 32 (by rfl))
              have E152 := hval 33 _ 152 rfl rfl (dep_of hdep 33 (by rfl))
              unfold vOd19a at EG E151 E152
              refine g_want rfl rfl rfl EG ?_
              refine does_call 20 #[.agg #[.slice A16 vm.length c16, .slice B16 dm.length e16], .agg #[.int .i64 q, .int .i64 (t + 1)]] (by go_simp) ((HH7.out W hS).mono ?_)
              rintro e w' ⟨rfl, hb⟩
              exact ⟨.bool true, rfl, (), .inr rfl, hS.trans (hb.mono hS.size)⟩
            · have E150 := hval 31 _ 150 rfl rfl (dep_of hdep 31 (by rfl))
              have E153 := hval 34 _ 153 rfl rfl (dep_of hdep 34 (by rfl))
              unfold vOd19a at E150 E153
              refine g_plain rfl ?_
              exact does_value (w' := W) (v := .bool true) (by go_simp) ⟨(), .inr rfl, hS⟩
            · have E154 := hval 35 _ 154 rfl rfl (dep_of hdep 35 (by rfl))
              unfold vOd19a at E154
              refine g_plain rfl ?_
              exact does_value (w' := W) (v := .bool true) (by go_simp) ⟨(), .inr rfl, hS⟩
            · have EG := hval 36 _ 155 rfl rfl (dep_of hdep 36 (by rfl))
              have E16 : a.tmps[16]? = some (.pointer (some ⟨g16, 0, none⟩)) := (same_of hsame 16 (by rfl)).trans rfl
              unfold vOd19a at EG
              refine g_want rfl rfl rfl EG ?_
              exact does_load_cloud _ rfl g16 rfl (by rw [eval_getD, E16]; rfl) (K16.out.keep hS) ⟨(), .inr rfl, hS⟩
            · have EG := hval 36 _ 155 rfl rfl (dep_of hdep 36 (by rfl))
              have E156 := hval 37 _ 156 rfl rfl (dep_of hdep 37 (by rfl))
              unfold vOd19a at EG E156
              refine g_want rfl rfl rfl EG ?_
              refine does_call 22 #[.agg #[.slice A16 vm.length c16, .slice B16 dm.length e16]] (by go_simp) ((HC1.out W hS).mono ?_)
              rintro e w' ⟨rfl, hb⟩
              exact ⟨.int .i64 (cn + 1), rfl, (), .inr rfl, hS.trans (hb.mono hS.size)⟩
            · have EG := hval 36 _ 155 rfl rfl (dep_of hdep 36 (by rfl))
              have E4 : a.tmps[4]? = some (.pointer (some ⟨p4, 0, none⟩)) := (same_of hsame 4 (by rfl)).trans rfl
              unfold vOd19a at EG
              refine g_want rfl rfl rfl EG ?_
              exact does_load_cloud _ rfl p4 rfl (by rw [eval_getD, E4]; rfl) (K4.out.keep hS) ⟨(), .inr rfl, hS⟩
            · have EG := hval 36 _ 155 rfl rfl (dep_of hdep 36 (by rfl))
              have E158 := hval 39 _ 158 rfl rfl (dep_of hdep 39 (by rfl))
              unfold vOd19a at EG E158
              refine g_want rfl rfl rfl EG ?_
              refine does_call 22 #[.agg #[.slice Aa va.length ca, .slice Ba da.length ea]] (by go_simp) ((HC2.out W hS).mono ?_)
              rintro e w' ⟨rfl, hb⟩
              exact ⟨.int .i64 cn, rfl, (), .inr rfl, hS.trans (hb.mono hS.size)⟩
            · have EG := hval 36 _ 155 rfl rfl (dep_of hdep 36 (by rfl))
              have E159 := hval 40 _ 159 rfl rfl (dep_of hdep 40 (by rfl))
              unfold vOd19a at EG E159
              refine g_want rfl rfl rfl EG ?_
              exact does_value (w' := W) (v := .int .i64 (cn + 1)) (by go_simp) ⟨(), .inr rfl, hS⟩
            · have EG := hval 36 _ 155 rfl rfl (dep_of hdep 36 (by rfl))
              have E157 := hval 38 _ 157 rfl rfl (dep_of hdep 38 (by rfl))
              have E160 := hval 41 _ 160 rfl rfl (dep_of hdep 41 (by rfl))
              unfold vOd19a at EG E157 E160
              refine g_want rfl rfl rfl EG ?_
              exact does_value (w' := W) (v := .bool true) (by go_simp) ⟨(), .inr rfl, hS⟩
            · have E155 := hval 36 _ 155 rfl rfl (dep_of hdep 36 (by rfl))
              have E161 := hval 42 _ 161 rfl rfl (dep_of hdep 42 (by rfl))
              unfold vOd19a at E155 E161
              refine g_plain rfl ?_
              exact does_value (w' := W) (v := .bool true) (by go_simp) ⟨(), .inr rfl, hS⟩
            · have E162 := hval 43 _ 162 rfl rfl (dep_of hdep 43 (by rfl))
              unfold vOd19a at E162
              refine g_plain rfl ?_
              exact does_value (w' := W) (v := .bool true) (by go_simp) ⟨(), .inr rfl, hS⟩
          intro gh W13 hb
          clear HH5 HH7 HC1 HC2
          replace Na := hid (Na.out.keep hb)
          replace Da := hid (Da.out.keep hb)
          replace Nb := hid (Nb.out.keep hb)
          replace Db := hid (Db.out.keep hb)
          replace F10 := hid (F10.out.keep hb)
          replace G10 := hid (G10.out.keep hb)
          replace F16 := hid (F16.out.keep hb)
          replace G16 := hid (G16.out.keep hb)
          replace K4 := hid (K4.out.keep hb)
          replace K5 := hid (K5.out.keep hb)
          replace K6 := hid (K6.out.keep hb)
          replace K10 := hid (K10.out.keep hb)
          replace K14 := hid (K14.out.keep hb)
          replace K16 := hid (K16.out.keep hb)
          replace HB := hid (HB.out.trans (hb.mono HB.out.size))
          clear hb
          simp only [putAll, vOd19a, Nat.reduceAdd, Nat.zero_add, Act.put, List.setIfInBounds_toArray, List.set_cons_zero, List.set_cons_succ]
          go_wp2_with fail
          go_ret
          exact ⟨rfl, HB.out⟩
        · have h1 : ((t + 1 : Int) == 1) = false := by simp; omega
          have HPV := hid (M.out.prev hz)
          clear hz
          have HH6 := hid (fun (W : World) (hb : Below W12.heap.size W12 W) => show Calls Try.prog 20 #[.agg #[.slice Aa va.length ca, .slice Ba da.length ea], .agg #[.int .i64 q, .int .i64 t]] W _ from ocHas_calls va.length ca da.length ea Aa Ba va da (q, t) W (Na.out.keep hb) (Da.out.keep hb) (by have := La.out.1; omega) (by have := La.out.2; omega) hac)
          rw [HPV.out] at HH6
          go_wp2_with fail
          refine wp_region_invG 163 () (vOd19b Aa ca Ba ea va da q t g14 A16 c16 B16 e16 vm dm cn) (fun _ _ W => Below W12.heap.size W12 W) (by kernel_rfl) (by kernel_rfl) (by exact Nat.le_refl 163) ?_ ?_ ?_
          · exact (Below.refl _ _).drew
          · intro i o f gh a W hi hf hdep hsame hcl hval hS
            rcases i with _ | _ | _ | _ | _ | _ | _ | _ | _ | _ | _ | _ | _ | _ | _ | _ | _ | _ | _ | _ | _ | _ | _ | _ | _ | _ | _ | _ | _ | _ | _ | _ | _ | _ | _ | _ | _ | _ | _ | _ | _ | _ | _ | _ | _ | i
            all_goals simp only [List.getElem?_cons_succ, List.getElem?_cons_zero, List.getElem?_nil, Option.some.injEq, reduceCtorEq] at hi
            all_goals subst hi
            · have E9 : a.tmps[9]? = some (.bool true) := (same_of hsame 9 (by rfl)).trans rfl
              refine g_plain rfl ?_
              exact does_value (w' := W) (v := .bool true) (by go_simp) ⟨(), .inr rfl, hS⟩
            · have E119 := hval 0 _ 119 rfl rfl (dep_of hdep 0 (by rfl))
              unfold vOd19b at E119
              refine g_plain rfl ?_
              exact does_value (w' := W) (v := .bool true) (by go_simp) ⟨(), .inr rfl, hS⟩
            · have EG := hval 1 _ 120 rfl rfl (dep_of hdep 1 (by rfl))
              have E4 : a.tmps[4]? = some (.pointer (some ⟨p4, 0, none⟩)) := (same_of hsame 4 (by rfl)).trans rfl
              unfold vOd19b at EG
              refine g_want rfl rfl rfl EG ?_
              exact does_load_cloud _ rfl p4 rfl (by rw [eval_getD, E4]; rfl) (K4.out.keep hS) ⟨(), .inr rfl, hS⟩
            · have EG := hval 1 _ 120 rfl rfl (dep_of hdep 1 (by rfl))
              have E14 : a.tmps[14]? = some (.pointer (some ⟨g14, 0, none⟩)) := (same_of hsame 14 (by rfl)).trans rfl
              unfold vOd19b at EG
              refine g_want rfl rfl rfl EG ?_
              exact does_load_dotB _ rfl g14 (by rw [eval_getD, E14]; rfl) (d := (q, (t + 1))) (K14.out.keep hS) ⟨(), .inr rfl, hS⟩
            · have EG := hval 1 _ 120 rfl rfl (dep_of hdep 1 (by rfl))
              have E121 := hval 2 _ 121 rfl rfl (dep_of hdep 2 (by rfl))
              have E122 := hval 3 _ 122 rfl rfl (dep_of hdep 3 (by rfl))
              unfold vOd19b at EG E121 E122
              refine g_want rfl rfl rfl EG ?_
              refine does_call 20 #[.agg #[.slice Aa va.length ca, .slice Ba da.length ea], .agg #[.int .i64 q, .int .i64 (t + 1)]] (by go_simp) ((HH5.out W hS).mono ?_)
              rintro e w' ⟨rfl, hb⟩
              exact ⟨.bool false, rfl, (), .inr rfl, hS.trans (hb.mono hS.size)⟩
            · have EG := hval 1 _ 120 rfl rfl (dep_of hdep 1 (by rfl))
              have E123 := hval 4 _ 123 rfl rfl (dep_of hdep 4 (by rfl))
              unfold vOd19b at EG E123
              refine g_want rfl rfl rfl EG ?_
              exact does_value (w' := W) (v := .bool true) (by go_simp) ⟨(), .inr rfl, hS⟩
            · have E120 := hval 1 _ 120 rfl rfl (dep_of hdep 1 (by rfl))
              have E124 := hval 5 _ 124 rfl rfl (dep_of hdep 5 (by rfl))
              unfold vOd19b at E120 E124
              refine g_plain rfl ?_
              exact does_value (w' := W) (v := .bool true) (by go_simp) ⟨(), .inr rfl, hS⟩
            · have E125 := hval 6 _ 125 rfl rfl (dep_of hdep 6 (by rfl))
              unfold vOd19b at E125
              refine g_plain rfl ?_
              exact does_value (w' := W) (v := .bool true) (by go_simp) ⟨(), .inr rfl, hS⟩
            · have EG := hval 7 _ 126 rfl rfl (dep_of hdep 7 (by rfl))
              have E14 : a.tmps[14]? = some (.pointer (some ⟨g14, 0, none⟩)) := (same_of hsame 14 (by rfl)).trans rfl
              unfold vOd19b at EG
              refine g_want rfl rfl rfl EG ?_
              exact does_value (w' := W) (v := .pointer (some ⟨g14, 0, none⟩)) (by go_simp) ⟨(), .inr rfl, hS⟩
            · have EG := hval 7 _ 126 rfl rfl (dep_of hdep 7 (by rfl))
              have E127 := hval 8 _ 127 rfl rfl (dep_of hdep 8 (by rfl))
              unfold vOd19b at EG E127
              have kp := K14.out.keep hS
              have c0 := kp.cell 0 rfl
              have c1 := kp.cell 1 rfl
              refine g_want rfl rfl rfl EG ?_
              exact does_value (w' := W) (v := .int .i64 q) (by go_simp) ⟨(), .inr rfl, hS⟩
            · have EG := hval 7 _ 126 rfl rfl (dep_of hdep 7 (by rfl))
              have E3 : a.tmps[3]? = some (.int .i64 q) := (same_of hsame 3 (by rfl)).trans rfl
              unfold vOd19b at EG
              refine g_want rfl rfl rfl EG ?_
              exact does_value (w' := W) (v := .int .i64 q) (by go_simp) ⟨(), .inr rfl, hS⟩
            · have EG := hval 7 _ 126 rfl rfl (dep_of hdep 7 (by rfl))
              have E128 := hval 9 _ 128 rfl rfl (dep_of hdep 9 (by rfl))
              have E129 := hval 10 _ 129 rfl rfl (dep_of hdep 10 (by rfl))
              unfold vOd19b at EG E128 E129
              refine g_want rfl rfl rfl EG ?_
              exact does_value (w' := W) (v := .bool true) (by go_simp) ⟨(), .inr rfl, hS⟩
            · have E126 := hval 7 _ 126 rfl rfl (dep_of hdep 7 (by rfl))
              have E130 := hval 11 _ 130 rfl rfl (dep_of hdep 11 (by rfl))
              unfold vOd19b at E126 E130
              refine g_plain rfl ?_
              exact does_value (w' := W) (v := .bool true) (by go_simp) ⟨(), .inr rfl, hS⟩
            · have E131 := hval 12 _ 131 rfl rfl (dep_of hdep 12 (by rfl))
              unfold vOd19b at E131
              refine g_plain rfl ?_
              exact does_value (w' := W) (v := .bool true) (by go_simp) ⟨(), .inr rfl, hS⟩
            · have EG := hval 13 _ 132 rfl rfl (dep_of hdep 13 (by rfl))
              have E14 : a.tmps[14]? = some (.pointer (some ⟨g14, 0, none⟩)) := (same_of hsame 14 (by rfl)).trans rfl
              unfold vOd19b at EG
              refine g_want rfl rfl rfl EG ?_
              exact does_value (w' := W) (v := .pointer (some ⟨g14, 1, none⟩)) (by go_simp) ⟨(), .inr rfl, hS⟩
            · have EG := hval 13 _ 132 rfl rfl (dep_of hdep 13 (by rfl))
              have E133 := hval 14 _ 133 rfl rfl (dep_of hdep 14 (by rfl))
              unfold vOd19b at EG E133
              have kp := K14.out.keep hS
              have c0 := kp.cell 0 rfl
              have c1 := kp.cell 1 rfl
              refine g_want rfl rfl rfl EG ?_
              exact does_value (w' := W) (v := .int .i64 (t + 1)) (by go_simp) ⟨(), .inr rfl, hS⟩
            · have EG := hval 13 _ 132 rfl rfl (dep_of hdep 13 (by rfl))
              have E134 := hval 15 _ 134 rfl rfl (dep_of hdep 15 (by rfl))
              unfold vOd19b at EG E134
              refine g_want rfl rfl rfl EG ?_
              exact does_value (w' := W) (v := .bool false) (by go_simp) ⟨(), .inr rfl, hS⟩
            · have EG := hval 13 _ 132 rfl rfl (dep_of hdep 13 (by rfl))
              have E135 := hval 16 _ 135 rfl rfl (dep_of hdep 16 (by rfl))
              unfold vOd19b at EG E135
              refine g_want rfl rfl rfl EG ?_
              exact does_value (w' := W) (v := .bool false) (by go_simp) ⟨(), .inr rfl, hS⟩
            · have EG := hval 17 _ 136 rfl rfl (dep_of hdep 17 (by rfl))
              have E4 : a.tmps[4]? = some (.pointer (some ⟨p4, 0, none⟩)) := (same_of hsame 4 (by rfl)).trans rfl
              unfold vOd19b at EG
              refine g_want rfl rfl rfl EG ?_
              exact does_load_cloud _ rfl p4 rfl (by rw [eval_getD, E4]; rfl) (K4.out.keep hS) ⟨(), .inr rfl, hS⟩
            · have EG := hval 17 _ 136 rfl rfl (dep_of hdep 17 (by rfl))
              have E3 : a.tmps[3]? = some (.int .i64 q) := (same_of hsame 3 (by rfl)).trans rfl
              unfold vOd19b at EG
              refine g_want rfl rfl rfl EG ?_
              exact does_value (w' := W) (v := .int .i64 q) (by go_simp) ⟨(), .inr rfl, hS⟩
            · have EG := hval 17 _ 136 rfl rfl (dep_of hdep 17 (by rfl))
              have E14 : a.tmps[14]? = some (.pointer (some ⟨g14, 0, none⟩)) := (same_of hsame 14 (by rfl)).trans rfl
              unfold vOd19b at EG
              refine g_want rfl rfl rfl EG ?_
              exact does_value (w' := W) (v := .pointer (some ⟨g14, 1, none⟩)) (by go_simp) ⟨(), .inr rfl, hS⟩
            · have EG := hval 17 _ 136 rfl rfl (dep_of hdep 17 (by rfl))
              have E139 := hval 20 _ 139 rfl rfl (dep_of hdep 20 (by rfl))
              unfold vOd19b at EG E139
              have kp := K14.out.keep hS
              have c0 := kp.cell 0 rfl
              have c1 := kp.cell 1 rfl
              refine g_want rfl rfl rfl EG ?_
              exact does_value (w' := W) (v := .int .i64 (t + 1)) (by go_simp) ⟨(), .inr rfl, hS⟩
            · have EG := hval 17 _ 136 rfl rfl (dep_of hdep 17 (by rfl))
              have E140 := hval 21 _ 140 rfl rfl (dep_of hdep 21 (by rfl))
              unfold vOd19b at EG E140
              refine g_want rfl rfl rfl EG ?_
              exact does_value (w' := W) (v := .int .i64 t) (by go_simp) ⟨(), .inr rfl, hS⟩
            · have EG := hval 17 _ 136 rfl rfl (dep_of hdep 17 (by rfl))
              have E138 := hval 19 _ 138 rfl rfl (dep_of hdep 19 (by rfl))
              have E141 := hval 22 _ 141 rfl rfl (dep_of hdep 22 (by rfl))
              unfold vOd19b at EG E138 E141
              refine g_want rfl rfl rfl EG ?_
              refine does_call 32 #[.int .i64 q, .int .i64 t] (by go_simp) ((lat_calls q t W).mono ?_)
              rintro e w' ⟨rfl, hb⟩
              exact ⟨.agg #[.int .i64 q, .int .i64 t], rfl, (), .inr rfl, hS.trans (hb.mono hS.size)⟩
            · have EG := hval 17 _ 136 rfl rfl (dep_of hdep 17 (by rfl))
              have E137 := hval 18 _ 137 rfl rfl (dep_of hdep 18 (by rfl))
              have E142 := hval 23 _ 142 rfl rfl (dep_of hdep 23 (by rfl))
              unfold vOd19b at EG E137 E142
              refine g_want rfl rfl rfl EG ?_
              refine does_call 20 #[.agg #[.slice Aa va.length ca, .slice Ba da.length ea], .agg #[.int .i64 q, .int .i64 t]] (by go_simp) ((HH6.out W hS).mono ?_)
              rintro e w' ⟨rfl, hb⟩
              exact ⟨.bool true, rfl, (), .inr rfl, hS.trans (hb.mono hS.size)⟩
            · have EG := hval 13 _ 132 rfl rfl (dep_of hdep 13 (by rfl))
              have E136 := hval 17 _ 136 rfl rfl (dep_of hdep 17 (by rfl))
              have E143 := hval 24 _ 143 rfl rfl (dep_of hdep 24 (by rfl))
              unfold vOd19b at EG E136 E143
              refine g_want rfl rfl rfl EG ?_
              exact does_value (w' := W) (v := .bool true) (by go_simp) ⟨(), .inr rfl, hS⟩
            · have E132 := hval 13 _ 132 rfl rfl (dep_of hdep 13 (by rfl))
              have E144 := hval 25 _ 144 rfl rfl (dep_of hdep 25 (by rfl))
              unfold vOd19b at E132 E144
              refine g_plain rfl ?_
              exact does_value (w' := W) (v := .bool true) (by go_simp) ⟨(), .inr rfl, hS⟩
            · have E145 := hval 26 _ 145 rfl rfl (dep_of hdep 26 (by rfl))
              unfold vOd19b at E145
              refine g_plain rfl ?_
              exact does_value (w' := W) (v := .bool true) (by go_simp) ⟨(), .inr rfl, hS⟩
            · have EG := hval 27 _ 146 rfl rfl (dep_of hdep 27 (by rfl))
              have E17 : a.tmps[17]? = some (.int .i64 0) := (same_of hsame 17 (by rfl)).trans rfl
              unfold vOd19b at EG
              refine g_want rfl rfl rfl EG ?_
              exact does_value (w' := W) (v := .int .i64 0) (by go_simp) ⟨(), .inr rfl, hS⟩
            · have EG := hval 27 _ 146 rfl rfl (dep_of hdep 27 (by rfl))
              have E147 := hval 28 _ 147 rfl rfl (dep_of hdep 28 (by rfl))
              unfold vOd19b at EG E147
              refine g_want rfl rfl rfl EG ?_
              exact does_value (w' := W) (v := .bool true) (by go_simp) ⟨(), .inr rfl, hS⟩
            · have E146 := hval 27 _ 146 rfl rfl (dep_of hdep 27 (by rfl))
              have E148 := hval 29 _ 148 rfl rfl (dep_of hdep 29 (by rfl))
              unfold vOd19b at E146 E148
              refine g_plain rfl ?_
              exact does_value (w' := W) (v := .bool true) (by go_simp) ⟨(), .inr rfl, hS⟩
            · have E149 := hval 30 _ 149 rfl rfl (dep_of hdep 30 (by rfl))
              unfold vOd19b at E149
              refine g_plain rfl ?_
              exact does_value (w' := W) (v := .bool true) (by go_simp) ⟨(), .inr rfl, hS⟩
            · have EG := hval 31 _ 150 rfl rfl (dep_of hdep 31 (by rfl))
              have E16 : a.tmps[16]? = some (.pointer (some ⟨g16, 0, none⟩)) := (same_of hsame 16 (by rfl)).trans rfl
              unfold vOd19b at EG
              refine g_want rfl rfl rfl EG ?_
              exact does_load_cloud _ rfl g16 rfl (by rw [eval_getD, E16]; rfl) (K16.out.keep hS) ⟨(), .inr rfl, hS⟩
            · have EG := hval 31 _ 150 rfl rfl (dep_of hdep 31 (by rfl))
              have E14 : a.tmps[14]? = some (.pointer (some ⟨g14, 0, none⟩)) := (same_of hsame 14 (by rfl)).trans rfl
              unfold vOd19b at EG
              refine g_want rfl rfl rfl EG ?_
              exact does_load_dotB _ rfl g14 (by rw [eval_getD, E14]; rfl) (d := (q, (t + 1))) (K14.out.keep hS) ⟨(), .inr rfl, hS⟩
            · have EG := hval 31 _ 150 rfl rfl (dep_of hdep 31 (by rfl))
              have E151 := hval 32 _ 151 rfl rfl (dep_of hdep 32 (by rfl))
              have E152 := hval 33 _ 152 rfl rfl (dep_of hdep 33 (by rfl))
              unfold vOd19b at EG E151 E152
              refine g_want rfl rfl rfl EG ?_
              refine does_call 20 #[.agg #[.slice A16 vm.length c16, .slice B16 dm.length e16], .agg #[.int .i64 q, .int .i64 (t + 1)]] (by go_simp) ((HH7.out W hS).mono ?_)
              rintro e w' ⟨rfl, hb⟩
              exact ⟨.bool true, rfl, (), .inr rfl, hS.trans (hb.mono hS.size)⟩
            · have E150 := hval 31 _ 150 rfl rfl (dep_of hdep 31 (by rfl))
              have E153 := hval 34 _ 153 rfl rfl (dep_of hdep 34 (by rfl))
              unfold vOd19b at E150 E153
              refine g_plain rfl ?_
              exact does_value (w' := W) (v := .bool true) (by go_simp) ⟨(), .inr rfl, hS⟩
            · have E154 := hval 35 _ 154 rfl rfl (dep_of hdep 35 (by rfl))
              unfold vOd19b at E154
              refine g_plain rfl ?_
              exact does_value (w' := W) (v := .bool true) (by go_simp) ⟨(), .inr rfl, hS⟩
            · have EG := hval 36 _ 155 rfl rfl (dep_of hdep 36 (by rfl))
              have E16 : a.tmps[16]? = some (.pointer (some ⟨g16, 0, none⟩)) := (same_of hsame 16 (by rfl)).trans rfl
              unfold vOd19b at EG
              refine g_want rfl rfl rfl EG ?_
              exact does_load_cloud _ rfl g16 rfl (by rw [eval_getD, E16]; rfl) (K16.out.keep hS) ⟨(), .inr rfl, hS⟩
            · have EG := hval 36 _ 155 rfl rfl (dep_of hdep 36 (by rfl))
              have E156 := hval 37 _ 156 rfl rfl (dep_of hdep 37 (by rfl))
              unfold vOd19b at EG E156
              refine g_want rfl rfl rfl EG ?_
              refine does_call 22 #[.agg #[.slice A16 vm.length c16, .slice B16 dm.length e16]] (by go_simp) ((HC1.out W hS).mono ?_)
              rintro e w' ⟨rfl, hb⟩
              exact ⟨.int .i64 (cn + 1), rfl, (), .inr rfl, hS.trans (hb.mono hS.size)⟩
            · have EG := hval 36 _ 155 rfl rfl (dep_of hdep 36 (by rfl))
              have E4 : a.tmps[4]? = some (.pointer (some ⟨p4, 0, none⟩)) := (same_of hsame 4 (by rfl)).trans rfl
              unfold vOd19b at EG
              refine g_want rfl rfl rfl EG ?_
              exact does_load_cloud _ rfl p4 rfl (by rw [eval_getD, E4]; rfl) (K4.out.keep hS) ⟨(), .inr rfl, hS⟩
            · have EG := hval 36 _ 155 rfl rfl (dep_of hdep 36 (by rfl))
              have E158 := hval 39 _ 158 rfl rfl (dep_of hdep 39 (by rfl))
              unfold vOd19b at EG E158
              refine g_want rfl rfl rfl EG ?_
              refine does_call 22 #[.agg #[.slice Aa va.length ca, .slice Ba da.length ea]] (by go_simp) ((HC2.out W hS).mono ?_)
              rintro e w' ⟨rfl, hb⟩
              exact ⟨.int .i64 cn, rfl, (), .inr rfl, hS.trans (hb.mono hS.size)⟩
            · have EG := hval 36 _ 155 rfl rfl (dep_of hdep 36 (by rfl))
              have E159 := hval 40 _ 159 rfl rfl (dep_of hdep 40 (by rfl))
              unfold vOd19b at EG E159
              refine g_want rfl rfl rfl EG ?_
              exact does_value (w' := W) (v := .int .i64 (cn + 1)) (by go_simp) ⟨(), .inr rfl, hS⟩
            · have EG := hval 36 _ 155 rfl rfl (dep_of hdep 36 (by rfl))
              have E157 := hval 38 _ 157 rfl rfl (dep_of hdep 38 (by rfl))
              have E160 := hval 41 _ 160 rfl rfl (dep_of hdep 41 (by rfl))
              unfold vOd19b at EG E157 E160
              refine g_want rfl rfl rfl EG ?_
              exact does_value (w' := W) (v := .bool true) (by go_simp) ⟨(), .inr rfl, hS⟩
            · have E155 := hval 36 _ 155 rfl rfl (dep_of hdep 36 (by rfl))
              have E161 := hval 42 _ 161 rfl rfl (dep_of hdep 42 (by rfl))
              unfold vOd19b at E155 E161
              refine g_plain rfl ?_
              exact does_value (w' := W) (v := .bool true) (by go_simp) ⟨(), .inr rfl, hS⟩
            · have E162 := hval 43 _ 162 rfl rfl (dep_of hdep 43 (by rfl))
              unfold vOd19b at E162
              refine g_plain rfl ?_
              exact does_value (w' := W) (v := .bool true) (by go_simp) ⟨(), .inr rfl, hS⟩
          intro gh W13 hb
          clear HH5 HH6 HH7 HC1 HC2
          replace Na := hid (Na.out.keep hb)
          replace Da := hid (Da.out.keep hb)
          replace Nb := hid (Nb.out.keep hb)
          replace Db := hid (Db.out.keep hb)
          replace F10 := hid (F10.out.keep hb)
          replace G10 := hid (G10.out.keep hb)
          replace F16 := hid (F16.out.keep hb)
          replace G16 := hid (G16.out.keep hb)
          replace K4 := hid (K4.out.keep hb)
          replace K5 := hid (K5.out.keep hb)
          replace K6 := hid (K6.out.keep hb)
          replace K10 := hid (K10.out.keep hb)
          replace K14 := hid (K14.out.keep hb)
          replace K16 := hid (K16.out.keep hb)
          replace HB := hid (HB.out.trans (hb.mono HB.out.size))
          clear hb
          simp only [putAll, vOd19b, Nat.reduceAdd, Nat.zero_add, Act.put, List.setIfInBounds_toArray, List.set_cons_zero, List.set_cons_succ]
          go_wp2_with fail
          go_ret
          exact ⟨rfl, HB.out⟩
end Go.Proofs.Ythjflgnoeenenaa
