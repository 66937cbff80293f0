/- Mathematics of links: one more, one less. -/
import Derived.Test.YtjgnbmkhibdcfaaQtReg
namespace Go.Proofs.Ytjgnbmkhibdcfaa
open Go.RowKit

theorem szQ_nil (k : LKey) : szQ [] k = none := rfl
theorem szQ_cons (p : LKey × Int) (l : List (LKey × Int)) (k : LKey) : szQ (p :: l) k = if p.1 = k then some p.2 else szQ l k := by
  unfold szQ
  rw [List.find?_cons]
  by_cases h : p.1 = k <;> simp [h]
theorem szQ_app {l : List (LKey × Int)} {k : LKey} (y : Int) (h : szQ l k = none) (z : LKey) : szQ (l ++ [(k, y)]) z = if z = k then some y else szQ l z := by
  induction l with
  | nil =>
    rw [List.nil_append, szQ_cons, szQ_nil]
    by_cases e : k = z
    · rw [if_pos e, if_pos e.symm]
    · rw [if_neg e, if_neg (Ne.symm e)]
  | cons p l ih =>
    rw [szQ_cons] at h
    by_cases hp : p.1 = k
    · rw [if_pos hp] at h; cases h
    · rw [if_neg hp] at h
      rw [List.cons_append, szQ_cons, ih h, szQ_cons]
      by_cases e : p.1 = z
      · have hz : z ≠ k := fun e2 => hp (e.trans e2)
        rw [if_pos e, if_neg hz, if_pos e]
      · rw [if_neg e, if_neg e]
theorem szQ_none {l : List (LKey × Int)} {k : LKey} : szQ l k = none ↔ k ∉ l.map (·.1) := by
  induction l with
  | nil => simp [szQ_nil]
  | cons p l ih =>
    rw [szQ_cons]
    by_cases h : p.1 = k
    · rw [if_pos h]; simp [h]
    · rw [if_neg h, ih]; simp [Ne.symm h]
theorem szQ_some {l : List (LKey × Int)} {k : LKey} {y : Int} (h : szQ l k = some y) : (k, y) ∈ l := by
  induction l with
  | nil => cases h
  | cons p l ih =>
    rw [szQ_cons] at h
    by_cases e : p.1 = k
    · rw [if_pos e] at h
      cases h
      subst e
      exact List.mem_cons_self
    · rw [if_neg e] at h
      exact List.mem_cons_of_mem _ (ih h)
theorem ofQ_app (l : List (LKey × Int)) (k : LKey) (y : Int) (r : List UInt8) : ofQ (l ++ [(k, y)]) r = ofQ l r ++ if k.1 = r then [(k, y)] else [] := by
  unfold ofQ
  rw [List.filter_append]
  congr 1
  by_cases h : k.1 = r <;> simp [h]
theorem cntQ_app (l : List (LKey × Int)) (k : LKey) (y : Int) : cntQ (l ++ [(k, y)]) k.1 = cntQ l k.1 + 1 := by
  unfold cntQ
  rw [ofQ_app, if_pos rfl]
  simp
theorem sumQ_app (l : List (LKey × Int)) (k : LKey) (y : Int) : sumQ (l ++ [(k, y)]) k.1 = sumQ l k.1 + y := by
  unfold sumQ
  rw [ofQ_app, if_pos rfl]
  simp
theorem ofQ_other (l : List (LKey × Int)) (k : LKey) (y : Int) {r : List UInt8} (h : r ≠ k.1) : ofQ (l ++ [(k, y)]) r = ofQ l r := by
  rw [ofQ_app, if_neg (Ne.symm h), List.append_nil]
theorem OKQ.app {q : QS} (h : OKQ q) {k : LKey} (hk : kok k) (hn : szQ q.l k = none) {y : Int} (hy : 0 ≤ y ∧ y ≤ 4096) (hf : q.l.length < 65536) : OKQ { q with l := q.l ++ [(k, y)] } where
  nodup := by
    rw [List.map_append, List.nodup_append]
    exact ⟨h.nodup, by simp, fun a ha b hb => by
      have hb' : b = k := by simpa using hb
      rw [hb']
      intro e
      rw [e] at ha
      exact (szQ_none.1 hn) ha⟩
  keys := fun p hp => by
    rcases List.mem_append.1 hp with hp | hp
    · exact h.keys p hp
    · rw [List.mem_singleton.1 hp]; exact hk
  szs := fun p hp => by
    rcases List.mem_append.1 hp with hp | hp
    · exact h.szs p hp
    · rw [List.mem_singleton.1 hp]; exact hy
  few := by simp; omega
  lim := h.lim
theorem sum_bounds (l : List (LKey × Int)) (h : ∀ p ∈ l, 0 ≤ p.2 ∧ p.2 ≤ 4096) : 0 ≤ (l.map (·.2)).sum ∧ (l.map (·.2)).sum ≤ 4096 * (l.length : Int) := by
  induction l with
  | nil => simp
  | cons p l ih =>
    have h1 := h p (by simp)
    have h2 := ih (fun x hx => h x (by simp [hx]))
    simp only [List.map_cons, List.sum_cons, List.length_cons]
    omega
theorem OKQ.cnt {q : QS} (h : OKQ q) (r : List UInt8) : 0 ≤ cntQ q.l r ∧ cntQ q.l r ≤ 65536 := by
  have h1 : (ofQ q.l r).length ≤ q.l.length := List.length_filter_le _ _
  have h2 := h.few
  unfold cntQ
  omega
theorem OKQ.sum {q : QS} (h : OKQ q) (r : List UInt8) : 0 ≤ sumQ q.l r ∧ sumQ q.l r ≤ 268435456 := by
  have h1 : (ofQ q.l r).length ≤ q.l.length := List.length_filter_le _ _
  have h2 := h.few
  have h3 := sum_bounds (ofQ q.l r) (fun p hp => h.szs p (List.mem_filter.1 hp).1)
  unfold sumQ
  omega
/-- one link less -/
def delQ (l : List (LKey × Int)) (k : LKey) : List (LKey × Int) := l.filter (fun p => decide (p.1 ≠ k))
theorem szQ_del (l : List (LKey × Int)) (k z : LKey) : szQ (delQ l k) z = if z = k then none else szQ l z := by
  induction l with
  | nil => simp [delQ, szQ_nil]
  | cons p l ih =>
    unfold delQ at ih ⊢
    rw [List.filter_cons]
    by_cases hp : p.1 = k
    · rw [if_neg (by simp [hp]), ih, szQ_cons]
      by_cases e : z = k
      · rw [if_pos e, if_pos e]
      · rw [if_neg e, if_neg e, if_neg (fun e2 => e (e2.symm.trans hp))]
    · rw [if_pos (by simp [hp]), szQ_cons, ih, szQ_cons]
      by_cases e : p.1 = z
      · have hz : z ≠ k := fun e2 => hp (e.trans e2)
        rw [if_pos e, if_neg hz, if_pos e]
      · rw [if_neg e, if_neg e]
theorem OKQ.del {q : QS} (h : OKQ q) (k : LKey) : OKQ { q with l := delQ q.l k } where
  nodup := (List.filter_sublist.map _).nodup h.nodup
  keys := fun p hp => h.keys p (List.mem_filter.1 hp).1
  szs := fun p hp => h.szs p (List.mem_filter.1 hp).1
  few := Nat.le_trans (List.length_filter_le _ _) h.few
  lim := h.lim
theorem ofQ_del_other (l : List (LKey × Int)) (k : LKey) {r : List UInt8} (h : r ≠ k.1) : ofQ (delQ l k) r = ofQ l r := by
  unfold ofQ delQ
  rw [List.filter_filter]
  refine List.filter_congr fun p _ => ?_
  by_cases e : p.1.1 = r
  · have : p.1 ≠ k := fun e2 => h (e.symm.trans (by rw [e2]))
    simp [e, this]
  · simp [e]
theorem ofQ_del {l : List (LKey × Int)} (hn : (l.map (·.1)).Nodup) {k : LKey} {y : Int} (h : szQ l k = some y) : (ofQ l k.1).Perm ((k, y) :: ofQ (delQ l k) k.1) := by
  induction l with
  | nil => cases h
  | cons p l ih =>
    rw [List.map_cons, List.nodup_cons] at hn
    rw [szQ_cons] at h
    by_cases hp : p.1 = k
    · rw [if_pos hp] at h
      cases h
      have hd : delQ (p :: l) k = l := by
        unfold delQ
        rw [List.filter_cons, if_neg (by simp [hp])]
        refine List.filter_eq_self.2 fun x hx => ?_
        have : x.1 ≠ k := fun e => hn.1 (by rw [hp, ← e]; exact List.mem_map.2 ⟨x, hx, rfl⟩)
        simpa using this
      rw [hd]
      have : ofQ (p :: l) k.1 = p :: ofQ l k.1 := by
        unfold ofQ
        rw [List.filter_cons, if_pos (by simp [hp])]
      rw [this]
      have e : p = (k, p.2) := by rw [← hp]
      rw [← e]
    · rw [if_neg hp] at h
      have ih' := ih hn.2 h
      have hd : delQ (p :: l) k = p :: delQ l k := by
        unfold delQ
        rw [List.filter_cons, if_pos (by simp [hp])]
      rw [hd]
      by_cases hr : p.1.1 = k.1
      · have e1 : ∀ l', ofQ (p :: l') k.1 = p :: ofQ l' k.1 := fun l' => by
          unfold ofQ
          rw [List.filter_cons, if_pos (by simp [hr])]
        rw [e1, e1]
        exact (List.Perm.cons p ih').trans (List.Perm.swap _ _ _)
      · have e1 : ∀ l', ofQ (p :: l') k.1 = ofQ l' k.1 := fun l' => by
          unfold ofQ
          rw [List.filter_cons, if_neg (by simp [hr])]
        rw [e1, e1]
        exact ih'
theorem perm_sum {l l' : List Int} (h : l.Perm l') : l.sum = l'.sum := by
  induction h with
  | nil => rfl
  | cons x _ ih => simp [ih]
  | swap x y l => simp only [List.sum_cons]; omega
  | trans _ _ h1 h2 => exact h1.trans h2
theorem cntQ_del {l : List (LKey × Int)} (hn : (l.map (·.1)).Nodup) {k : LKey} {y : Int} (h : szQ l k = some y) : cntQ l k.1 - 1 = cntQ (delQ l k) k.1 := by
  have := (ofQ_del hn h).length_eq
  unfold cntQ
  rw [this, List.length_cons]
  omega
theorem sumQ_del {l : List (LKey × Int)} (hn : (l.map (·.1)).Nodup) {k : LKey} {y : Int} (h : szQ l k = some y) : sumQ l k.1 - y = sumQ (delQ l k) k.1 := by
  have := perm_sum ((ofQ_del hn h).map (·.2))
  unfold sumQ
  rw [this, List.map_cons, List.sum_cons]
  omega
section
variable {w W : World} {F : List Nat} {s m u n : Nat} {q : QS} {g : List UInt8 → Option Nat}
/-- one link more, in memory -/
theorem QtB.put (h : QtB w F s m u n q g) {k : LKey} (hk : kok k) (hn : szQ q.l k = none) {y : Int} (hy : 0 ≤ y ∧ y ≤ 4096) (hf : q.l.length < 65536) {b : Nat} (hC : Chg [m, u, b] w W) (hm : MapG lkK szK W m (n + 1) (fun z => if z = k then some y else szQ q.l z))
    (hu : MapG stK ptK W u (n + 1) (fun z => if z = k.1 then some b else g z)) (hb : Blk W b 91 #[.int .i64 (cntQ q.l k.1 + 1), .int .i64 (sumQ q.l k.1 + y)]) (hbo : g k.1 = some b ∨ (g k.1 = none ∧ w.heap.size ≤ b)) :
    QtB W (b :: F) s m u (n + 1) { q with l := q.l ++ [(k, y)] } (fun z => if z = k.1 then some b else g z) := by
  have hbs : b ≠ s ∧ b ≠ m ∧ b ≠ u := by
    rcases hbo with hg | ⟨_, hs⟩
    · have := h.each k.1 hk.1
      rw [hg] at this
      exact this.2.2.2
    · have h1 := h.lt s h.ins.1
      have h2 := h.lt m h.ins.2.1
      have h3 := h.lt u h.ins.2.2
      omega
  have hoth : ∀ r : List UInt8, r.length ≤ maxLen → r ≠ k.1 → ∀ c, g r = some c → c ≠ b := fun r hr hne c hc e => by
    subst e
    rcases hbo with hg | ⟨_, hs⟩
    · exact hne (h.inj r k.1 c hr hk.1 hc hg)
    · have := h.each r hr
      rw [hc] at this
      have := h.lt c this.2.2.1
      omega
  exact
  { ok := h.ok.app hk hn hy hf
    hd := h.hd.chg hC (by simp; exact ⟨h.ne.1, h.ne.2.1, Ne.symm hbs.1⟩)
    mp := hm.congr (fun z _ => (szQ_app y hn z).symm)
    us := hu
    each := fun r hr => by
      by_cases e : r = k.1
      · rw [if_pos e, e]
        refine ⟨?_, ?_, by simp, hbs⟩
        · rw [ofQ_app, if_pos rfl]; simp
        · rw [cntQ_app, sumQ_app]; exact hb
      · rw [if_neg e]
        have he := h.each r hr
        cases hc : g r with
        | none =>
          rw [hc] at he
          show ofQ _ r = []
          rw [ofQ_other _ _ _ e]
          exact he
        | some c =>
          rw [hc] at he
          obtain ⟨h1, h2, h3, h4, h5, h6⟩ := he
          refine ⟨by rw [ofQ_other _ _ _ e]; exact h1, ?_, by simp [h3], h4, h5, h6⟩
          unfold cntQ sumQ
          rw [ofQ_other _ _ _ e]
          exact h2.chg hC (by simp; exact ⟨h5, h6, hoth r hr e c hc⟩)
    inj := fun r r' c hr hr' h1 h2 => by
      by_cases e : r = k.1
      · by_cases e' : r' = k.1
        · rw [e, e']
        · rw [if_pos e] at h1
          rw [if_neg e'] at h2
          cases h1
          exact (hoth r' hr' e' b h2 rfl).elim
      · by_cases e' : r' = k.1
        · rw [if_neg e] at h1
          rw [if_pos e'] at h2
          cases h2
          exact (hoth r hr e b h1 rfl).elim
        · rw [if_neg e] at h1
          rw [if_neg e'] at h2
          exact h.inj r r' c hr hr' h1 h2
    ins := ⟨by simp [h.ins.1], by simp [h.ins.2.1], by simp [h.ins.2.2]⟩
    ne := h.ne
    lt := fun x hx => by
      rcases List.mem_cons.1 hx with rfl | hx
      · exact hb.lt
      · exact Nat.lt_of_lt_of_le (h.lt x hx) hC.size }
/-- one link less, in memory -/
theorem QtB.del (h : QtB w F s m u n q g) {k : LKey} (hk : kok k) {y : Int} (hy : szQ q.l k = some y) {b : Nat} (hb0 : g k.1 = some b) (hC : Chg [m, u, b] w W) (hm : MapG lkK szK W m n (fun z => if z = k then none else szQ q.l z))
    (hb : Blk W b 91 #[.int .i64 (cntQ q.l k.1 - 1), .int .i64 (sumQ q.l k.1 - y)]) {g' : List UInt8 → Option Nat} (hu : MapG stK ptK W u n g') (hg' : g' = if cntQ q.l k.1 - 1 = 0 then fun z => if z = k.1 then none else g z else g) :
    QtB W F s m u n { q with l := delQ q.l k } g' := by
  have hk0 := h.each k.1 hk.1
  rw [hb0] at hk0
  have hd := hk0.2.2
  have hoth : ∀ r : List UInt8, r.length ≤ maxLen → r ≠ k.1 → ∀ c, g r = some c → c ≠ b := fun r hr hne c hc e => by
    subst e
    exact hne (h.inj r k.1 c hr hk.1 hc hb0)
  have hgo : ∀ r, r ≠ k.1 → g' r = g r := fun r hr => by
    rw [hg']
    by_cases e : cntQ q.l k.1 - 1 = 0
    · rw [if_pos e, if_neg hr]
    · rw [if_neg e]
  exact
  { ok := h.ok.del k
    hd := h.hd.chg hC (by simp; exact ⟨h.ne.1, h.ne.2.1, Ne.symm hd.2.1⟩)
    mp := hm.congr (fun z _ => (szQ_del _ k z).symm)
    us := hu
    each := fun r hr => by
      by_cases e : r = k.1
      · subst e
        by_cases e0 : cntQ q.l k.1 - 1 = 0
        · rw [hg', if_pos e0, if_pos rfl]
          show ofQ (delQ q.l k) k.1 = []
          rw [cntQ_del h.ok.nodup hy] at e0
          unfold cntQ at e0
          exact List.eq_nil_of_length_eq_zero (by omega)
        · rw [hg', if_neg e0, hb0]
          refine ⟨fun e1 => e0 ?_, ?_, hd⟩
          · rw [cntQ_del h.ok.nodup hy]
            unfold cntQ
            rw [e1]
            rfl
          · rw [← cntQ_del h.ok.nodup hy, ← sumQ_del h.ok.nodup hy]
            exact hb
      · rw [hgo r e]
        have he := h.each r hr
        cases hc : g r with
        | none =>
          rw [hc] at he
          show ofQ _ r = []
          rw [ofQ_del_other _ _ e]
          exact he
        | some c =>
          rw [hc] at he
          obtain ⟨h1, h2, h3, h4, h5, h6⟩ := he
          refine ⟨by rw [ofQ_del_other _ _ e]; exact h1, ?_, h3, h4, h5, h6⟩
          unfold cntQ sumQ
          rw [ofQ_del_other _ _ e]
          exact h2.chg hC (by simp; exact ⟨h5, h6, hoth r hr e c hc⟩)
    inj := fun r r' c hr hr' h1 h2 => by
      have hsome : ∀ r c, g' r = some c → g r = some c := fun r c hc => by
        by_cases e : r = k.1
        · rw [hg'] at hc
          by_cases e0 : cntQ q.l k.1 - 1 = 0
          · rw [if_pos e0, if_pos e] at hc; cases hc
          · rw [if_neg e0] at hc; exact hc
        · rw [hgo r e] at hc; exact hc
      exact h.inj r r' c hr hr' (hsome r c h1) (hsome r' c h2)
    ins := h.ins
    ne := h.ne
    lt := fun x hx => Nat.lt_of_lt_of_le (h.lt x hx) hC.size }
end
end Go.Proofs.Ytjgnbmkhibdcfaa
