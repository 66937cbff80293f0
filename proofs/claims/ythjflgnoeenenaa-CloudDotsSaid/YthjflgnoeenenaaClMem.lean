/- Lists of dots in memory: ones that came in, ones that the call made; append onto them. -/
import Derived.Test.YthjflgnoeenenaaVcMem
import Derived.Test.YthjflgnoeenenaaClMath
namespace Go.Proofs.Ythjflgnoeenenaa
open Go Go.RowKit Cl

def dcs (d : Dt) : List Value := [.int .i64 d.1, .int .i64 d.2]
def flatD (ds : List Dt) : List Value := ds.flatMap dcs
theorem flatD_length (ds : List Dt) : (flatD ds).length = ds.length * 2 := by
  induction ds with
  | nil => rfl
  | cons d r ih => unfold flatD at ih ⊢; rw [List.flatMap_cons, List.length_append, ih, List.length_cons]; simp [dcs]; omega
theorem flatD_append (a b : List Dt) : flatD (a ++ b) = flatD a ++ flatD b := by unfold flatD; simp
theorem flatD_at (ds : List Dt) (j : Nat) (d : Dt) (h : ds[j]? = some d) : (flatD ds)[j * 2]? = some (.int .i64 d.1) ∧ (flatD ds)[j * 2 + 1]? = some (.int .i64 d.2) := by
  induction ds generalizing j with
  | nil => simp at h
  | cons x r ih =>
    have e : flatD (x :: r) = dcs x ++ flatD r := by unfold flatD; simp
    rw [e]
    cases j with
    | zero => simp at h; subst h; exact ⟨rfl, rfl⟩
    | succ j =>
      obtain ⟨h1, h2⟩ := ih j (by simpa using h)
      rw [List.getElem?_append_right (by simp [dcs]; omega), List.getElem?_append_right (by simp [dcs]; omega)]
      have e1 : (j + 1) * 2 - (dcs x).length = j * 2 := by simp [dcs]; omega
      have e2 : (j + 1) * 2 + 1 - (dcs x).length = j * 2 + 1 := by simp [dcs]; omega
      rw [e1, e2]
      exact ⟨h1, h2⟩
/-- In the world w the cells from A on hold the n dots ds. -/
def ND (w : World) (A : Option Addr) (n : Nat) (ds : List Dt) : Prop :=
  ds.length = n ∧ (0 < n → ∃ b off, A = some ⟨b, off, none⟩ ∧ ∀ j u, (flatD ds)[j]? = some u → w.cell? ⟨b, off + j, none⟩ = some u)
section
variable {w w' : World} {A : Option Addr} {n : Nat} {ds : List Dt}
theorem ND.keep (h : ND w A n ds) (hb : Below w.heap.size w w') : ND w' A n ds :=
  ⟨h.1, fun hn => by
    obtain ⟨b, off, e, hc⟩ := h.2 hn
    exact ⟨b, off, e, fun j x hj => (hb.cell (p := ⟨b, off + j, none⟩) (lt_of_cell (hc j x hj))).trans (hc j x hj)⟩⟩
theorem ND.nil (w : World) (A : Option Addr) : ND w A 0 [] := ⟨rfl, fun h => absurd h (by omega)⟩
theorem ND.at_ (h : ND w A n ds) {k : Nat} (hk : k < n) : ∃ b off d, A = some ⟨b, off, none⟩ ∧ ds[k]? = some d ∧ w.cell? ⟨b, off + k * 2, none⟩ = some (.int .i64 d.1) ∧ w.cell? ⟨b, off + k * 2 + 1, none⟩ = some (.int .i64 d.2) := by
  obtain ⟨b, off, e, hc⟩ := h.2 (by omega)
  have hl : k < ds.length := by have := h.1; omega
  obtain ⟨h1, h2⟩ := flatD_at ds k ds[k] (List.getElem?_eq_getElem hl)
  exact ⟨b, off, ds[k], e, List.getElem?_eq_getElem hl, hc _ _ h1, by rw [Nat.add_assoc]; exact hc _ _ h2⟩
theorem ND.take (h : ND w A n ds) {k : Nat} (hk : k ≤ n) : ND w A k (ds.take k) :=
  ⟨by rw [List.length_take, h.1]; omega, fun hn => by
    obtain ⟨b, off, e, hc⟩ := h.2 (by omega)
    refine ⟨b, off, e, fun j x hj => hc j x ?_⟩
    have e2 : flatD ds = flatD (ds.take k) ++ flatD (ds.drop k) := by rw [← flatD_append, List.take_append_drop]
    rw [e2, List.getElem?_append_left (List.getElem?_eq_some_iff.1 hj).1]
    exact hj⟩
theorem ND.drop (h : ND w A n ds) {k c : Nat} (hk : k ≤ n) (hc : n ≤ c) : ND w (if c = k then A else A.map (·.add (k * 2))) (n - k) (ds.drop k) :=
  ⟨by rw [List.length_drop, h.1], fun hn => by
    obtain ⟨b, off, rfl, hcell⟩ := h.2 (by omega)
    rw [if_neg (by omega)]
    refine ⟨b, off + k * 2, by simp [Addr.add_lit], fun j x hj => ?_⟩
    rw [Nat.add_assoc]
    refine hcell _ x ?_
    have e2 : flatD ds = flatD (ds.take k) ++ flatD (ds.drop k) := by rw [← flatD_append, List.take_append_drop]
    have hl : (flatD (ds.take k)).length = k * 2 := by rw [flatD_length, List.length_take, h.1, Nat.min_eq_left hk]
    rw [e2, List.getElem?_append_right (by omega), hl, Nat.add_sub_cancel_left]
    exact hj⟩
end
/-- A list of dots of the call's own. -/
def OwnD (w : World) (base : Nat) (v : Value) (n : Nat) (ds : List Dt) : Prop := ds.length = n ∧ w.ownsRow base 27 2 v n (flatD ds)
section
variable {w w' : World} {base : Nat} {v : Value} {n : Nat} {ds : List Dt}
theorem OwnD.nd (h : OwnD w base v n ds) : ∃ A c, v = .slice A n c ∧ n ≤ c ∧ ND w A n ds ∧ ∀ b off, A = some ⟨b, off, none⟩ → v.ownBlock = some b ∧ off = 0 := by
  obtain ⟨hl, h⟩ := h
  rcases h.2 with ⟨rfl, rfl⟩ | ⟨g, cap, cur, rfl, hb, hg, hnc, hcm, hcs, ht⟩
  · exact ⟨none, 0, rfl, Nat.le_refl _, ⟨hl, fun h => absurd h (by omega)⟩, fun b off e => by cases e⟩
  · refine ⟨some ⟨g, 0, none⟩, cap, rfl, hnc, ⟨hl, fun _ => ⟨g, 0, rfl, fun j x hj => ?_⟩⟩, fun b off e => by cases e; exact ⟨rfl, rfl⟩⟩
    have := World.ownsRow.cells h (g := g) rfl j x hj
    simpa [Addr.add_lit] using this
theorem OwnD.lt (h : OwnD w base v n ds) : ∀ g, v.ownBlock = some g → base ≤ g ∧ g < w.heap.size := World.ownsRow.lt h.2
theorem OwnD.keep (h : OwnD w base v n ds) (hb : Below w.heap.size w w') : OwnD w' base v n ds := ⟨h.1, World.ownsRow.kept h.2 (grown_of_below hb none) (by
  rcases hv : v.ownBlock with _ | g
  · exact .inl rfl
  · exact .inr (by simp))⟩
theorem OwnD.kept {row : Option Nat} (h : OwnD w base v n ds) (hg : w.grownBy w' row) (hne : v.ownBlock = none ∨ v.ownBlock ≠ row) : OwnD w' base v n ds := ⟨h.1, World.ownsRow.kept h.2 hg hne⟩
theorem OwnD.nil (w : World) (base : Nat) : OwnD w base (.slice none 0 0) 0 [] := ⟨rfl, World.ownsRow_nil w base 27 2⟩
theorem OwnD.lower {base' : Nat} (h : OwnD w base v n ds) (hb : base' ≤ base) : OwnD w base' v n ds := by
  rcases h with ⟨h0, h1, h2 | ⟨g, cap, cur, hv, hg, r⟩⟩
  · exact ⟨h0, h1, .inl h2⟩
  · exact ⟨h0, h1, .inr ⟨g, cap, cur, hv, by omega, r⟩⟩
end
theorem OwnD.lit (w : World) (base : Nat) (ds : List Dt) (cs : Array Value) (n : Nat) (hcs : cs = (flatD ds).toArray) (hn : ds.length = n) (hb : base ≤ w.heap.size) (hm : n ≤ 1099511627776) :
    OwnD (w.alloc (.cells cs 27)) base (.slice (some ⟨w.heap.size, 0, none⟩) n n) n ds := by
  subst hcs
  have := World.ownsRow_lit (base := base) (e := 27) (size := 2) w (flatD ds).toArray n hb (by simp [maxLen]; omega) (by simp [flatD_length, hn])
  exact ⟨hn, by simpa using this⟩
theorem oneCell_dots (ds : List Dt) : ∀ u ∈ flatD ds, u.oneCell' = true := by
  intro u hu
  unfold flatD at hu
  obtain ⟨d, _, hd⟩ := List.mem_flatMap.1 hu
  unfold dcs at hd
  rcases List.mem_cons.1 hd with rfl | hd
  · rfl
  · rw [List.mem_singleton.1 hd]; rfl
theorem info_dot : (Try.prog.info? 27).map (fun i => (i.zero, i.size, i.bytes)) = some (some (.agg #[.int .i64 0, .int .i64 0]), 2, 16) := by kernel_rfl
section
variable (w : World)
theorem run_append_dots (ty : TypeId) (base : Nat) (v : Value) (n : Nat) (zs : List Dt) (hown : OwnD w base v n zs) (A : Option Addr) (m c : Nat) (ys : List Dt) (hs : ND w A m ys)
    (hlen : n + m ≤ 1099511627776) (hbase : base ≤ w.heap.size) :
    ∃ v' w', (Builtin.append_ #[23, 23] ty #[v, .slice A m c]).run Try.prog w = .ok v' w' ∧ OwnD w' base v' (n + m) (zs ++ ys) ∧ w.grownBy w' v.ownBlock ∧
      (v'.ownBlock = v.ownBlock ∨ v'.ownBlock = some w.heap.size) := by
  obtain ⟨i, hi, hz, hsz, hby⟩ := info_parts info_dot
  have ht := Try.underlying23
  by_cases hm : m = 0
  · subst hm
    have hn : ys = [] := List.eq_nil_of_length_eq_zero hs.1
    subst hn
    refine ⟨v, w, ?_, by simpa using hown, ⟨rfl, rfl, rfl, Nat.le_refl _, fun _ _ _ => rfl⟩, .inl rfl⟩
    rcases hown.2.2 with ⟨rfl, rfl⟩ | ⟨g, cap, cur, rfl, _, _, hnc, _⟩ <;> cases A <;>
      simp [Builtin.append_, run_underlying ht, sizeOf, typeInfo, Builtin.lenOf, Builtin.firstCells, loadCells, loadCellsFrom, storeCells, *]
  · obtain ⟨b, off, rfl, hc⟩ := hs.2 (by omega)
    have hl : (flatD ys).length = m * 2 := by rw [flatD_length, hs.1]
    obtain ⟨v', w', hr, h2, h3, _, h5⟩ := run_append_own_at (P := Try.prog) w base 23 ty 27 i _ 2 16 ht hi hz hsz hby rfl (by omega) v n _ hown.2 ⟨b, off, none⟩ m c (flatD ys) hl (fun j u hu => by
      rw [Addr.add_lit]
      exact hc j u hu) (oneCell_dots ys) (by simp [maxLen]; omega) (by omega) hbase
    exact ⟨v', w', hr, ⟨by rw [List.length_append, hown.1, hs.1], by rw [flatD_append]; exact h2⟩, h3, h5⟩
theorem wpList_append_dots {ops : Array Oper} {rest : List Oper} {o : Oper} {a : Act} {Q : Exit → Act → World → Prop} (hgd : o.guard = none) (s x : Operand)
    (ho : o.op = .call { callee := .builtin .append, args := #[s, x], argTypes := #[23, 23] })
    (base : Nat) (v : Value) (n : Nat) (zs : List Dt) (hv : a.eval s = v) (hown : OwnD w base v n zs) (A : Option Addr) (m c : Nat) (ys : List Dt) (hx : a.eval x = .slice A m c) (hs : ND w A m ys)
    (hlen : n + m ≤ 1099511627776) (hbase : base ≤ w.heap.size)
    (h : ∀ v' w', OwnD w' base v' (n + m) (zs ++ ys) → w.grownBy w' v.ownBlock → (v'.ownBlock = v.ownBlock ∨ v'.ownBlock = some w.heap.size) → wpList Try.prog ops Q rest (a.put o.dst v') w') :
    wpList Try.prog ops Q (o :: rest) a w := by
  refine wpList_plain hgd fun K hK => ?_
  obtain ⟨v', w', hr, h2, h3, h4⟩ := run_append_dots w o.type base v n zs hown A m c ys hs hlen hbase
  unfold Oper.wp execOp
  simp only [ho, resolve, invoke, builtin, Sem.run_bind, Sem.run_pure, Result.andThen_ok, List.map_toArray, List.map_cons, List.map_nil, hv, hx, hr]
  exact hK _ _ (h v' w' h2 h3 h4)
end
end Go.Proofs.Ythjflgnoeenenaa
