/- Lists of numbers in memory: ones that came in, ones that the call made; append and make onto them. -/
import Derived.Test.YthjflgnoeenenaaProg
import Derived.Test.YthjflgnoeenenaaRegIn
import Derived.Maps.AppendAt
import Derived.Laws.AppendOwn
namespace Go.Proofs.Ythjflgnoeenenaa
open Go Go.RowKit

def iv (z : Int) : Value := .int .i64 z
/-- In the world w the n cells from A on hold the numbers zs. -/
def NI (w : World) (A : Option Addr) (n : Nat) (zs : List Int) : Prop :=
  zs.length = n ∧ (0 < n → ∃ b off, A = some ⟨b, off, none⟩ ∧ ∀ j z, zs[j]? = some z → w.cell? ⟨b, off + j, none⟩ = some (.int .i64 z))
theorem NI.keep {w w' : World} {A : Option Addr} {n : Nat} {zs : List Int} (h : NI w A n zs) (hb : Below w.heap.size w w') : NI w' A n zs :=
  ⟨h.1, fun hn => by
    obtain ⟨b, off, e, hc⟩ := h.2 hn
    exact ⟨b, off, e, fun j x hj => (hb.cell (p := ⟨b, off + j, none⟩) (lt_of_cell (hc j x hj))).trans (hc j x hj)⟩⟩
theorem NI.block {w w' : World} {A : Option Addr} {n : Nat} {zs : List Int} (h : NI w A n zs) (hb : ∀ b off, A = some ⟨b, off, none⟩ → 0 < n → w'.heap[b]? = w.heap[b]?) : NI w' A n zs :=
  ⟨h.1, fun hn => by
    obtain ⟨b, off, e, hc⟩ := h.2 hn
    exact ⟨b, off, e, fun j x hj => (World.cell?_of_block (a := ⟨b, off + j, none⟩) (hb b off e hn)).trans (hc j x hj)⟩⟩
theorem NI.nil (w : World) (A : Option Addr) : NI w A 0 [] := ⟨rfl, fun h => absurd h (by omega)⟩
theorem NI.at_ {w : World} {A : Option Addr} {n : Nat} {zs : List Int} (h : NI w A n zs) {k : Nat} (hk : k < n) : ∃ b off z, A = some ⟨b, off, none⟩ ∧ zs[k]? = some z ∧ w.cell? ⟨b, off + k, none⟩ = some (.int .i64 z) := by
  obtain ⟨b, off, e, hc⟩ := h.2 (by omega)
  have hl : k < zs.length := by have := h.1; omega
  exact ⟨b, off, zs[k], e, List.getElem?_eq_getElem hl, hc k _ (List.getElem?_eq_getElem hl)⟩
/-- A list of the call's own. -/
def OwnN (w : World) (base : Nat) (v : Value) (n : Nat) (zs : List Int) : Prop := w.ownsRow base 3 1 v n (zs.map iv)
section
variable {w w' : World} {base : Nat} {v : Value} {n : Nat} {zs : List Int}
theorem OwnN.len (h : OwnN w base v n zs) : zs.length = n := by have := h.1; simpa using this
theorem OwnN.ni (h : OwnN w base v n zs) : ∃ A c, v = .slice A n c ∧ n ≤ c ∧ NI w A n zs ∧ ∀ b off, A = some ⟨b, off, none⟩ → v.ownBlock = some b ∧ off = 0 := by
  have hl := h.len
  rcases h.2 with ⟨rfl, rfl⟩ | ⟨g, cap, cur, rfl, hb, hg, hnc, hcm, hcs, ht⟩
  · exact ⟨none, 0, rfl, Nat.le_refl _, ⟨hl, fun h => absurd h (by omega)⟩, fun b off e => by cases e⟩
  · refine ⟨some ⟨g, 0, none⟩, cap, rfl, hnc, ⟨hl, fun _ => ⟨g, 0, rfl, fun j x hj => ?_⟩⟩, fun b off e => by cases e; exact ⟨rfl, rfl⟩⟩
    have := World.ownsRow.cells h (g := g) rfl j (iv x) (by simp [hj])
    simpa [Addr.add_lit, iv] using this
theorem OwnN.lt (h : OwnN w base v n zs) : ∀ g, v.ownBlock = some g → base ≤ g ∧ g < w.heap.size := World.ownsRow.lt h
theorem OwnN.kept {row : Option Nat} (h : OwnN w base v n zs) (hg : w.grownBy w' row) (hne : v.ownBlock = none ∨ v.ownBlock ≠ row) : OwnN w' base v n zs := World.ownsRow.kept h hg hne
theorem OwnN.keep (h : OwnN w base v n zs) (hb : Below w.heap.size w w') : OwnN w' base v n zs := World.ownsRow.kept h (grown_of_below hb none) (by
  rcases hv : v.ownBlock with _ | g
  · exact .inl rfl
  · exact .inr (by simp))
theorem OwnN.nil (w : World) (base : Nat) : OwnN w base (.slice none 0 0) 0 [] := World.ownsRow_nil w base 3 1
theorem OwnN.lower {base' : Nat} (h : OwnN w base v n zs) (hb : base' ≤ base) : OwnN w base' v n zs := by
  rcases h with ⟨h1, h2 | ⟨g, cap, cur, hv, hg, r⟩⟩
  · exact ⟨h1, .inl h2⟩
  · exact ⟨h1, .inr ⟨g, cap, cur, hv, by omega, r⟩⟩
/-- a world that keeps the list's own block -/
theorem OwnN.block (h : OwnN w base v n zs) (hb : ∀ b, v.ownBlock = some b → w'.heap[b]? = w.heap[b]?) : OwnN w' base v n zs := by
  rcases h with ⟨h1, h2 | ⟨g, cap, cur, hv, hg, h4, r⟩⟩
  · exact ⟨h1, .inl h2⟩
  · exact ⟨h1, .inr ⟨g, cap, cur, hv, hg, (hb g (by rw [hv]; rfl)).trans h4, r⟩⟩
end
theorem OwnN.lit (w : World) (base : Nat) (zs : List Int) (cs : Array Value) (n : Nat) (hcs : cs = (zs.map iv).toArray) (hn : zs.length = n) (hb : base ≤ w.heap.size) (hm : n ≤ 1099511627776) :
    OwnN (w.alloc (.cells cs 3)) base (.slice (some ⟨w.heap.size, 0, none⟩) n n) n zs := by
  subst hcs
  have := World.ownsRow_lit (base := base) (e := 3) (size := 1) w (zs.map iv).toArray n hb (by simp [maxLen]; omega) (by simp [hn])
  simpa [OwnN] using this
theorem oneCell_ints (zs : List Int) : ∀ u ∈ zs.map iv, u.oneCell' = true := by
  intro u hu
  obtain ⟨_, _, rfl⟩ := List.mem_map.1 hu
  rfl
theorem info_int : (Try.prog.info? 3).map (fun i => (i.zero, i.size, i.bytes)) = some (some (.int .i64 0), 1, 8) := by kernel_rfl
section
variable (w : World)
theorem run_append_ints (ty : TypeId) (base : Nat) (v : Value) (n : Nat) (zs : List Int) (hown : OwnN w base v n zs) (A : Option Addr) (m c : Nat) (ys : List Int) (hs : NI w A m ys)
    (hlen : n + m ≤ 1099511627776) (hbase : base ≤ w.heap.size) :
    ∃ v' w', (Builtin.append_ #[22, 22] ty #[v, .slice A m c]).run Try.prog w = .ok v' w' ∧ OwnN w' base v' (n + m) (zs ++ ys) ∧ w.grownBy w' v.ownBlock ∧
      (v'.ownBlock = v.ownBlock ∨ v'.ownBlock = some w.heap.size) := by
  obtain ⟨i, hi, hz, hsz, hby⟩ := info_parts info_int
  have ht := Try.underlying22
  by_cases hm : m = 0
  · subst hm
    have hn : ys = [] := List.eq_nil_of_length_eq_zero hs.1
    subst hn
    refine ⟨v, w, ?_, by simpa using hown, ⟨rfl, rfl, rfl, Nat.le_refl _, fun _ _ _ => rfl⟩, .inl rfl⟩
    rcases hown.2 with ⟨rfl, rfl⟩ | ⟨g, cap, cur, rfl, _, _, hnc, _⟩ <;> cases A <;>
      simp [Builtin.append_, run_underlying ht, sizeOf, typeInfo, Builtin.lenOf, Builtin.firstCells, loadCells, loadCellsFrom, storeCells, *]
  · obtain ⟨b, off, rfl, hc⟩ := hs.2 (by omega)
    have hl : (ys.map iv).length = m * 1 := by simp [hs.1]
    obtain ⟨v', w', hr, h2, h3, _, h5⟩ := run_append_own_at (P := Try.prog) w base 22 ty 3 i _ 1 8 ht hi hz hsz hby rfl (by omega) v n _ hown ⟨b, off, none⟩ m c (ys.map iv) hl (fun j u hu => by
      rw [List.getElem?_map] at hu
      obtain ⟨x, hx, rfl⟩ := Option.map_eq_some_iff.1 hu
      rw [Addr.add_lit]
      exact hc j x hx) (oneCell_ints ys) (by simp [maxLen]; omega) (by omega) hbase
    exact ⟨v', w', hr, by rw [OwnN, List.map_append]; exact h2, h3, h5⟩
theorem wpList_append_ints {ops : Array Oper} {rest : List Oper} {o : Oper} {a : Act} {Q : Exit → Act → World → Prop} (hgd : o.guard = none) (s x : Operand)
    (ho : o.op = .call { callee := .builtin .append, args := #[s, x], argTypes := #[22, 22] })
    (base : Nat) (v : Value) (n : Nat) (zs : List Int) (hv : a.eval s = v) (hown : OwnN w base v n zs) (A : Option Addr) (m c : Nat) (ys : List Int) (hx : a.eval x = .slice A m c) (hs : NI w A m ys)
    (hlen : n + m ≤ 1099511627776) (hbase : base ≤ w.heap.size)
    (h : ∀ v' w', OwnN w' base v' (n + m) (zs ++ ys) → w.grownBy w' v.ownBlock → (v'.ownBlock = v.ownBlock ∨ v'.ownBlock = some w.heap.size) → wpList Try.prog ops Q rest (a.put o.dst v') w') :
    wpList Try.prog ops Q (o :: rest) a w := by
  refine wpList_plain hgd fun K hK => ?_
  obtain ⟨v', w', hr, h2, h3, h4⟩ := run_append_ints w o.type base v n zs hown A m c ys hs hlen hbase
  unfold Oper.wp execOp
  simp only [ho, resolve, invoke, builtin, Sem.run_bind, Sem.run_pure, Result.andThen_ok, List.map_toArray, List.map_cons, List.map_nil, hv, hx, hr]
  exact hK _ _ (h v' w' h2 h3 h4)
/-- make([]int, 0, n) -/
theorem wpList_make_ints {ops : Array Oper} {rest : List Oper} {o : Oper} {a : Act} {Q : Exit → Act → World → Prop} (hgd : o.guard = none) (l c : Operand) (ho : o.op = Op.makeSlice 22 l c)
    (N : Int) (n : Nat) (hl : a.eval l = .int .i64 0) (hc : a.eval c = .int .i64 N) (hN : N = (n : Int)) (hn : n ≤ 1099511627776)
    (h : ∀ w', OwnN w' w.heap.size (.slice (some ⟨w.heap.size, 0, none⟩) 0 n) 0 [] → Below w.heap.size w w' → wpList Try.prog ops Q rest (a.put o.dst (.slice (some ⟨w.heap.size, 0, none⟩) 0 n)) w') :
    wpList Try.prog ops Q (o :: rest) a w := by
  obtain ⟨i, hi, hz, hsz, hby⟩ := info_parts info_int
  exact wpList_make_own w hgd l c 22 ho w.heap.size 3 i _ 1 Try.underlying22 hi hz hsz .i64 .i64 N n hl hc hN (by rw [hby]; omega) (by simp [maxLen]; omega) (Nat.le_refl _)
    (fun w' h1 h2 => h w' h1 (below_of_grown h2 (Nat.le_refl _) (fun g e => by cases e)))
/-- make([]int, n): noughts -/
theorem wpList_zeros_ints {ops : Array Oper} {rest : List Oper} {o : Oper} {a : Act} {Q : Exit → Act → World → Prop} (hgd : o.guard = none) (l c : Operand) (ho : o.op = Op.makeSlice 22 l c)
    (N : Int) (n : Nat) (hl : a.eval l = .int .i64 N) (hc : a.eval c = .int .i64 N) (hN : N = (n : Int)) (hn : n ≤ 1099511627776)
    (h : ∀ w', OwnN w' w.heap.size (.slice (some ⟨w.heap.size, 0, none⟩) n n) n (List.replicate n 0) → Below w.heap.size w w' → wpList Try.prog ops Q rest (a.put o.dst (.slice (some ⟨w.heap.size, 0, none⟩) n n)) w') :
    wpList Try.prog ops Q (o :: rest) a w := by
  obtain ⟨i, hi, hz, hsz, hby⟩ := info_parts info_int
  refine wpList_make_full w hgd l c 22 ho w.heap.size 3 i _ 1 Try.underlying22 hi hz hsz .i64 .i64 N N n hl hc hN hN (by rw [hby]; omega) (by simp [maxLen]; omega) (Nat.le_refl _)
    (fun w' h1 h2 => h w' ?_ (below_of_grown h2 (Nat.le_refl _) (fun g e => by cases e)))
  rw [show Value.cells (.int .i64 0) = #[Value.int .i64 0] from rfl, toList_madeCells_one, Nat.mul_one] at h1
  rw [OwnN, List.map_replicate]
  exact h1
end
end Go.Proofs.Ythjflgnoeenenaa
