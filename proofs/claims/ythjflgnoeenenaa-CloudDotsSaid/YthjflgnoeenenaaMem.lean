/- Bytes in memory: slices that read as a list of bytes, rows of bytes that a call made, and append onto them. Plain lemmas over any program; nothing here speaks of one. -/
import Derived.WalkKit
import Derived.Handy
import Derived.Maps.AppendAt
import Derived.Deep.AppendLies
import Derived.Deep.Draws
namespace Go.Proofs.Ythjflgnoeenenaa
open Go.RowKit

theorem hid {p : Prop} (h : p) : Hid p := h
theorem ret_int {k : IntKind} {a b : Int} (h : a = b) : Ending.returned (.int k a) = .returned (.int k b) := by rw [h]
theorem ret_bool {a b : Bool} (h : a = b) : Ending.returned (.bool a) = .returned (.bool b) := by rw [h]
theorem val_int {k : IntKind} {a b : Int} (h : a = b) : Value.int k a = .int k b := by rw [h]

/-- A goal that the walk is to leave alone for now. -/
def Held (p : Prop) : Prop := p
theorem Held.go {p : Prop} (h : Held p) : p := h

/-- a byte in a cell -/
def bv (b : UInt8) : Value := .int .u8 (b.toNat : Int)

/-- In the world w the n cells from A on hold the bytes bs, in a block below B. -/
def SB (w : World) (B : Nat) (A : Option Addr) (n : Nat) (bs : List UInt8) : Prop :=
  bs.length = n ∧ (0 < n → ∃ b off, A = some ⟨b, off, none⟩ ∧ b < B ∧ ∀ j x, bs[j]? = some x → w.cell? ⟨b, off + j, none⟩ = some (bv x))

section
variable {w w' : World} {B B' n : Nat} {A : Option Addr} {bs : List UInt8}

theorem SB.nil (w : World) (B : Nat) (A : Option Addr) : SB w B A 0 [] := ⟨rfl, fun h => absurd h (by omega)⟩
theorem SB.len (h : SB w B A n bs) : bs.length = n := h.1
theorem SB.at_ (h : SB w B A n bs) {k : Nat} (hk : k < n) : ∃ b off x, A = some ⟨b, off, none⟩ ∧ b < B ∧ bs[k]? = some x ∧ w.cell? ⟨b, off + k, none⟩ = some (.int .u8 (x.toNat : Int)) := by
  obtain ⟨b, off, e, hb, hc⟩ := h.2 (by omega)
  have hl : k < bs.length := by have := h.1; omega
  exact ⟨b, off, bs[k], e, hb, List.getElem?_eq_getElem hl, hc k _ (List.getElem?_eq_getElem hl)⟩
theorem lt_of_cell {w : World} {b o : Nat} {v : Value} (h : w.cell? ⟨b, o, none⟩ = some v) : b < w.heap.size := by
  rcases Nat.lt_or_ge b w.heap.size with hlt | hge
  · exact hlt
  · unfold World.cell? at h; rw [Array.getElem?_eq_none hge] at h; cases h
theorem SB.keepB (h : SB w B A n bs) (hb : Below B w w') : SB w' B A n bs :=
  ⟨h.1, fun hn => by
    obtain ⟨b, off, e, hlt, hc⟩ := h.2 hn
    exact ⟨b, off, e, hlt, fun j x hj => (hb.cell (p := ⟨b, off + j, none⟩) hlt).trans (hc j x hj)⟩⟩
theorem SB.keep (h : SB w B A n bs) (hb : Below w.heap.size w w') : SB w' B A n bs :=
  ⟨h.1, fun hn => by
    obtain ⟨b, off, e, hlt, hc⟩ := h.2 hn
    exact ⟨b, off, e, hlt, fun j x hj => (hb.cell (p := ⟨b, off + j, none⟩) (lt_of_cell (hc j x hj))).trans (hc j x hj)⟩⟩
theorem SB.grown (h : SB w B A n bs) {row : Option Nat} (hg : w.grownBy w' row) (hr : ∀ g, row = some g → B ≤ g) : SB w' B A n bs :=
  ⟨h.1, fun hn => by
    obtain ⟨b, off, e, hlt, hc⟩ := h.2 hn
    exact ⟨b, off, e, hlt, fun j x hj => by
      rw [← hc j x hj]
      exact World.cell?_of_block (hg.block b (lt_of_cell (hc j x hj)) (fun e => by have := hr _ e.symm; omega))⟩⟩
theorem SB.more (h : SB w B A n bs) (hB : B ≤ B') : SB w B' A n bs :=
  ⟨h.1, fun hn => by
    obtain ⟨b, off, e, hlt, hc⟩ := h.2 hn
    exact ⟨b, off, e, by omega, hc⟩⟩
theorem SB.fit (h : SB w B A n bs) : SB w w.heap.size A n bs :=
  ⟨h.1, fun hn => by
    obtain ⟨b, off, e, hlt, hc⟩ := h.2 hn
    have hl : 0 < bs.length := by have := h.1; omega
    exact ⟨b, off, e, lt_of_cell (hc 0 _ (List.getElem?_eq_getElem hl)), hc⟩⟩
theorem SB.drewN (h : SB w B A n bs) (k : Nat) : SB (w.drewN k) B A n bs := h
theorem SB.drew (h : SB w B A n bs) : SB w.drew B A n bs := h
theorem SB.take (h : SB w B A n bs) (k : Nat) (hk : k ≤ n) : SB w B A k (bs.take k) :=
  ⟨by rw [List.length_take, h.1]; omega, fun hn => by
    obtain ⟨b, off, e, hlt, hc⟩ := h.2 (by omega)
    refine ⟨b, off, e, hlt, fun j x hj => hc j x ?_⟩
    rw [List.getElem?_take] at hj
    split at hj
    · exact hj
    · cases hj⟩
theorem SB.drop (h : SB w B A n bs) {k c : Nat} (hk : k ≤ n) (hc : n ≤ c) : SB w B (if c = k then A else A.map (·.add k)) (n - k) (bs.drop k) :=
  ⟨by rw [List.length_drop, h.1], fun hn => by
    obtain ⟨b, off, rfl, hlt, hcell⟩ := h.2 (by omega)
    rw [if_neg (by omega)]
    refine ⟨b, off + k, by simp [Addr.add_lit], hlt, fun j x hj => ?_⟩
    rw [Nat.add_assoc]
    exact hcell _ x (by rw [← hj, List.getElem?_drop])⟩
end

/-- A row of the call's own: a slice value and its bytes. -/
def Own (w : World) (base : Nat) (e : TypeId) (v : Value) (n : Nat) (bs : List UInt8) : Prop := w.ownsRow base e 1 v n (bs.map bv)

section
variable {w w' : World} {base : Nat} {e : TypeId} {v : Value} {n : Nat} {bs : List UInt8}
theorem Own.len (h : Own w base e v n bs) : bs.length = n := by have := h.1; simpa using this
/-- its form: a slice, its bytes to be read -/
theorem Own.sb (h : Own w base e v n bs) : ∃ A c, v = .slice A n c ∧ n ≤ c ∧ SB w w.heap.size A n bs ∧ (∀ g, v.ownBlock = some g → base ≤ g ∧ g < w.heap.size) := by
  have hl := h.len
  have hlt := World.ownsRow.lt h
  rcases h.2 with ⟨rfl, rfl⟩ | ⟨g, cap, cur, rfl, hb, hg, hnc, hcm, hcs, ht⟩
  · refine ⟨none, 0, rfl, Nat.le_refl _, ⟨hl, fun h => absurd h (by omega)⟩, hlt⟩
  · refine ⟨some ⟨g, 0, none⟩, cap, rfl, hnc, ⟨hl, fun _ => ⟨g, 0, rfl, (hlt g rfl).2, fun j x hj => ?_⟩⟩, hlt⟩
    have := World.ownsRow.cells h (g := g) rfl j (bv x) (by simp [hj])
    simpa [Addr.add_lit] using this
theorem Own.kept {row : Option Nat} (h : Own w base e v n bs) (hg : w.grownBy w' row) (hne : v.ownBlock = none ∨ v.ownBlock ≠ row) : Own w' base e v n bs := World.ownsRow.kept h hg hne
theorem grown_of_below {w w' : World} (h : Below w.heap.size w w') (row : Option Nat) : w.grownBy w' row := ⟨h.os, h.tape, h.output, h.size, fun k hk _ => h.block k hk⟩
theorem below_of_grown {w w' : World} {B : Nat} {row : Option Nat} (h : w.grownBy w' row) (hB : B ≤ w.heap.size) (hr : ∀ g, row = some g → B ≤ g) : Below B w w' := (Below.refl B w).grown h hB hr
theorem Own.keep (h : Own w base e v n bs) (hb : Below w.heap.size w w') : Own w' base e v n bs := World.ownsRow.kept h (grown_of_below hb none) (by
  rcases hv : v.ownBlock with _ | g
  · exact .inl rfl
  · exact .inr (by simp))
theorem Own.nil (w : World) (base : Nat) (e : TypeId) : Own w base e (.slice none 0 0) 0 [] := World.ownsRow_nil w base e 1
theorem Own.lower {base' : Nat} (h : Own w base e v n bs) (hb : base' ≤ base) : Own w base' e v n bs := by
  rcases h with ⟨h1, h2 | ⟨g, cap, cur, hv, hg, r⟩⟩
  · exact ⟨h1, .inl h2⟩
  · exact ⟨h1, .inr ⟨g, cap, cur, hv, by omega, r⟩⟩
end

theorem Own.lit (w : World) (e : TypeId) (base : Nat) (bs : List UInt8) (cs : Array Value) (n : Nat) (hcs : cs = (bs.map bv).toArray) (hn : bs.length = n) (hb : base ≤ w.heap.size) (hm : n ≤ 1099511627776) :
    Own (w.alloc (.cells cs e)) base e (.slice (some ⟨w.heap.size, 0, none⟩) n n) n bs := by
  subst hcs
  have := World.ownsRow_lit (base := base) (e := e) (size := 1) w (bs.map bv).toArray n hb (by simp [maxLen]; omega) (by simp [hn])
  simpa [Own] using this
theorem Own.drew {w : World} {base : Nat} {e : TypeId} {v : Value} {n : Nat} {bs : List UInt8} (h : Own w base e v n bs) : Own w.drew base e v n bs := h
theorem Own.block {w : World} {base : Nat} {e : TypeId} {v : Value} {n : Nat} {bs : List UInt8} (h : Own w base e v n bs) : ∀ g, v.ownBlock = some g → base ≤ g ∧ g < w.heap.size := World.ownsRow.lt h

theorem oneCell_bytes (bs : List UInt8) : ∀ u ∈ bs.map bv, u.oneCell' = true := by
  intro u hu
  obtain ⟨_, _, rfl⟩ := List.mem_map.1 hu
  rfl

section
variable {P : Program} (w : World)

theorem run_append_bytes (t ty e : TypeId) (base : Nat) (ht : P.underlying t = some (.slice e)) (he : (P.info? e).map (fun i => (i.zero, i.size, i.bytes)) = some (some (.int .u8 0), 1, 1))
    (v : Value) (n : Nat) (bs : List UInt8) (hown : Own w base e v n bs) (B : Nat) (A : Option Addr) (m c : Nat) (cs : List UInt8) (hs : SB w B A m cs)
    (hlen : n + m ≤ 1099511627776) (hbase : base ≤ w.heap.size) :
    ∃ v' w', (Builtin.append_ #[t, t] ty #[v, .slice A m c]).run P w = .ok v' w' ∧ Own w' base e v' (n + m) (bs ++ cs) ∧ w.grownBy w' v.ownBlock ∧
      (v'.ownBlock = v.ownBlock ∨ v'.ownBlock = some w.heap.size) := by
  obtain ⟨i, hi, hz, hsz, hby⟩ := info_parts he
  by_cases hm : m = 0
  · subst hm
    have hn : cs = [] := List.eq_nil_of_length_eq_zero hs.1
    subst hn
    refine ⟨v, w, ?_, by simpa using hown, ⟨rfl, rfl, rfl, Nat.le_refl _, fun _ _ _ => rfl⟩, .inl rfl⟩
    rcases hown.2 with ⟨rfl, rfl⟩ | ⟨g, cap, cur, rfl, _, _, hnc, _⟩ <;> cases A <;>
      simp [Builtin.append_, run_underlying ht, sizeOf, typeInfo, Builtin.lenOf, Builtin.firstCells, loadCells, loadCellsFrom, storeCells, *]
  · obtain ⟨b, off, rfl, _, hc⟩ := hs.2 (by omega)
    have hl : (cs.map bv).length = m * 1 := by simp [hs.1]
    obtain ⟨v', w', hr, h2, h3, _, h5⟩ := run_append_own_at (P := P) w base t ty e i _ 1 1 ht hi hz hsz hby rfl (by omega) v n _ hown ⟨b, off, none⟩ m c (cs.map bv) hl (fun j u hu => by
      rw [List.getElem?_map] at hu
      obtain ⟨x, hx, rfl⟩ := Option.map_eq_some_iff.1 hu
      rw [Addr.add_lit]
      exact hc j x hx) (oneCell_bytes cs) (by simp [maxLen]; omega) (by omega) hbase
    exact ⟨v', w', hr, by rw [Own, List.map_append]; exact h2, h3, h5⟩

theorem wpList_append_bytes {ops : Array Oper} {rest : List Oper} {o : Oper} {a : Act} {Q : Exit → Act → World → Prop} (hgd : o.guard = none) (s x : Operand) (t : TypeId)
    (ho : o.op = .call { callee := .builtin .append, args := #[s, x], argTypes := #[t, t] })
    (e : TypeId) (ht : P.underlying t = some (.slice e)) (he : (P.info? e).map (fun i => (i.zero, i.size, i.bytes)) = some (some (.int .u8 0), 1, 1))
    (base : Nat) (v : Value) (n : Nat) (bs : List UInt8) (hv : a.eval s = v) (hown : Own w base e v n bs) (B : Nat) (A : Option Addr) (m c : Nat) (cs : List UInt8) (hx : a.eval x = .slice A m c) (hs : SB w B A m cs)
    (hlen : n + m ≤ 1099511627776) (hbase : base ≤ w.heap.size)
    (h : ∀ v' w', Own w' base e v' (n + m) (bs ++ cs) → w.grownBy w' v.ownBlock → (v'.ownBlock = v.ownBlock ∨ v'.ownBlock = some w.heap.size) → wpList P ops Q rest (a.put o.dst v') w') :
    wpList P ops Q (o :: rest) a w := by
  refine wpList_plain hgd fun K hK => ?_
  obtain ⟨v', w', hr, h2, h3, h4⟩ := run_append_bytes (P := P) w t o.type e base ht he v n bs hown B A m c cs hs hlen hbase
  unfold Oper.wp execOp
  simp only [ho, resolve, invoke, builtin, Sem.run_bind, Sem.run_pure, Result.andThen_ok, List.map_toArray, List.map_cons, List.map_nil, hv, hx, hr]
  exact hK _ _ (h v' w' h2 h3 h4)

/-- The same as one step of a region that draws its order. -/
theorem step_append_bytes {ops : Array Oper} {o : Oper} {a : Act} {K : Act → World → Prop} {Q : Exit → Act → World → Prop} {E : Prop} (hgd : o.guard = none) (s x : Operand) (t : TypeId)
    (ho : o.op = .call { callee := .builtin .append, args := #[s, x], argTypes := #[t, t] })
    (e : TypeId) (ht : P.underlying t = some (.slice e)) (he : (P.info? e).map (fun i => (i.zero, i.size, i.bytes)) = some (some (.int .u8 0), 1, 1))
    (base : Nat) (v : Value) (n : Nat) (bs : List UInt8) (hv : a.eval s = v) (hown : Own w base e v n bs) (B : Nat) (A : Option Addr) (m c : Nat) (cs : List UInt8) (hx : a.eval x = .slice A m c) (hs : SB w B A m cs)
    (hlen : n + m ≤ 1099511627776) (hbase : base ≤ w.heap.size)
    (h : ∀ v' w', Own w' base e v' (n + m) (bs ++ cs) → w.grownBy w' v.ownBlock → (v'.ownBlock = v.ownBlock ∨ v'.ownBlock = some w.heap.size) → K (a.put o.dst v') w') :
    if Region.wanted o (yielded ops a.tmps) = true then Oper.wp P o a w K Q else E := by
  have hw : Region.wanted o (yielded ops a.tmps) = true := by simp [Region.wanted, hgd]
  rw [if_pos hw]
  obtain ⟨v', w', hr, h2, h3, h4⟩ := run_append_bytes (P := P) w t o.type e base ht he v n bs hown B A m c cs hs hlen hbase
  unfold Oper.wp execOp
  simp only [ho, resolve, invoke, builtin, Sem.run_bind, Sem.run_pure, Result.andThen_ok, List.map_toArray, List.map_cons, List.map_nil, hv, hx, hr]
  exact h v' w' h2 h3 h4

/-- make([]byte, 0, n) -/
theorem wpList_make_bytes {ops : Array Oper} {rest : List Oper} {o : Oper} {a : Act} {Q : Exit → Act → World → Prop} (hgd : o.guard = none) (l c : Operand) (t : TypeId) (ho : o.op = Op.makeSlice t l c)
    (e : TypeId) (ht : P.underlying t = some (.slice e)) (he : (P.info? e).map (fun i => (i.zero, i.size, i.bytes)) = some (some (.int .u8 0), 1, 1))
    (N : Int) (n : Nat) (hl : a.eval l = .int .i64 0) (hc : a.eval c = .int .i64 N) (hN : N = (n : Int)) (hn : n ≤ 1099511627776)
    (h : ∀ w', Own w' w.heap.size e (.slice (some ⟨w.heap.size, 0, none⟩) 0 n) 0 [] → Below w.heap.size w w' → wpList P ops Q rest (a.put o.dst (.slice (some ⟨w.heap.size, 0, none⟩) 0 n)) w') :
    wpList P ops Q (o :: rest) a w := by
  obtain ⟨i, hi, hz, hsz, hby⟩ := info_parts he
  exact wpList_make_own w hgd l c t ho w.heap.size e i _ 1 ht hi hz hsz .i64 .i64 N n hl hc hN (by rw [hby]; omega) (by simp [maxLen]; omega) (Nat.le_refl _)
    (fun w' h1 h2 => h w' h1 (below_of_grown h2 (Nat.le_refl _) (fun g e => by cases e)))
/-- make([]byte, n): noughts -/
theorem wpList_zeros_bytes {ops : Array Oper} {rest : List Oper} {o : Oper} {a : Act} {Q : Exit → Act → World → Prop} (hgd : o.guard = none) (l c : Operand) (t : TypeId) (ho : o.op = Op.makeSlice t l c)
    (e : TypeId) (ht : P.underlying t = some (.slice e)) (he : (P.info? e).map (fun i => (i.zero, i.size, i.bytes)) = some (some (.int .u8 0), 1, 1))
    (N : Int) (n : Nat) (hl : a.eval l = .int .i64 N) (hc : a.eval c = .int .i64 N) (hN : N = (n : Int)) (hn : n ≤ 1099511627776)
    (h : ∀ w', Own w' w.heap.size e (.slice (some ⟨w.heap.size, 0, none⟩) n n) n (List.replicate n 0) → Below w.heap.size w w' → wpList P ops Q rest (a.put o.dst (.slice (some ⟨w.heap.size, 0, none⟩) n n)) w') :
    wpList P ops Q (o :: rest) a w := by
  obtain ⟨i, hi, hz, hsz, hby⟩ := info_parts he
  refine wpList_make_full w hgd l c t ho w.heap.size e i _ 1 ht hi hz hsz .i64 .i64 N N n hl hc hN hN (by rw [hby]; omega) (by simp [maxLen]; omega) (Nat.le_refl _)
    (fun w' h1 h2 => h w' ?_ (below_of_grown h2 (Nat.le_refl _) (fun g e => by cases e)))
  rw [show Value.cells (.int .u8 0) = #[Value.int .u8 0] from rfl, toList_madeCells_one, Nat.mul_one] at h1
  rw [Own, List.map_replicate]
  exact h1
end
end Go.Proofs.Ythjflgnoeenenaa
