/- A law's own links next to other blocks of the law's; a row of digests that is an argument; Pick. -/
import Derived.Test.YtjgnbmkhibdcfaaQtKnownW
import Derived.Test.YtjgnbmkhibdcfaaIdBytes
import Derived.Deep.Slices
import Derived.ChangeOld
import Derived.OpenShut
namespace Go.Proofs.Ytjgnbmkhibdcfaa
open Go.ChangeShapes Go.WideShapes Go.ChangeAt Go.RowKit Go.Deep Crc

abbrev HBlk := Nat × TypeId × Array Value
/-- the links of a law, and blocks H that they don't reach -/
def Q2 (w0 : World) (H : List HBlk) (w : World) (s n : Nat) (q : QS) : Prop := ∃ F m u g, QtB w F s m u n q g ∧ (∀ x ∈ F, w0.heap.size ≤ x) ∧ Below w0.heap.size w0 w ∧ ∀ p ∈ H, p.1 ∉ F ∧ Blk w p.1 p.2.1 p.2.2
section
variable {w0 w w' : World} {s n : Nat} {q : QS} {H : List HBlk}
theorem Q1.q2 (h : Q1 w0 w s n q) : Q2 w0 [] w s n q := by
  obtain ⟨F, m, u, g, h1, h2, h3⟩ := h
  exact ⟨F, m, u, g, h1, h2, h3, fun _ hp => by cases hp⟩
theorem Q2.q1 (h : Q2 w0 H w s n q) : Q1 w0 w s n q := by
  obtain ⟨F, m, u, g, h1, h2, h3, _⟩ := h
  exact ⟨F, m, u, g, h1, h2, h3⟩
theorem Q2.blk (h : Q2 w0 H w s n q) {p : HBlk} (hp : p ∈ H) : Blk w p.1 p.2.1 p.2.2 := by
  obtain ⟨F, m, u, g, h1, h2, h3, h4⟩ := h
  exact (h4 p hp).2
theorem Q2.keep (h : Q2 w0 H w s n q) (hb : Below w.heap.size w w') : Q2 w0 H w' s n q := by
  obtain ⟨F, m, u, g, h1, h2, h3, h4⟩ := h
  exact ⟨F, m, u, g, h1.keep hb, h2, h3.trans (hb.mono h3.size), fun p hp => ⟨(h4 p hp).1, (h4 p hp).2.keep hb⟩⟩
theorem Q2.mono {n' : Nat} (h : Q2 w0 H w s n q) (hn : n ≤ n') : Q2 w0 H w s n' q := by
  obtain ⟨F, m, u, g, h1, h2, h3, h4⟩ := h
  exact ⟨F, m, u, g, h1.mono hn, h2, h3, h4⟩
theorem Q2.below (h : Q2 w0 H w s n q) : Below w0.heap.size w0 w := h.q1.below
theorem Q2.ok (h : Q2 w0 H w s n q) : OKQ q := h.q1.ok
/-- one more block, laid now -/
theorem Q2.hold (h : Q2 w0 H w s n q) {t : TypeId} {cs : Array Value} {b : Nat} (hb : Below w.heap.size w w') (hn : w.heap.size ≤ b) (hk : Blk w' b t cs) : Q2 w0 ((b, t, cs) :: H) w' s n q := by
  obtain ⟨F, m, u, g, h1, h2, h3, h4⟩ := h
  refine ⟨F, m, u, g, h1.keep hb, h2, h3.trans (hb.mono h3.size), fun p hp => ?_⟩
  rcases List.mem_cons.1 hp with rfl | hp
  · exact ⟨fun hF => absurd (h1.lt _ hF) (by simpa using hn), hk⟩
  · exact ⟨(h4 p hp).1, (h4 p hp).2.keep hb⟩
theorem Q2.chg {F : List Nat} {m u n2 : Nat} {q2 : QS} {F' : List Nat} {g' : List UInt8 → Option Nat} (h3 : Below w0.heap.size w0 w) (h2 : ∀ x ∈ F, w0.heap.size ≤ x) (h4 : ∀ p ∈ H, p.1 ∉ F ∧ Blk w p.1 p.2.1 p.2.2) (hq : QtB w' F' s m u n2 q2 g') (hc : Chg F w w') (hF : ∀ x ∈ F', x ∈ F ∨ w.heap.size ≤ x) : Q2 w0 H w' s n2 q2 :=
  ⟨F', m, u, g', hq, fun x hx => (hF x hx).elim (h2 x) (fun h => Nat.le_trans h3.size h), h3.trans (hc.below h2 h3.size), fun p hp => ⟨fun hx => (hF _ hx).elim (h4 p hp).1 (fun h => absurd (h4 p hp).2.lt (by omega)), (h4 p hp).2.chg hc (h4 p hp).1⟩⟩
theorem AddP.q2 {F : List Nat} {m u : Nat} {g : List UInt8 → Option Nat} {k : LKey} {sz : Int} {al : Bool} {e : Ending} (hq : QtB w F s m u n q g) (h2 : ∀ x ∈ F, w0.heap.size ≤ x) (h3 : Below w0.heap.size w0 w) (h4 : ∀ p ∈ H, p.1 ∉ F ∧ Blk w p.1 p.2.1 p.2.2) (h : AddP w F s m u n q k sz al e w') : e = .returned (resV (addR q k sz al)) ∧ Q2 w0 H w' s (n + 1) (addS q k sz al) := by
  have hQ : Q2 w0 H w s n q := ⟨F, m, u, g, hq, h2, h3, h4⟩
  refine ⟨(AddP.q1 hq h2 h3 h).1, ?_⟩
  unfold AddP at h
  unfold addS
  cases hs : szQ q.l k with
  | some y =>
    rw [hs] at h
    exact (hQ.keep h.2).mono (Nat.le_succ n)
  | none =>
    rw [hs] at h
    dsimp only at h ⊢
    cases al with
    | true =>
      obtain ⟨_, F', g', h5, h6, h7⟩ := h
      exact Q2.chg h3 h2 h4 h5 h6 h7
    | false => exact (hQ.keep h.2).mono (Nat.le_succ n)
theorem Q2.link (h : Q2 w0 H w s n q) {r id : List UInt8} {sz : Int} (ha : Ask q n r id sz) : Calls Try.prog 11 #[.pointer (some ⟨s, 0, none⟩), .string (strB r), .agg (bcells id), .int .i64 sz] w fun e w' => e = .returned (resV (addR q (r, id) sz (decide (sumQ q.l r + sz ≤ q.limit)))) ∧ Q2 w0 H w' s (n + 1) (addS q (r, id) sz (decide (sumQ q.l r + sz ≤ q.limit))) := by
  obtain ⟨F, m, u, g, h1, h2, h3, h4⟩ := h
  exact (qlink_calls h1 r id ha.kok ha.r128 ha.is sz ha.sz ha.n ha.few).mono fun _ _ h => AddP.q2 h1 h2 h3 h4 h
theorem Q2.lay (h : Q2 w0 H w s n q) {r id : List UInt8} {sz : Int} (ha : Ask q n r id sz) : Calls Try.prog 13 #[.pointer (some ⟨s, 0, none⟩), .string (strB r), .agg (bcells id), .int .i64 sz] w fun e w' => e = .returned (resV (addR q (r, id) sz true)) ∧ Q2 w0 H w' s (n + 1) (addS q (r, id) sz true) := by
  obtain ⟨F, m, u, g, h1, h2, h3, h4⟩ := h
  exact (qlay_calls h1 r id ha.kok ha.r128 ha.is sz ha.sz ha.n ha.few).mono fun _ _ h => AddP.q2 h1 h2 h3 h4 h
theorem Q2.has (h : Q2 w0 H w s n q) (k : LKey) (hk : kok k) : Calls Try.prog 21 #[.pointer (some ⟨s, 0, none⟩), .string (strB k.1), .agg (bcells k.2)] w fun e w' => e = .returned (.bool (szQ q.l k).isSome) ∧ Below w.heap.size w w' := by
  obtain ⟨F, m, u, g, hq, _, _⟩ := h
  exact qhas_calls hq k hk
theorem Q2.use (h : Q2 w0 H w s n q) (r : List UInt8) (hr : r.length ≤ maxLen) : Calls Try.prog 29 #[.pointer (some ⟨s, 0, none⟩), .string (strB r)] w fun e w' => e = .returned (.int .i64 (sumQ q.l r)) ∧ w = w' := h.q1.use r hr
theorem Q2.unlink (h : Q2 w0 H w s n q) (r id : List UInt8) (hk : kok (r, id)) : Calls Try.prog 16 #[.pointer (some ⟨s, 0, none⟩), .string (strB r), .agg (bcells id)] w fun e w' => e = .returned (.bool (szQ q.l (r, id)).isSome) ∧ Q2 w0 H w' s n { q with l := delQ q.l (r, id) } := by
  have h0 := h
  obtain ⟨F, m, u, g, h1, h2, h3, h4⟩ := h
  refine (qunlink_calls h1 r id hk).mono fun e w' hh => ?_
  unfold UnlP at hh
  cases hs : szQ q.l (r, id) with
  | none =>
    rw [hs] at hh
    have e1 : delQ q.l (r, id) = q.l := by
      unfold delQ
      refine List.filter_eq_self.2 fun p hp => ?_
      have : p.1 ≠ (r, id) := fun e => szQ_none.1 hs (List.mem_map.2 ⟨p, hp, e⟩)
      simpa using this
    exact ⟨hh.1, by rw [e1]; exact h0.keep hh.2⟩
  | some y =>
    rw [hs] at hh
    obtain ⟨h5, g', h6, h7, _⟩ := hh
    exact ⟨h5, Q2.chg h3 h2 h4 h6 h7 (fun x hx => .inl hx)⟩
theorem Q2.forget (h : Q2 w0 H w s n q) (id : List UInt8) (hl : id.length = 32) : Calls Try.prog 18 #[.pointer (some ⟨s, 0, none⟩), .agg (bcells id)] w fun e w' => e = .returned (.int .i64 (((q.l.filter (fun p => decide (p.1.2 = id))).length : Nat) : Int)) ∧ Q2 w0 H w' s n { q with l := q.l.filter (fun p => decide (p.1.2 ≠ id)) } := by
  obtain ⟨F, m, u, g, h1, h2, h3, h4⟩ := h
  refine (qforget_calls h1 id hl).mono fun e w' hh => ?_
  obtain ⟨h5, g', h6, h7⟩ := hh
  exact ⟨h5, Q2.chg h3 h2 h4 h6 h7 (fun x hx => .inl hx)⟩
end
/-- digests one behind the other, anywhere -/
def ARow (w : World) (A : Option Addr) (n : Nat) (ids : List (List UInt8)) : Prop := ids.length = n ∧ (∀ x ∈ ids, x.length = 32) ∧ (0 < n → ∃ g off, A = some ⟨g, off, none⟩ ∧ ∀ (i : Nat) x, ids[i]? = some x → ∀ (j : Nat) v, (bcells x)[j]? = some v → w.cell? ⟨g, off + i * 32 + j, none⟩ = some v)
theorem arow_load {w : World} {g o : Nat} {x : List UInt8} (hx : x.length = 32) (h : ∀ (j : Nat) v, (bcells x)[j]? = some v → w.cell? ⟨g, o + j, none⟩ = some v) : (loadVar 32 ⟨g, o, none⟩).run Try.prog w = .ok (.agg (bcells x)) w := by
  have := load_at (P := Try.prog) (w := w) 32 g o (bcells x).toList (fun j v hv => h j v (by simpa using hv)) Try.underlying32 rfl (by
    have := size32 hx
    simpa using this)
  simpa using this
theorem ARow.keep {w w' : World} {A : Option Addr} {n : Nat} {ids : List (List UInt8)} (h : ARow w A n ids) (hb : Below w.heap.size w w') : ARow w' A n ids :=
  ⟨h.1, h.2.1, fun hn => by
    obtain ⟨g, off, h1, h2⟩ := h.2.2 hn
    exact ⟨g, off, h1, fun i x hx j v hv => cell_keep (h2 i x hx j v hv) hb⟩⟩
set_option maxRecDepth 20000 in
theorem ids_open {H : Type} {enc : TypeId × Value → H} {W : World} {n c : Nat} {A : Option Addr} {d : DataW H} {p : List MemPlace}
    (h : DataW.Trod enc Try.prog W 0 (fun _ => true) true 55 (.slice A n c) d p) : ∃ ids, ARow W A n ids ∧ n ≤ 9223372036854775807 := by
  have cT : Try.prog.cellsOf 32 = 32 := by kernel_rfl
  have cU : Try.prog.cellsOf 5 = 1 := by kernel_rfl
  obtain ⟨fuel, hf⟩ := h
  rcases open_slice Try.underlying55 hf with ⟨hcs, _⟩ | ⟨a, len, cap, m, nn, D, Pl, hcs, _, hle, hmax, hm, _, hx⟩
  · simp [Value.cells] at hcs
    obtain ⟨rfl, rfl, rfl⟩ := hcs
    exact ⟨[], ⟨rfl, by simp, fun h => absurd h (Nat.lt_irrefl 0)⟩, Nat.zero_le _⟩
  · simp [Value.cells] at hcs
    obtain ⟨rfl, rfl, rfl⟩ := hcs
    rw [cT] at hx
    have hmc : m = c := by simpa using hm
    obtain ⟨f, hfs⟩ := choose_lt (α := List UInt8) (n := n) (p := fun i x => x.length = 32 ∧ ∀ (j : Nat) v, (bcells x)[j]? = some v → W.cell? (a.add (i * 32 + j)) = some v) (fun i hi => by
      obtain ⟨cs', h1, h2⟩ := hx i (by omega)
      obtain ⟨_, hlen, hcell⟩ := World.cells?_some h1
      obtain ⟨ys, m', _, hx1, hlen3, hn3, hel⟩ := DataW.trod_array Try.underlying32 h2
      have hcl : cs'.length = 32 := by simpa using hlen
      obtain ⟨l, hl⟩ := bytes_of_cells cs' fun i hi => by
        have hi32 : i < 32 := by omega
        have h := hel i hi32
        rw [cU, Nat.mul_one, List.getElem?_eq_getElem (by omega)] at h
        obtain ⟨k, e1, e2, u⟩ := DataW.trod_int Try.underlying5 h
        refine ⟨UInt8.ofNat k.toNat, ?_⟩
        have h4 : ((cs'.drop i).take 1)[0]? = some (.int .u8 k) := by rw [e1]; rfl
        rw [List.getElem?_take] at h4
        rw [bv, ← byte_of (bounds_u8 u)]
        simpa using h4
      have hl32 : l.length = 32 := by
        have := congrArg List.length hl
        rw [hcl, List.length_map] at this
        exact this.symm
      refine ⟨l, hl32, fun j v hj => ?_⟩
      have hj32 : j < 32 := by
        have := (Array.getElem?_eq_some_iff.1 hj).1
        rw [bcells_size] at this
        omega
      have := hcell j hj32
      rw [add_add] at this
      rw [this]
      rw [hl]
      simpa [bcells] using hj)
    have hget : ∀ k t, ((List.range n).map f)[k]? = some t → k < n ∧ t = f k := fun k t hk => by
      rw [List.getElem?_map] at hk
      obtain ⟨i, hi, rfl⟩ := Option.map_eq_some_iff.1 hk
      obtain ⟨hlt, rfl⟩ := List.getElem?_eq_some_iff.1 hi
      simp at hlt ⊢
      exact hlt
    have hm' : c ≤ 2 ^ 63 - 1 := hmax
    refine ⟨(List.range n).map f, ⟨by simp, fun x hx => ?_, fun hn => ?_⟩, by omega⟩
    · obtain ⟨i, hi, rfl⟩ := List.mem_map.1 hx
      exact (hfs i (by simpa using hi)).1
    · obtain ⟨h0, hc0⟩ := hfs 0 hn
      have h1 := hc0 0 (bcells (f 0))[0]! (by rw [getElem!_pos _ _ (by rw [bcells_size]; omega)]; exact Array.getElem?_eq_getElem _)
      have hspot : a.spot = none := by simpa [Addr.add] using World.cell?_spot h1
      obtain ⟨b, off, spot⟩ := a
      simp only at hspot
      subst hspot
      refine ⟨b, off, rfl, fun k t hk j v hj => ?_⟩
      obtain ⟨hkn, rfl⟩ := hget k t hk
      have := (hfs k hkn).2 j v hj
      rw [Addr.add_lit] at this
      rw [Nat.add_assoc]; exact this
end Go.Proofs.Ytjgnbmkhibdcfaa
