/- A slice of quota's calls that came in. -/
import Derived.Test.YtjgnbmkhibdcfaaQtHold
namespace Go.Proofs.Ytjgnbmkhibdcfaa
open Go.ChangeShapes Go.WideShapes Go.ChangeAt Go.RowKit Go.Deep Crc

structure QA where
  kind : Int
  repo : List UInt8
  to : List UInt8
  id : List UInt8
  size : Int
instance : Inhabited QA := ⟨⟨0, [], [], [], 0⟩⟩
/-- a call's 36 cells -/
def AV (t : QA) : List Value := .int .i64 t.kind :: .string (strB t.repo) :: .string (strB t.to) :: (t.id.map bv ++ [.int .i64 t.size])
structure QAOK (t : QA) : Prop where
  id : t.id.length = 32
  kind : -9223372036854775808 ≤ t.kind ∧ t.kind ≤ 9223372036854775807
  size : -9223372036854775808 ≤ t.size ∧ t.size ≤ 9223372036854775807
  repo : t.repo.length ≤ maxLen
  to : t.to.length ≤ maxLen
theorem AV_len {t : QA} (h : QAOK t) : (AV t).length = 36 := by simp [AV, h.id]
/-- calls one behind the other, anywhere -/
def ActRow (w : World) (A : Option Addr) (n : Nat) (ts : List QA) : Prop := ts.length = n ∧ (∀ t ∈ ts, QAOK t) ∧ (0 < n → ∃ g off, A = some ⟨g, off, none⟩ ∧ ∀ (i : Nat) t, ts[i]? = some t → ∀ (j : Nat) v, (AV t)[j]? = some v → w.cell? ⟨g, off + i * 36 + j, none⟩ = some v)
theorem ActRow.keep {w w' : World} {A : Option Addr} {n : Nat} {ts : List QA} (h : ActRow w A n ts) (hb : Below w.heap.size w w') : ActRow w' A n ts :=
  ⟨h.1, h.2.1, fun hn => by
    obtain ⟨g, off, h1, h2⟩ := h.2.2 hn
    exact ⟨g, off, h1, fun i x hx j v hv => cell_keep (h2 i x hx j v hv) hb⟩⟩
theorem qdrop_step {α : Type} (l : List α) (a n : Nat) : l.drop a = (l.drop a).take n ++ l.drop (a + n) := by
  rw [← List.drop_drop]; exact (List.take_append_drop n _).symm
theorem qcut_eq {cs l : List Value} {a m m' : Nat} (c : m = m') (h : (cs.drop a).take m = l) : (cs.drop a).take m' = l := c ▸ h
set_option maxHeartbeats 2000000 in
set_option maxRecDepth 20000 in
theorem act_open {H : Type} {enc : TypeId × Value → H} {W : World} {fuel : Nat} {cs : List Value} {y : DataW H × List MemPlace}
    (h : DataW.trod enc Try.prog W 0 (fun _ => true) true fuel 34 cs = some y) : ∃ t : QA, cs = AV t ∧ QAOK t := by
  have cT : Try.prog.cellsOf 34 = 36 := by kernel_rfl
  have cI : Try.prog.cellsOf 3 = 1 := by kernel_rfl
  have cU : Try.prog.cellsOf 5 = 1 := by kernel_rfl
  have cS : Try.prog.cellsOf 9 = 1 := by kernel_rfl
  have cD : Try.prog.cellsOf 32 = 32 := by kernel_rfl
  obtain ⟨xs, n, _, _, hl, hlen, hf⟩ := DataW.trod_struct Try.underlying34 h
  rw [cT] at hl
  have h5 : xs.length = 5 := hlen
  have g0 := (hf 0 _ rfl).trans (List.getElem?_eq_getElem (show 0 < xs.length by omega))
  have g1 := (hf 1 _ rfl).trans (List.getElem?_eq_getElem (show 1 < xs.length by omega))
  have g2 := (hf 2 _ rfl).trans (List.getElem?_eq_getElem (show 2 < xs.length by omega))
  have g3 := (hf 3 _ rfl).trans (List.getElem?_eq_getElem (show 3 < xs.length by omega))
  have g4 := (hf 4 _ rfl).trans (List.getElem?_eq_getElem (show 4 < xs.length by omega))
  obtain ⟨k, e0, -, w0⟩ := DataW.trod_int Try.underlying3 g0
  obtain ⟨s1, e1, -, w1⟩ := DataW.trod_string Try.underlying9 g1
  obtain ⟨s2, e2, -, w2⟩ := DataW.trod_string Try.underlying9 g2
  obtain ⟨z, e4, -, w4⟩ := DataW.trod_int Try.underlying3 g4
  have e0 : (cs.drop 0).take 1 = [.int .i64 k] := qcut_eq cI e0
  have e1 : (cs.drop 1).take 1 = [.string s1] := qcut_eq cS e1
  have e2 : (cs.drop 2).take 1 = [.string s2] := qcut_eq cS e2
  have e4 : (cs.drop 35).take 1 = [.int .i64 z] := qcut_eq cI e4
  obtain ⟨id, hid32, e3⟩ : ∃ id : List UInt8, id.length = 32 ∧ (cs.drop 3).take 32 = id.map bv := by
    obtain ⟨ys, m, _, hx1, hlen3, hn3, hel⟩ := DataW.trod_array Try.underlying32 g3
    have e3 : ((cs.drop 3).take 32).length = 32 := by rw [List.length_take, List.length_drop]; omega
    have hq : ∀ i, i < 32 → ∃ b : UInt8, ((cs.drop 3).take 32)[i]? = some (bv b) := fun i hi => by
      have hl3 : ys.length = 32 := by first | exact hn3 | exact hlen3
      have hi' : i < ys.length := by omega
      have h := (hel i hi).trans (List.getElem?_eq_getElem hi')
      obtain ⟨z, e, _, u⟩ := DataW.trod_int Try.underlying5 h
      have e' : (((cs.drop 3).take (Try.prog.cellsOf 32)).drop (i * Try.prog.cellsOf 5)).take (Try.prog.cellsOf 5) = [.int .u8 z] := e
      rw [cU, cD, Nat.mul_one] at e'
      refine ⟨UInt8.ofNat z.toNat, ?_⟩
      have h4 : ((((cs.drop 3).take 32).drop i).take 1)[0]? = some (.int .u8 z) := by rw [e']; rfl
      rw [List.getElem?_take, if_pos (by omega), List.getElem?_drop, Nat.add_zero] at h4
      rw [bv, ← byte_of (bounds_u8 u)]
      exact h4
    obtain ⟨id, hid⟩ := bytes_of_cells ((cs.drop 3).take 32) fun i hi => hq i (by omega)
    refine ⟨id, ?_, hid⟩
    have := congrArg List.length hid
    rw [e3, List.length_map] at this
    exact this.symm
  have q0 := qdrop_step cs 0 1
  have q1 := qdrop_step cs 1 1
  have q2 := qdrop_step cs 2 1
  have q3 := qdrop_step cs 3 32
  have q4 := qdrop_step cs 35 1
  have q5 : cs.drop 36 = [] := List.drop_eq_nil_of_le (by omega)
  rw [e0] at q0; rw [e1] at q1; rw [e2] at q2; rw [e3] at q3; rw [e4] at q4
  refine ⟨⟨k, s1.data.toList, s2.data.toList, id, z⟩, ?_, ⟨hid32, bounds_i64 w0, bounds_i64 w4, by simpa using w1, by simpa using w2⟩⟩
  have hh : cs = cs.drop 0 := rfl
  rw [hh, q0, q1, q2, q3, q4, q5]
  simp only [AV, List.cons_append, List.nil_append, List.append_nil]
  rfl
set_option maxRecDepth 20000 in
theorem acts_open {H : Type} {enc : TypeId × Value → H} {W : World} {n c : Nat} {A : Option Addr} {d : DataW H} {p : List MemPlace}
    (h : DataW.Trod enc Try.prog W 0 (fun _ => true) true 22 (.slice A n c) d p) : ∃ ts, ActRow W A n ts ∧ n ≤ 9223372036854775807 := by
  have cT : Try.prog.cellsOf 34 = 36 := by kernel_rfl
  obtain ⟨fuel, hf⟩ := h
  rcases open_slice Try.underlying22 hf with ⟨hcs, _⟩ | ⟨a, len, cap, m, nn, D, Pl, hcs, _, hle, hmax, hm, _, hx⟩
  · simp [Value.cells] at hcs
    obtain ⟨rfl, rfl, rfl⟩ := hcs
    exact ⟨[], ⟨rfl, by simp, fun h => absurd h (Nat.lt_irrefl 0)⟩, Nat.zero_le _⟩
  · simp [Value.cells] at hcs
    obtain ⟨rfl, rfl, rfl⟩ := hcs
    rw [cT] at hx
    have hmc : m = c := by simpa using hm
    obtain ⟨f, hfs⟩ := choose_lt (α := QA) (n := n) (p := fun i x => QAOK x ∧ ∀ (j : Nat) v, (AV x)[j]? = some v → W.cell? (a.add (i * 36 + j)) = some v) (fun i hi => by
      obtain ⟨cs', h1, h2⟩ := hx i (by omega)
      obtain ⟨_, hlen, hcell⟩ := World.cells?_some h1
      obtain ⟨t, rfl, hok⟩ := act_open h2
      refine ⟨t, hok, fun j v hj => ?_⟩
      have hj36 : j < 36 := by
        have := (List.getElem?_eq_some_iff.1 hj).1
        rw [AV_len hok] at this
        exact this
      have := hcell j hj36
      rw [add_add] at this
      rw [this]
      exact hj)
    have hget : ∀ k t, ((List.range n).map f)[k]? = some t → k < n ∧ t = f k := fun k t hk => by
      rw [List.getElem?_map] at hk
      obtain ⟨i, hi, rfl⟩ := Option.map_eq_some_iff.1 hk
      obtain ⟨hlt, rfl⟩ := List.getElem?_eq_some_iff.1 hi
      simp at hlt ⊢
      exact hlt
    have hm' : c ≤ 2 ^ 63 - 1 := hmax
    refine ⟨(List.range n).map f, ⟨by simp, fun x hx => ?_, fun hn => ?_⟩, by omega⟩
    · obtain ⟨i, hi, rfl⟩ := List.mem_map.1 hx
      exact (hfs i (by simpa using hi)).1
    · obtain ⟨h0, hc0⟩ := hfs 0 hn
      have h1 := hc0 0 (.int .i64 (f 0).kind) rfl
      have hspot : a.spot = none := by simpa [Addr.add] using World.cell?_spot h1
      obtain ⟨b, off, spot⟩ := a
      simp only at hspot
      subst hspot
      refine ⟨b, off, rfl, fun k t hk j v hj => ?_⟩
      obtain ⟨hkn, rfl⟩ := hget k t hk
      have := (hfs k hkn).2 j v hj
      rw [Addr.add_lit] at this
      rw [Nat.add_assoc]; exact this
end Go.Proofs.Ytjgnbmkhibdcfaa
