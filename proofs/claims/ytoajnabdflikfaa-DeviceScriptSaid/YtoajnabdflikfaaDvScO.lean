/- Acts that came in, opened. -/
import Derived.Test.YtoajnabdflikfaaDvScW
import Derived.Test.YtoajnabdflikfaaRow
import Derived.Deep.Slices
import Derived.Deep.Grids
import Derived.ChangeOld
import Derived.OpenShut
namespace Go.Proofs.Ytoajnabdflikfaa
open Go.ChangeShapes Go.WideShapes Go.ChangeAt Go.RowKit Go.Deep

theorem dkb_of {w : World} {x : Addr} {l c : Nat} {B : Nat → Bool} (hl : l ≤ c) (hcell : ∀ i, i < c → w.cell? (x.add i) = some (.bool (B i))) : ∃ bs, KB w (some x) l bs := by
  refine ⟨(List.range l).map B, by simp, fun hn => ?_⟩
  have h0 := hcell 0 (by omega)
  have hspot : x.spot = none := by simpa [Addr.add] using World.cell?_spot h0
  obtain ⟨b, off, spot⟩ := x
  simp only at hspot
  subst hspot
  simp only [Addr.add_lit] at hcell
  refine ⟨b, off, rfl, fun j z hj => ?_⟩
  rw [List.getElem?_map] at hj
  obtain ⟨i, hi, rfl⟩ := Option.map_eq_some_iff.1 hj
  obtain ⟨h1, h2⟩ := List.getElem?_eq_some_iff.1 hi
  simp at h1 h2
  subst h2
  exact hcell j (by omega)
instance : Inhabited DAct := ⟨⟨0, 0, 0, none, 0, []⟩⟩
theorem ddrop_step {α : Type} (l : List α) (a n : Nat) : l.drop a = (l.drop a).take n ++ l.drop (a + n) := by
  rw [← List.drop_drop]; exact (List.take_append_drop n _).symm
theorem dcut_eq {cs l : List Value} {a m m' : Nat} (c : m = m') (h : (cs.drop a).take m = l) : (cs.drop a).take m' = l := c ▸ h
set_option maxHeartbeats 2000000 in
set_option maxRecDepth 20000 in
theorem dact_open {H : Type} {enc : TypeId × Value → H} {W : World} {fuel : Nat} {cs : List Value} {y : DataW H × List MemPlace}
    (h : DataW.trod enc Try.prog W 0 (fun _ => true) true fuel 35 cs = some y) : ∃ t : DAct, cs = (AV t).toList ∧ AOK W t := by
  have cT : Try.prog.cellsOf 35 = 4 := by kernel_rfl
  have cI : Try.prog.cellsOf 3 = 1 := by kernel_rfl
  have cU : Try.prog.cellsOf 5 = 1 := by kernel_rfl
  have cB : Try.prog.cellsOf 33 = 1 := by kernel_rfl
  obtain ⟨xs, n, _, _, hl, hlen, hf⟩ := DataW.trod_struct Try.underlying35 h
  rw [cT] at hl
  have h4 : xs.length = 4 := hlen
  have g0 := (hf 0 _ rfl).trans (List.getElem?_eq_getElem (show 0 < xs.length by omega))
  have g1 := (hf 1 _ rfl).trans (List.getElem?_eq_getElem (show 1 < xs.length by omega))
  have g2 := (hf 2 _ rfl).trans (List.getElem?_eq_getElem (show 2 < xs.length by omega))
  have g3 := (hf 3 _ rfl).trans (List.getElem?_eq_getElem (show 3 < xs.length by omega))
  obtain ⟨k, e0, -, w0⟩ := DataW.trod_int Try.underlying3 g0
  obtain ⟨z, e1, -, w1⟩ := DataW.trod_int Try.underlying3 g1
  obtain ⟨b, e2, -, w2⟩ := DataW.trod_int Try.underlying5 g2
  have e0 : (cs.drop 0).take 1 = [.int .i64 k] := dcut_eq cI e0
  have e1 : (cs.drop 1).take 1 = [.int .i64 z] := dcut_eq cI e1
  have e2 : (cs.drop 2).take 1 = [.int .u8 b] := dcut_eq cU e2
  obtain ⟨A, l, c, bs, e3, hkb, hlm⟩ : ∃ A l c bs, (cs.drop 3).take 1 = [.slice A l c] ∧ KB W A l bs ∧ l ≤ 9223372036854775807 := by
    rcases Go.Deep.open_bools Try.underlying33 Try.underlying4 (by kernel_rfl) g3 with ⟨hcs, _⟩ | ⟨x, l, c, B, hcs, _, hl, hm, _, hcell⟩
    · exact ⟨_, _, _, [], dcut_eq cB hcs, ⟨rfl, fun h => absurd h (Nat.lt_irrefl 0)⟩, Nat.zero_le _⟩
    · obtain ⟨bs, hb⟩ := dkb_of hl hcell
      have hm' : c ≤ 2 ^ 63 - 1 := hm
      exact ⟨_, _, _, bs, dcut_eq cB hcs, hb, by omega⟩
  have q0 := ddrop_step cs 0 1
  have q1 := ddrop_step cs 1 1
  have q2 := ddrop_step cs 2 1
  have q3 := ddrop_step cs 3 1
  have q4 : cs.drop 4 = [] := List.drop_eq_nil_of_le (by omega)
  rw [e0] at q0; rw [e1] at q1; rw [e2] at q2; rw [e3] at q3
  have hbl := hkb.1
  refine ⟨⟨k, z, UInt8.ofNat b.toNat, A, c, bs⟩, ?_, by rw [hbl]; exact hkb, (bounds_i64 w1).2, by simp only; omega⟩
  have hh : cs = cs.drop 0 := rfl
  rw [hh, q0, q1, q2, q3, q4]
  have hb := bounds_u8 w2
  have hb2 : ((UInt8.ofNat b.toNat).toNat : Int) = b := by rw [UInt8.toNat_ofNat']; omega
  simp only [AV, List.cons_append, List.nil_append, hb2, hbl]
set_option maxRecDepth 20000 in
theorem acts_open {H : Type} {enc : TypeId × Value → H} {W : World} {n c : Nat} {A : Option Addr} {d : DataW H} {p : List MemPlace}
    (h : DataW.Trod enc Try.prog W 0 (fun _ => true) true 22 (.slice A n c) d p) : ∃ ts, DATS W A n ts ∧ n ≤ 9223372036854775807 := by
  have cT : Try.prog.cellsOf 35 = 4 := by kernel_rfl
  obtain ⟨fuel, hf⟩ := h
  rcases open_slice Try.underlying22 hf with ⟨hcs, _⟩ | ⟨a, len, cap, m, nn, D, Pl, hcs, _, hle, hmax, hm, _, hx⟩
  · simp [Value.cells] at hcs
    obtain ⟨rfl, rfl, rfl⟩ := hcs
    exact ⟨[], ⟨rfl, fun h => absurd h (Nat.lt_irrefl 0), by simp⟩, Nat.zero_le _⟩
  · simp [Value.cells] at hcs
    obtain ⟨rfl, rfl, rfl⟩ := hcs
    rw [cT] at hx
    have hmc : m = c := by simpa using hm
    obtain ⟨f, hfs⟩ := choose_lt (α := DAct) (n := n) (p := fun i x => AOK W x ∧ ∀ (j : Nat) v, (AV x)[j]? = some v → W.cell? (a.add (i * 4 + j)) = some v) (fun i hi => by
      obtain ⟨cs', h1, h2⟩ := hx i (by omega)
      obtain ⟨_, hlen, hcell⟩ := World.cells?_some h1
      obtain ⟨t, rfl, hok⟩ := dact_open h2
      refine ⟨t, hok, fun j v hj => ?_⟩
      have hj4 : j < 4 := (Array.getElem?_eq_some_iff.1 hj).1
      have := hcell j hj4
      rw [add_add] at this
      rw [this]
      simpa using hj)
    have hget : ∀ k t, ((List.range n).map f)[k]? = some t → k < n ∧ t = f k := fun k t hk => by
      rw [List.getElem?_map] at hk
      obtain ⟨i, hi, rfl⟩ := Option.map_eq_some_iff.1 hk
      obtain ⟨hlt, rfl⟩ := List.getElem?_eq_some_iff.1 hi
      simp at hlt ⊢
      exact hlt
    have hm' : c ≤ 2 ^ 63 - 1 := hmax
    refine ⟨(List.range n).map f, ⟨by simp, fun hn => ?_, fun x hx => ?_⟩, by omega⟩
    · obtain ⟨h0, hc0⟩ := hfs 0 hn
      have h1 := hc0 0 (.int .i64 (f 0).k) rfl
      have hspot : a.spot = none := by simpa [Addr.add] using World.cell?_spot h1
      obtain ⟨b, off, spot⟩ := a
      simp only at hspot
      subst hspot
      refine ⟨b, off, rfl, fun k t hk j v hj => ?_⟩
      obtain ⟨hkn, rfl⟩ := hget k t hk
      have := (hfs k hkn).2 j v hj
      rw [Addr.add_lit] at this
      rw [Nat.add_assoc]; exact this
    · obtain ⟨i, hi, rfl⟩ := List.mem_map.1 hx
      exact (hfs i (by simpa using hi)).1
theorem script_calls (z : Int) (n c : Nat) (A : Option Addr) (ts : List DAct) (w : World) (h : DATS w A n ts) (hn : n ≤ 9223372036854775807) :
    Calls Try.prog 3 #[.int .i64 z, .slice A n c] w fun e w' => e = .returned (.bool true) ∧ Below w.heap.size w w' := by
  by_cases hq : longA ts = true ∨ (12 < z ∧ z ≤ 65536)
  · exact script_off z n c A ts w h hn hq
  · have h1 : longA ts = false := by
      cases hl : longA ts with
      | false => rfl
      | true => exact absurd (.inl hl) hq
    have h2 : ¬ (12 < z ∧ z ≤ 65536) := fun h => hq (.inr h)
    by_cases hz : 1 ≤ z ∧ z ≤ 12
    · obtain ⟨k, rfl⟩ : ∃ k : Nat, z = (k : Int) := ⟨z.toNat, by omega⟩
      exact script_good k n c A ts w h hn h1 (by omega) (by omega)
    · exact script_bad z n c A ts w h hn h1 (by omega)
end Go.Proofs.Ytoajnabdflikfaa
