/- A slice of things that came in. -/
import Derived.Test.YtcpkjpeimnaimaaWrBackW
import Derived.Test.YtcpkjpeimnaimaaRow
import Derived.Deep.Slices
import Derived.ChangeOld
import Derived.OpenShut
namespace Go.Proofs.Ytcpkjpeimnaimaa
open Go.ChangeShapes Go.WideShapes Go.ChangeAt Go.RowKit Go.Deep

theorem drop_step {α : Type} (l : List α) (a n : Nat) : l.drop a = (l.drop a).take n ++ l.drop (a + n) := by
  rw [← List.drop_drop]; exact (List.take_append_drop n _).symm
theorem cut_eq {cs l : List Value} {a m m' : Nat} (c : m = m') (h : (cs.drop a).take m = l) : (cs.drop a).take m' = l := c ▸ h
theorem bytes_of_cells : ∀ (cs : List Value), (∀ i, i < cs.length → ∃ b : UInt8, cs[i]? = some (bv b)) → ∃ l : List UInt8, cs = l.map bv
  | [], _ => ⟨[], rfl⟩
  | c :: cs, h => by
    obtain ⟨b, hb⟩ := h 0 (by simp)
    obtain ⟨l, hl⟩ := bytes_of_cells cs fun i hi => by
      obtain ⟨b, hb⟩ := h (i + 1) (by simpa using hi)
      exact ⟨b, by simpa using hb⟩
    refine ⟨b :: l, ?_⟩
    simp at hb
    rw [hb, hl]; rfl
theorem si_open {w : World} {x : Addr} {l c : Nat} {zs : List Int} (hl : l ≤ c) (hz : zs.length = c) (hcell : ∀ i, i < zs.length → w.cell? (x.add i) = some (.int .i64 (zs.getD i 0))) : SI w (some x) l (zs.take l) ∧ (0 < l → ∀ b off, some x = some (⟨b, off, none⟩ : Addr) → b < w.heap.size) := by
  refine ⟨⟨by simp; omega, fun hn => ?_⟩, fun hn b off e => ?_⟩
  · have h0 := hcell 0 (by omega)
    have hspot : x.spot = none := by simpa [Addr.add] using World.cell?_spot h0
    obtain ⟨b, off, spot⟩ := x
    simp only at hspot
    subst hspot
    simp only [Addr.add_lit] at hcell
    refine ⟨b, off, rfl, fun j z hj => ?_⟩
    rw [List.getElem?_take] at hj
    split at hj
    · have hjl : j < zs.length := by omega
      rw [hcell j hjl, List.getD, hj]; rfl
    · cases hj
  · cases e
    have h0 := hcell 0 (by omega)
    rw [Addr.add_lit] at h0
    exact lt_of_cell h0
set_option maxHeartbeats 2000000 in
set_option maxRecDepth 20000 in
theorem th_open {H : Type} {enc : TypeId × Value → H} {W : World} {fuel : Nat} {cs : List Value} {y : DataW H × List MemPlace}
    (h : DataW.trod enc Try.prog W 0 (fun _ => true) true fuel 38 cs = some y) :
    ∃ t : Th, cs = (TV t).toList ∧ TOKW W t ∧ (0 < t.cs.length → ∀ b off, t.A = some ⟨b, off, none⟩ → b < W.heap.size) ∧ (0 < t.zs.length → ∀ b off, t.A2 = some ⟨b, off, none⟩ → b < W.heap.size) := by
  have cT : Try.prog.cellsOf 38 = 39 := by kernel_rfl
  have cI : Try.prog.cellsOf 3 = 1 := by kernel_rfl
  have cU : Try.prog.cellsOf 5 = 1 := by kernel_rfl
  have cB : Try.prog.cellsOf 31 = 1 := by kernel_rfl
  have cV : Try.prog.cellsOf 36 = 1 := by kernel_rfl
  have cD : Try.prog.cellsOf 33 = 32 := by kernel_rfl
  have cO : Try.prog.cellsOf 35 = 2 := by kernel_rfl
  have cF : Try.prog.cellsOf 4 = 1 := by kernel_rfl
  obtain ⟨xs, n, _, _, hl, hlen, hf⟩ := DataW.trod_struct Try.underlying38 h
  rw [cT] at hl
  have h7 : xs.length = 7 := hlen
  have g0 := (hf 0 _ rfl).trans (List.getElem?_eq_getElem (show 0 < xs.length by omega))
  have g1 := (hf 1 _ rfl).trans (List.getElem?_eq_getElem (show 1 < xs.length by omega))
  have g2 := (hf 2 _ rfl).trans (List.getElem?_eq_getElem (show 2 < xs.length by omega))
  have g3 := (hf 3 _ rfl).trans (List.getElem?_eq_getElem (show 3 < xs.length by omega))
  have g4 := (hf 4 _ rfl).trans (List.getElem?_eq_getElem (show 4 < xs.length by omega))
  have g5 := (hf 5 _ rfl).trans (List.getElem?_eq_getElem (show 5 < xs.length by omega))
  have g6 := (hf 6 _ rfl).trans (List.getElem?_eq_getElem (show 6 < xs.length by omega))
  obtain ⟨k, e0, -, w0⟩ := DataW.trod_int Try.underlying3 g0
  obtain ⟨nn, e1, -, w1⟩ := DataW.trod_int Try.underlying3 g1
  obtain ⟨bb, e6, -⟩ := DataW.trod_bool Try.underlying4 g6
  have e0 : (cs.drop 0).take 1 = [.int .i64 k] := cut_eq cI e0
  have e1 : (cs.drop 1).take 1 = [.int .i64 nn] := cut_eq cI e1
  have e6 : (cs.drop 38).take 1 = [.bool bb] := cut_eq cF e6
  -- the bytes
  obtain ⟨A, l, c, bs, e2, hsb, hlc, hlm⟩ : ∃ A l c bs, (cs.drop 2).take 1 = [.slice A l c] ∧ SB W W.heap.size A l bs ∧ l ≤ c ∧ l ≤ 9223372036854775807 := by
    rcases open_ints Try.underlying31 Try.underlying5 (by kernel_rfl) g2 with ⟨hcs, _⟩ | ⟨x, l, c, zs, hcs, _, hl, hm, hz, _, hcell, hwz⟩
    · exact ⟨_, _, _, [], cut_eq cB hcs, SB.nil _ _ _, Nat.le_refl _, Nat.zero_le _⟩
    · obtain ⟨bs, hs, hlc⟩ := IsRow.bytes (w := W) (a := some x) (len := l) (cap := c) (zs := zs) (.inr ⟨_, rfl, hl, hm, by simpa using hz, hcell, hwz⟩)
      have hm' : c ≤ 2 ^ 63 - 1 := hm
      exact ⟨_, _, _, bs, cut_eq cB hcs, hs, hlc, by omega⟩
  -- the numbers
  obtain ⟨A2, l2, c2, zs2, e5, hsi, hb2, hlc2, hlm2, hz2⟩ : ∃ A l c zs, (cs.drop 37).take 1 = [.slice A l c] ∧ SI W A l zs ∧ (0 < l → ∀ b off, A = some ⟨b, off, none⟩ → b < W.heap.size) ∧ l ≤ c ∧ l ≤ 9223372036854775807 ∧ ∀ z ∈ zs, lt63 z := by
    rcases open_ints Try.underlying36 Try.underlying3 (by kernel_rfl) g5 with ⟨hcs, _⟩ | ⟨x, l, c, zs, hcs, _, hl, hm, hz, _, hcell, hwz⟩
    · exact ⟨_, _, _, [], cut_eq cV hcs, ⟨rfl, fun h => absurd h (Nat.lt_irrefl 0)⟩, fun h => absurd h (Nat.lt_irrefl 0), Nat.le_refl _, Nat.zero_le _, by simp⟩
    · obtain ⟨h1, h2⟩ := si_open hl (by simpa using hz) hcell
      have hm' : c ≤ 2 ^ 63 - 1 := hm
      exact ⟨_, _, _, _, cut_eq cV hcs, h1, h2, hl, by omega, fun z hz => by have := bounds_i64 (hwz z (List.mem_of_mem_take hz)); unfold lt63; omega⟩
  -- the digest
  obtain ⟨id, hid32, e3⟩ : ∃ id : List UInt8, id.length = 32 ∧ (cs.drop 3).take 32 = id.map bv := by
    obtain ⟨ys, m, _, hx1, hlen3, hn3, hel⟩ := DataW.trod_array Try.underlying33 g3
    have e3 : ((cs.drop 3).take 32).length = 32 := by rw [List.length_take, List.length_drop]; omega
    have hq : ∀ i, i < 32 → ∃ b : UInt8, ((cs.drop 3).take 32)[i]? = some (bv b) := fun i hi => by
      have hl3 : ys.length = 32 := by first | exact hn3 | exact hlen3
      have hi' : i < ys.length := by omega
      have h := (hel i hi).trans (List.getElem?_eq_getElem hi')
      obtain ⟨z, e, _, u⟩ := DataW.trod_int Try.underlying5 h
      have e' : (((cs.drop 3).take (Try.prog.cellsOf 33)).drop (i * Try.prog.cellsOf 5)).take (Try.prog.cellsOf 5) = [.int .u8 z] := e
      rw [cU, cD, Nat.mul_one] at e'
      refine ⟨UInt8.ofNat z.toNat, ?_⟩
      have h4 : ((((cs.drop 3).take 32).drop i).take 1)[0]? = some (.int .u8 z) := by rw [e']; rfl
      rw [List.getElem?_take, if_pos (by omega), List.getElem?_drop, Nat.add_zero] at h4
      rw [bv, ← byte_of (bounds_u8 u)]
      exact h4
    obtain ⟨id, hid⟩ := bytes_of_cells ((cs.drop 3).take 32) fun i hi => hq i (by omega)
    refine ⟨id, ?_, hid⟩
    have := congrArg List.length hid
    rw [e3, List.length_map] at this
    exact this.symm
  -- the dot
  obtain ⟨x, y', e4, wx, wy⟩ : ∃ x y, (cs.drop 35).take 2 = [.int .i64 x, .int .i64 y] ∧ lt63 x ∧ lt63 y := by
    obtain ⟨ys, m, _, _, _, hlen4, hf4⟩ := DataW.trod_struct Try.underlying35 g4
    have h2 : ys.length = 2 := hlen4
    have d0 := (hf4 0 _ rfl).trans (List.getElem?_eq_getElem (show 0 < ys.length by omega))
    have d1 := (hf4 1 _ rfl).trans (List.getElem?_eq_getElem (show 1 < ys.length by omega))
    obtain ⟨x, a0, -, u0⟩ := DataW.trod_int Try.underlying3 d0
    obtain ⟨y, a1, -, u1⟩ := DataW.trod_int Try.underlying3 d1
    have a0 : (((cs.drop 35).take (Try.prog.cellsOf 35)).drop 0).take 1 = [.int .i64 x] := cut_eq cI a0
    have a1 : (((cs.drop 35).take (Try.prog.cellsOf 35)).drop 1).take 1 = [.int .i64 y] := cut_eq cI a1
    rw [cO] at a0 a1
    refine ⟨x, y, ?_, by have := bounds_i64 u0; unfold lt63; omega, by have := bounds_i64 u1; unfold lt63; omega⟩
    have s := drop_step ((cs.drop 35).take 2) 0 1
    have s1 := drop_step ((cs.drop 35).take 2) (0 + 1) 1
    have s2 : ((cs.drop 35).take 2).drop (0 + 1 + 1) = [] := List.drop_eq_nil_of_le (by rw [List.length_take]; omega)
    rw [s2, a1, List.append_nil] at s1
    rw [s1, a0, List.drop_zero] at s
    exact s
  have q0 := drop_step cs 0 1
  have q1 := drop_step cs 1 1
  have q2 := drop_step cs 2 1
  have q3 := drop_step cs 3 32
  have q4 := drop_step cs 35 2
  have q5 := drop_step cs 37 1
  have q6 := drop_step cs 38 1
  have q7 : cs.drop 39 = [] := List.drop_eq_nil_of_le (by omega)
  rw [e0] at q0; rw [e1] at q1; rw [e2] at q2; rw [e3] at q3; rw [e4] at q4; rw [e5] at q5; rw [e6] at q6
  refine ⟨⟨k, nn, A, c, bs, id, x, y', A2, c2, zs2, bb⟩, ?_, ⟨hid32, by simpa only [hsb.1] using hsb, by simpa only [hsi.1] using hsi, by simpa only [hsb.1] using hlm, by simpa only [hsi.1] using hlm2, by simpa only [hsb.1] using hlc, by simpa only [hsi.1] using hlc2, by have := bounds_i64 w1; simp only [lt63]; omega, wx, wy, hz2⟩, ?_, ?_⟩
  · have hh : cs = cs.drop 0 := rfl
    rw [hh, q0, q1, q2, q3, q4, q5, q6, q7]
    simp [TV, part, thHead, thTail, hsb.1, hsi.1]
  · intro hp b off e
    obtain ⟨b', off', e', hlt, -⟩ := hsb.2 (by have := hsb.1; simp only at hp; omega)
    simp only at e
    rw [e'] at e; cases e
    exact hlt
  · intro hp
    exact hb2 (by have := hsi.1; simp only at hp; omega)
instance : Inhabited Th := ⟨⟨0, 0, none, 0, [], [], 0, 0, none, 0, [], false⟩⟩
set_option maxRecDepth 20000 in
theorem things_open {H : Type} {enc : TypeId × Value → H} {W : World} {n c : Nat} {A : Option Addr} {d : DataW H} {p : List MemPlace}
    (h : DataW.Trod enc Try.prog W 0 (fun _ => true) true 22 (.slice A n c) d p) :
    ∃ ts, THS W A n ts ∧ n ≤ 9223372036854775807 ∧ ∀ t ∈ ts, (0 < t.cs.length → ∀ b off, t.A = some ⟨b, off, none⟩ → b < W.heap.size) ∧ (0 < t.zs.length → ∀ b off, t.A2 = some ⟨b, off, none⟩ → b < W.heap.size) := by
  have cT : Try.prog.cellsOf 38 = 39 := by kernel_rfl
  obtain ⟨fuel, hf⟩ := h
  rcases open_slice Try.underlying22 hf with ⟨hcs, _⟩ | ⟨a, len, cap, m, nn, D, Pl, hcs, _, hle, hmax, hm, _, hx⟩
  · simp [Value.cells] at hcs
    obtain ⟨rfl, rfl, rfl⟩ := hcs
    exact ⟨[], ⟨rfl, fun h => absurd h (Nat.lt_irrefl 0), by simp⟩, Nat.zero_le _, by simp⟩
  · simp [Value.cells] at hcs
    obtain ⟨rfl, rfl, rfl⟩ := hcs
    rw [cT] at hx
    have hmc : m = c := by simpa using hm
    obtain ⟨f, hfs⟩ := choose_lt (α := Th) (n := n) (p := fun i t => (∀ j v, (TV t)[j]? = some v → W.cell? (a.add (i * 39 + j)) = some v) ∧ TOKW W t ∧ (0 < t.cs.length → ∀ b off, t.A = some ⟨b, off, none⟩ → b < W.heap.size) ∧ (0 < t.zs.length → ∀ b off, t.A2 = some ⟨b, off, none⟩ → b < W.heap.size)) (fun i hi => by
      obtain ⟨cs', h1, h2⟩ := hx i (by omega)
      obtain ⟨_, hlen, hcell⟩ := World.cells?_some h1
      obtain ⟨t, rfl, hok, hs1, hs2⟩ := th_open h2
      refine ⟨t, fun j v hj => ?_, hok, hs1, hs2⟩
      have hj39 : j < 39 := by rw [← TV_size hok.1]; exact (Array.getElem?_eq_some_iff.1 hj).1
      have := hcell j hj39
      rw [add_add] at this
      rw [this]
      simpa using hj)
    have hget : ∀ k t, ((List.range n).map f)[k]? = some t → k < n ∧ t = f k := fun k t hk => by
      rw [List.getElem?_map] at hk
      obtain ⟨i, hi, rfl⟩ := Option.map_eq_some_iff.1 hk
      obtain ⟨hlt, rfl⟩ := List.getElem?_eq_some_iff.1 hi
      simp at hlt ⊢
      exact hlt
    have hmem : ∀ t ∈ (List.range n).map f, ∃ i, i < n ∧ t = f i := fun t ht => by
      obtain ⟨i, hi, rfl⟩ := List.mem_map.1 ht
      exact ⟨i, by simpa using hi, rfl⟩
    have hm' : c ≤ 2 ^ 63 - 1 := hmax
    refine ⟨(List.range n).map f, ⟨by simp, fun hn => ?_, fun t ht => ?_⟩, by omega, fun t ht => ?_⟩
    · obtain ⟨hc0, hok0, -⟩ := hfs 0 hn
      have h0 := hc0 0 _ (TV_head (t := f 0) (i := 0) rfl)
      have hspot : a.spot = none := by simpa [Addr.add] using World.cell?_spot h0
      obtain ⟨b, off, spot⟩ := a
      simp only at hspot
      subst hspot
      refine ⟨b, off, rfl, fun k t hk j v hj => ?_⟩
      obtain ⟨hkn, rfl⟩ := hget k t hk
      have := (hfs k hkn).1 j v hj
      rw [Addr.add_lit] at this
      rw [Nat.add_assoc]; exact this
    · obtain ⟨i, hi, rfl⟩ := hmem t ht
      exact (hfs i hi).2.1
    · obtain ⟨i, hi, rfl⟩ := hmem t ht
      exact (hfs i hi).2.2
end Go.Proofs.Ytcpkjpeimnaimaa
