/- Acts on a log that came in, opened; the law in all its cases. -/
import Derived.Test.YtiejndkchcljdaaLgScW
import Derived.Test.YtiejndkchcljdaaRow
import Derived.Deep.Slices
import Derived.Deep.Grids
import Derived.ChangeOld
import Derived.OpenShut
namespace Go.Proofs.Ytiejndkchcljdaa
open Go.ChangeShapes Go.WideShapes Go.ChangeAt Go.RowKit Go.Deep

theorem lkb_of {w : World} {x : Addr} {l c : Nat} {B : Nat → Bool} (hl : l ≤ c) (hcell : ∀ i, i < c → w.cell? (x.add i) = some (.bool (B i))) : ∃ bs, KB w (some x) l bs := by
  refine ⟨(List.range l).map B, by simp, fun hn => ?_⟩
  have h0 := hcell 0 (by omega)
  have hspot : x.spot = none := by simpa [Addr.add] using World.cell?_spot h0
  obtain ⟨b, off, spot⟩ := x
  simp only at hspot
  subst hspot
  simp only [Addr.add_lit] at hcell
  refine ⟨b, off, rfl, fun j z hj => ?_⟩
  rw [List.getElem?_map] at hj
  obtain ⟨i, hi, rfl⟩ := Option.map_eq_some_iff.1 hj
  obtain ⟨h1, h2⟩ := List.getElem?_eq_some_iff.1 hi
  simp at h1 h2
  subst h2
  exact hcell j (by omega)
instance : Inhabited LAct := ⟨⟨0, ⟨0, 0, 0⟩, 0, none, 0, [], none, 0, []⟩⟩
theorem ldrop_step {α : Type} (l : List α) (a n : Nat) : l.drop a = (l.drop a).take n ++ l.drop (a + n) := by
  rw [← List.drop_drop]; exact (List.take_append_drop n _).symm
theorem lcut_eq {cs l : List Value} {a m m' : Nat} (c : m = m') (h : (cs.drop a).take m = l) : (cs.drop a).take m' = l := c ▸ h
set_option maxHeartbeats 2000000 in
set_option maxRecDepth 20000 in
theorem lact_open {H : Type} {enc : TypeId × Value → H} {W : World} {fuel : Nat} {cs : List Value} {y : DataW H × List MemPlace}
    (h : DataW.trod enc Try.prog W 0 (fun _ => true) true fuel 37 cs = some y) : ∃ t : LAct, cs = (LV t).toList ∧ LOK W t := by
  have cT : Try.prog.cellsOf 37 = 7 := by kernel_rfl
  have cI : Try.prog.cellsOf 3 = 1 := by kernel_rfl
  have cR : Try.prog.cellsOf 33 = 3 := by kernel_rfl
  have cU : Try.prog.cellsOf 34 = 1 := by kernel_rfl
  have cB : Try.prog.cellsOf 35 = 1 := by kernel_rfl
  obtain ⟨xs, n, _, _, hl, hlen, hf⟩ := DataW.trod_struct Try.underlying37 h
  rw [cT] at hl
  have h5 : xs.length = 5 := hlen
  have g0 := (hf 0 _ rfl).trans (List.getElem?_eq_getElem (show 0 < xs.length by omega))
  have g1 := (hf 1 _ rfl).trans (List.getElem?_eq_getElem (show 1 < xs.length by omega))
  have g2 := (hf 2 _ rfl).trans (List.getElem?_eq_getElem (show 2 < xs.length by omega))
  have g3 := (hf 3 _ rfl).trans (List.getElem?_eq_getElem (show 3 < xs.length by omega))
  have g4 := (hf 4 _ rfl).trans (List.getElem?_eq_getElem (show 4 < xs.length by omega))
  obtain ⟨k, e0, -, w0⟩ := DataW.trod_int Try.underlying3 g0
  obtain ⟨z, e2, -, w2⟩ := DataW.trod_int Try.underlying3 g2
  have e0 : (cs.drop 0).take 1 = [.int .i64 k] := lcut_eq cI e0
  have e2 : (cs.drop 4).take 1 = [.int .i64 z] := lcut_eq cI e2
  obtain ⟨a1, a2, a3, e1⟩ : ∃ a1 a2 a3, (cs.drop 1).take 3 = [.int .i64 a1, .int .i64 a2, .int .i64 a3] := by
    obtain ⟨ys, m, _, _, _, hlen4, hf4⟩ := DataW.trod_struct Try.underlying33 g1
    have h2 : ys.length = 3 := hlen4
    have d0 := (hf4 0 _ rfl).trans (List.getElem?_eq_getElem (show 0 < ys.length by omega))
    have d1 := (hf4 1 _ rfl).trans (List.getElem?_eq_getElem (show 1 < ys.length by omega))
    have d2 := (hf4 2 _ rfl).trans (List.getElem?_eq_getElem (show 2 < ys.length by omega))
    obtain ⟨x1, b0, -, -⟩ := DataW.trod_int Try.underlying3 d0
    obtain ⟨x2, b1, -, -⟩ := DataW.trod_int Try.underlying3 d1
    obtain ⟨x3, b2, -, -⟩ := DataW.trod_int Try.underlying3 d2
    have b0 : (((cs.drop 1).take (Try.prog.cellsOf 33)).drop 0).take 1 = [.int .i64 x1] := lcut_eq cI b0
    have b1 : (((cs.drop 1).take (Try.prog.cellsOf 33)).drop 1).take 1 = [.int .i64 x2] := lcut_eq cI b1
    have b2 : (((cs.drop 1).take (Try.prog.cellsOf 33)).drop 2).take 1 = [.int .i64 x3] := lcut_eq cI b2
    rw [cR] at b0 b1 b2
    refine ⟨x1, x2, x3, ?_⟩
    have s0 := ldrop_step ((cs.drop 1).take 3) 0 1
    have s1 := ldrop_step ((cs.drop 1).take 3) (0 + 1) 1
    have s2 := ldrop_step ((cs.drop 1).take 3) (0 + 1 + 1) 1
    have s3 : ((cs.drop 1).take 3).drop (0 + 1 + 1 + 1) = [] := List.drop_eq_nil_of_le (by rw [List.length_take]; omega)
    rw [s3, b2, List.append_nil] at s2
    rw [s2, b1] at s1
    rw [s1, b0, List.drop_zero] at s0
    exact s0
  obtain ⟨A, l, c, bs, e3, hsb, hlc, hlm⟩ : ∃ A l c bs, (cs.drop 5).take 1 = [.slice A l c] ∧ SB W W.heap.size A l bs ∧ l ≤ c ∧ l ≤ 9223372036854775807 := by
    rcases open_ints Try.underlying34 Try.underlying5 (by kernel_rfl) g3 with ⟨hcs, _⟩ | ⟨x, l, c, zs, hcs, _, hl, hm, hz, _, hcell, hwz⟩
    · exact ⟨_, _, _, [], lcut_eq cU hcs, SB.nil _ _ _, Nat.le_refl _, Nat.zero_le _⟩
    · obtain ⟨bs, hs, hlc⟩ := IsRow.bytes (w := W) (a := some x) (len := l) (cap := c) (zs := zs) (.inr ⟨_, rfl, hl, hm, by simpa using hz, hcell, hwz⟩)
      have hm' : c ≤ 2 ^ 63 - 1 := hm
      exact ⟨_, _, _, bs, lcut_eq cU hcs, hs, hlc, by omega⟩
  obtain ⟨A2, l2, c2, kp, e4, hkb, hlm2⟩ : ∃ A l c bs, (cs.drop 6).take 1 = [.slice A l c] ∧ KB W A l bs ∧ l ≤ 9223372036854775807 := by
    rcases Go.Deep.open_bools Try.underlying35 Try.underlying4 (by kernel_rfl) g4 with ⟨hcs, _⟩ | ⟨x, l, c, B, hcs, _, hl, hm, _, hcell⟩
    · exact ⟨_, _, _, [], lcut_eq cB hcs, ⟨rfl, fun h => absurd h (Nat.lt_irrefl 0)⟩, Nat.zero_le _⟩
    · obtain ⟨bs, hb⟩ := lkb_of hl hcell
      have hm' : c ≤ 2 ^ 63 - 1 := hm
      exact ⟨_, _, _, bs, lcut_eq cB hcs, hb, by omega⟩
  have q0 := ldrop_step cs 0 1
  have q1 := ldrop_step cs 1 3
  have q2 := ldrop_step cs 4 1
  have q3 := ldrop_step cs 5 1
  have q4 := ldrop_step cs 6 1
  have q5 : cs.drop 7 = [] := List.drop_eq_nil_of_le (by omega)
  rw [e0] at q0; rw [e1] at q1; rw [e2] at q2; rw [e3] at q3; rw [e4] at q4
  have hbl := hsb.1
  have hkl := hkb.1
  have hbz := bounds_i64 w2
  refine ⟨⟨k, ⟨a1, a2, a3⟩, z, A, c, bs, A2, c2, kp⟩, ?_, ⟨by simpa only [hbl] using hsb, by simpa only [hkl] using hkb, by simp only; omega, by simp only; omega, by simp only; omega, by simp only; omega⟩⟩
  have hh : cs = cs.drop 0 := rfl
  rw [hh, q0, q1, q2, q3, q4, q5]
  simp [LV, hbl, hkl]
set_option maxRecDepth 20000 in
theorem acts_open {H : Type} {enc : TypeId × Value → H} {W : World} {n c : Nat} {A : Option Addr} {d : DataW H} {p : List MemPlace}
    (h : DataW.Trod enc Try.prog W 0 (fun _ => true) true 22 (.slice A n c) d p) : ∃ ts, LATS W A n ts ∧ n ≤ 9223372036854775807 := by
  have cT : Try.prog.cellsOf 37 = 7 := by kernel_rfl
  obtain ⟨fuel, hf⟩ := h
  rcases open_slice Try.underlying22 hf with ⟨hcs, _⟩ | ⟨a, len, cap, m, nn, D, Pl, hcs, _, hle, hmax, hm, _, hx⟩
  · simp [Value.cells] at hcs
    obtain ⟨rfl, rfl, rfl⟩ := hcs
    exact ⟨[], ⟨rfl, fun h => absurd h (Nat.lt_irrefl 0), by simp⟩, Nat.zero_le _⟩
  · simp [Value.cells] at hcs
    obtain ⟨rfl, rfl, rfl⟩ := hcs
    rw [cT] at hx
    have hmc : m = c := by simpa using hm
    obtain ⟨f, hfs⟩ := choose_lt (α := LAct) (n := n) (p := fun i x => LOK W x ∧ ∀ (j : Nat) v, (LV x)[j]? = some v → W.cell? (a.add (i * 7 + j)) = some v) (fun i hi => by
      obtain ⟨cs', h1, h2⟩ := hx i (by omega)
      obtain ⟨_, hlen, hcell⟩ := World.cells?_some h1
      obtain ⟨t, rfl, hok⟩ := lact_open h2
      refine ⟨t, hok, fun j v hj => ?_⟩
      have hj4 : j < 7 := (Array.getElem?_eq_some_iff.1 hj).1
      have := hcell j hj4
      rw [add_add] at this
      rw [this]
      simpa using hj)
    have hget : ∀ k t, ((List.range n).map f)[k]? = some t → k < n ∧ t = f k := fun k t hk => by
      rw [List.getElem?_map] at hk
      obtain ⟨i, hi, rfl⟩ := Option.map_eq_some_iff.1 hk
      obtain ⟨hlt, rfl⟩ := List.getElem?_eq_some_iff.1 hi
      simp at hlt ⊢
      exact hlt
    have hm' : c ≤ 2 ^ 63 - 1 := hmax
    refine ⟨(List.range n).map f, ⟨by simp, fun hn => ?_, fun x hx => ?_⟩, by omega⟩
    · obtain ⟨h0, hc0⟩ := hfs 0 hn
      have h1 := hc0 0 (.int .i64 (f 0).k) rfl
      have hspot : a.spot = none := by simpa [Addr.add] using World.cell?_spot h1
      obtain ⟨b, off, spot⟩ := a
      simp only at hspot
      subst hspot
      refine ⟨b, off, rfl, fun k t hk j v hj => ?_⟩
      obtain ⟨hkn, rfl⟩ := hget k t hk
      have := (hfs k hkn).2 j v hj
      rw [Addr.add_lit] at this
      rw [Nat.add_assoc]; exact this
    · obtain ⟨i, hi, rfl⟩ := List.mem_map.1 hx
      exact (hfs i (by simpa using hi)).1
theorem acts_calls (z : Int) (n c : Nat) (A : Option Addr) (ts : List LAct) (w : World) (h : LATS w A n ts) (hn : n ≤ 9223372036854775807) :
    Calls Try.prog 3 #[.int .i64 z, .slice A n c] w fun e w' => e = .returned (.bool true) ∧ Below w.heap.size w w' := by
  by_cases h40 : 40 < z
  · exact acts_off z n c A w h40
  · by_cases hz : 1 ≤ z
    · obtain ⟨k, rfl⟩ : ∃ k : Nat, z = (k : Int) := ⟨z.toNat, by omega⟩
      exact acts_good k n c A ts w h hn (by omega) (by omega)
    · exact acts_bad z n c A w (by omega)
end Go.Proofs.Ytiejndkchcljdaa
