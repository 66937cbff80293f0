/- Contracts: the kit's LongManifest. -/
import Derived.Test.YtfmbnlnnfoonjaaMdSameM
import Derived.Test.YtfmbnlnnfoonjaaMdBody
import Derived.Test.YtfmbnlnnfoonjaaRow
import Derived.Deep.Slices
import Derived.ChangeOld
import Derived.OpenShut
namespace Go.Proofs.Ytfmbnlnnfoonjaa
open Go.RowKit

/-- a description's platform in a slice -/
theorem SDs.plat {w : World} {B n k : Nat} {A : Option Addr} {ds : List DD} (h : SDs w B A n ds) (hk : k < n) : ∃ b off d, A = some ⟨b, off, none⟩ ∧ ds[k]? = some d ∧ w.cell? ⟨b, off + k * 35 + 34, none⟩ = some (.string (strB d.p)) := by
  obtain ⟨b, off, d, e, -, hd, -, h32, hc⟩ := h.at_ hk
  exact ⟨b, off, d, e, hd, hc 34 _ (dcs_34 h32)⟩
structure NotLong (m : MM) : Prop where
  l : m.l.length ≤ 20
  u : m.u.length ≤ 12
  t : m.t.length ≤ 5000
  c : m.c.p.length ≤ 300
  ls : ∀ d ∈ m.l, d.p.length ≤ 300
  us : ∀ d ∈ m.u, d.p.length ≤ 300
def LongP (m : MM) (w : World) (e : Ending) (w' : World) : Prop := ∃ b : Bool, e = .returned (.bool b) ∧ (b = false → NotLong m) ∧ Below w.heap.size w w'
theorem strB_sz' (a : List UInt8) : (strB a).size = a.length := by simp [strB, ByteArray.size]
theorem take_all {ds : List DD} {k : Nat} (P : DD → Prop) {d : DD} (hd : ds[k]? = some d) (h : ∀ d ∈ ds.take k, P d) (hp : P d) : ∀ d ∈ ds.take (k + 1), P d := by
  intro x hx
  rw [List.take_add_one, hd] at hx
  rcases List.mem_append.1 hx with hx | hx
  · exact h x hx
  · simp at hx; rw [hx]; exact hp
set_option maxRecDepth 20000 in
set_option maxHeartbeats 2000000 in
theorem long_calls (B : Nat) (m : MM) (v1 v2 : Value) (w : World) (hi : MIn w B m v1 v2) :
    Calls Try.prog 8 #[.agg (mcs m v1 v2).toArray] w (LongP m w) := by
  have hb := below_new w (.cells (mcs m v1 v2).toArray 28)
  have hk := Blk.new w 28 (mcs m v1 v2).toArray
  have h32 := hi.1
  obtain ⟨-, A, c, A2, c2, e1, e2, hs1, hs2, -, -⟩ := hi.keep hb
  have HC := hid (fun W (hW : Below (w.alloc (.cells (mcs m v1 v2).toArray 28)).heap.size (w.alloc (.cells (mcs m v1 v2).toArray 28)) W) => (⟨(hk.keep hW).cell 37 (by rw [List.getElem?_toArray, ← e1]; exact mcs_37 h32 v1 v2), (hk.keep hW).cell 38 (by rw [List.getElem?_toArray, ← e2]; exact mcs_38 h32 v1 v2), hs1.keep hW, hs2.keep hW⟩ : W.cell? ⟨w.heap.size, 37, none⟩ = some (.slice A m.l.length c) ∧ W.cell? ⟨w.heap.size, 38, none⟩ = some (.slice A2 m.u.length c2) ∧ SDs W B A m.l.length m.l ∧ SDs W B A2 m.u.length m.u))
  have d1 := hk.cell 1 (by rw [List.getElem?_toArray]; exact mcs_1 m v1 v2)
  have d36 := hk.cell 36 (by rw [List.getElem?_toArray]; exact mcs_36 h32 v1 v2)
  have d37 := (HC.out _ (Below.refl _ _)).1
  have d38 := (HC.out _ (Below.refl _ _)).2.1
  have HB := hid hb
  clear hb hk hi hs1 hs2
  generalize (mcs m v1 v2).toArray = cm at d1 d36 d37 d38 HB HC ⊢
  clear e1 e2
  have z1 := strB_sz' m.t
  have z2 := strB_sz' m.c.p
  generalize strB m.t = s1 at d1 z1
  generalize strB m.c.p = s2 at d36 z2
  generalize hw1 : w.alloc (.cells cm 28) = w1 at d1 d36 d37 d38 HB HC
  have HL : Hid (∀ (W : World) (k : Nat), Below w1.heap.size w1 W → k < m.l.length → ∃ b off d, A = some ⟨b, off, none⟩ ∧ m.l[k]? = some d ∧ W.cell? ⟨b, off + k * 35 + 34, none⟩ = some (.string (strB d.p))) := hid (fun W k hW hk => (HC.out W hW).2.2.1.plat hk)
  have HU : Hid (∀ (W : World) (k : Nat), Below w1.heap.size w1 W → k < m.u.length → ∃ b off d, A2 = some ⟨b, off, none⟩ ∧ m.u[k]? = some d ∧ W.cell? ⟨b, off + k * 35 + 34, none⟩ = some (.string (strB d.p))) := hid (fun W k hW hk => (HC.out W hW).2.2.2.plat hk)
  have HLN := hid (show m.l.take m.l.length = m.l ∧ m.u.take m.u.length = m.u from ⟨List.take_length, List.take_length⟩)
  by_cases q1 : (20 : Int) < (m.l.length : Int)
  · go_enter Try.func8, Try.ntmps8
    go_wp2_with fail
    go_ret
    exact ⟨true, rfl, (fun h => by cases h), HB.out⟩
  by_cases q2 : (12 : Int) < (m.u.length : Int)
  · go_enter Try.func8, Try.ntmps8
    go_wp2_with fail
    go_ret
    exact ⟨true, rfl, (fun h => by cases h), HB.out⟩
  by_cases q3 : (5000 : Int) < (s1.size : Int)
  · go_enter Try.func8, Try.ntmps8
    go_wp2_with fail
    go_ret
    exact ⟨true, rfl, (fun h => by cases h), HB.out⟩
  by_cases q4 : (300 : Int) < (s2.size : Int)
  · go_enter Try.func8, Try.ntmps8
    go_wp2_with fail
    go_ret
    exact ⟨true, rfl, (fun h => by cases h), HB.out⟩
  have HN := hid (show m.l.length ≤ 20 ∧ m.u.length ≤ 12 ∧ m.t.length ≤ 5000 ∧ m.c.p.length ≤ 300 from ⟨by omega, by omega, by omega, by omega⟩)
  clear z1 z2
  generalize hnl : m.l.length = nl at d37 HL HLN HC q1
  generalize hnu : m.u.length = nu at d38 HU HLN HC q2
  have HNN := hid (show m.l.length = nl ∧ m.u.length = nu from ⟨hnl, hnu⟩)
  clear hnl hnu
  have hb20 : nl ≤ 20 := by have := HN.out.1; have := HNN.out.1; omega
  have hb12 : nu ≤ 12 := by have := HN.out.2.1; have := HNN.out.2; omega
  go_enter Try.func8, Try.ntmps8
  go_wp2_with fail
  clear d1 d36 q1 q2 q3 q4 d37 d38
  go_loopw [3] (fun i wr => ∃ k : Nat, i = .int .i64 (k : Int) ∧ k ≤ nl ∧ Hid (∀ d ∈ m.l.take k, d.p.length ≤ 300) ∧ Hid (Below w1.heap.size w1 wr)) (fun i _ => nl - (intOf i).toNat)
  case atStart => exact ⟨0, rfl, Nat.zero_le _, hid (by simp), hid (Below.refl _ _)⟩
  case round =>
    obtain ⟨k, rfl, hk, HA, HW⟩ := hrel
    obtain ⟨d37, d38, -, -⟩ := HC.out _ HW.out
    by_cases hlt : k < nl
    · have hlt' : (k : Int) < (nl : Int) := by omega
      obtain ⟨b, off, d, rfl, hd, hc⟩ := HL.out _ k HW.out hlt
      have HD := hid hd
      have zd := strB_sz' d.p
      generalize strB d.p = sd at hc zd
      clear hd
      by_cases q5 : (300 : Int) < (sd.size : Int)
      · clear zd
        go_wp2_with fail
        go_ret
        exact ⟨true, rfl, (fun h => by cases h), HB.out.trans (HW.out.mono HB.out.size)⟩
      · have HX := hid (take_all (fun d => d.p.length ≤ 300) HD.out HA.out (by show d.p.length ≤ 300; omega))
        clear zd
        go_wp2_with fail
        go_roundw
        case rel => exact ⟨k + 1, by go_num, by omega, HX, HW⟩
        case measure => simp [intOf]; omega
    · obtain rfl : k = nl := by omega
      go_wp2_with fail
      clear d37 d38
      rename_i wr1 _ _
      go_loopw [4] (fun i wr => ∃ k : Nat, i = .int .i64 (k : Int) ∧ k ≤ nu ∧ Hid (∀ d ∈ m.u.take k, d.p.length ≤ 300) ∧ Hid (Below w1.heap.size w1 wr)) (fun i _ => nu - (intOf i).toNat)
      case atStart => exact ⟨0, rfl, Nat.zero_le _, hid (by simp), HW⟩
      case round =>
        clear HW
        obtain ⟨k2, rfl, hk, HA2, HW⟩ := hrel
        obtain ⟨d37, d38, -, -⟩ := HC.out _ HW.out
        by_cases hlt : k2 < nu
        · have hlt' : (k2 : Int) < (nu : Int) := by omega
          obtain ⟨b, off, d, rfl, hd, hc⟩ := HU.out _ k2 HW.out hlt
          have HD := hid hd
          have zd := strB_sz' d.p
          generalize strB d.p = sd at hc zd
          clear hd
          by_cases q5 : (300 : Int) < (sd.size : Int)
          · clear zd
            go_wp2_with fail
            go_ret
            exact ⟨true, rfl, (fun h => by cases h), HB.out.trans (HW.out.mono HB.out.size)⟩
          · have HX := hid (take_all (fun d => d.p.length ≤ 300) HD.out HA2.out (by show d.p.length ≤ 300; omega))
            clear zd
            go_wp2_with fail
            go_roundw
            case rel => exact ⟨k2 + 1, by go_num, by omega, HX, HW⟩
            case measure => simp [intOf]; omega
        · obtain rfl : k2 = nu := by omega
          go_wp2_with fail
          go_ret
          have h1 := HA.out
          have h2 := HA2.out
          rw [HLN.out.1] at h1
          rw [HLN.out.2] at h2
          exact ⟨false, rfl, (fun _ => ⟨HN.out.1, HN.out.2.1, HN.out.2.2.1, HN.out.2.2.2, h1, h2⟩), HB.out.trans (HW.out.mono HB.out.size)⟩
end Go.Proofs.Ytfmbnlnnfoonjaa
/- A manifest that came in. -/
namespace Go.Proofs.Ytfmbnlnnfoonjaa
open Go.ChangeShapes Go.WideShapes Go.ChangeAt Go.RowKit Go.Deep

theorem mdrop_step {α : Type} (l : List α) (a n : Nat) : l.drop a = (l.drop a).take n ++ l.drop (a + n) := by
  rw [← List.drop_drop]; exact (List.take_append_drop n _).symm
theorem mcut_eq {cs l : List Value} {a m m' : Nat} (c : m = m') (h : (cs.drop a).take m = l) : (cs.drop a).take m' = l := c ▸ h
theorem mbytes_of_cells : ∀ (cs : List Value), (∀ i, i < cs.length → ∃ b : UInt8, cs[i]? = some (bv b)) → ∃ l : List UInt8, cs = l.map bv
  | [], _ => ⟨[], rfl⟩
  | c :: cs, h => by
    obtain ⟨b, hb⟩ := h 0 (by simp)
    obtain ⟨l, hl⟩ := mbytes_of_cells cs fun i hi => by
      obtain ⟨b, hb⟩ := h (i + 1) (by simpa using hi)
      exact ⟨b, by simpa using hb⟩
    refine ⟨b :: l, ?_⟩
    simp at hb
    rw [hb, hl]; rfl
/-- a description that came in -/
structure DW (d : DD) : Prop where
  id : d.id.length = 32
  m : lt63 d.m
  s : lt63 d.s
  p : d.p.length ≤ maxLen
instance : Inhabited DD := ⟨⟨0, [], 0, []⟩⟩
set_option maxHeartbeats 2000000 in
set_option maxRecDepth 20000 in
theorem desc_open {H : Type} {enc : TypeId × Value → H} {W : World} {fuel : Nat} {cs : List Value} {y : DataW H × List MemPlace}
    (h : DataW.trod enc Try.prog W 0 (fun _ => true) true fuel 25 cs = some y) : ∃ d : DD, cs = dcs d ∧ DW d := by
  have cT : Try.prog.cellsOf 25 = 35 := by kernel_rfl
  have cI : Try.prog.cellsOf 3 = 1 := by kernel_rfl
  have cU : Try.prog.cellsOf 5 = 1 := by kernel_rfl
  have cS : Try.prog.cellsOf 9 = 1 := by kernel_rfl
  have cD : Try.prog.cellsOf 23 = 32 := by kernel_rfl
  obtain ⟨xs, n, _, _, hl, hlen, hf⟩ := DataW.trod_struct Try.underlying25 h
  rw [cT] at hl
  have h4 : xs.length = 4 := hlen
  have g0 := (hf 0 _ rfl).trans (List.getElem?_eq_getElem (show 0 < xs.length by omega))
  have g1 := (hf 1 _ rfl).trans (List.getElem?_eq_getElem (show 1 < xs.length by omega))
  have g2 := (hf 2 _ rfl).trans (List.getElem?_eq_getElem (show 2 < xs.length by omega))
  have g3 := (hf 3 _ rfl).trans (List.getElem?_eq_getElem (show 3 < xs.length by omega))
  obtain ⟨k, e0, -, w0⟩ := DataW.trod_int Try.underlying3 g0
  obtain ⟨z, e2, -, w2⟩ := DataW.trod_int Try.underlying3 g2
  obtain ⟨s3, e3, -, w3⟩ := DataW.trod_string Try.underlying9 g3
  have e0 : (cs.drop 0).take 1 = [.int .i64 k] := mcut_eq cI e0
  have e2 : (cs.drop 33).take 1 = [.int .i64 z] := mcut_eq cI e2
  have e3 : (cs.drop 34).take 1 = [.string s3] := mcut_eq cS e3
  obtain ⟨id, hid32, e1⟩ : ∃ id : List UInt8, id.length = 32 ∧ (cs.drop 1).take 32 = id.map bv := by
    obtain ⟨ys, m, _, hx1, hlen3, hn3, hel⟩ := DataW.trod_array Try.underlying23 g1
    have e3 : ((cs.drop 1).take 32).length = 32 := by rw [List.length_take, List.length_drop]; omega
    have hq : ∀ i, i < 32 → ∃ b : UInt8, ((cs.drop 1).take 32)[i]? = some (bv b) := fun i hi => by
      have hl3 : ys.length = 32 := by first | exact hn3 | exact hlen3
      have hi' : i < ys.length := by omega
      have h := (hel i hi).trans (List.getElem?_eq_getElem hi')
      obtain ⟨z, e, _, u⟩ := DataW.trod_int Try.underlying5 h
      have e' : (((cs.drop 1).take (Try.prog.cellsOf 23)).drop (i * Try.prog.cellsOf 5)).take (Try.prog.cellsOf 5) = [.int .u8 z] := e
      rw [cU, cD, Nat.mul_one] at e'
      refine ⟨UInt8.ofNat z.toNat, ?_⟩
      have h4 : ((((cs.drop 1).take 32).drop i).take 1)[0]? = some (.int .u8 z) := by rw [e']; rfl
      rw [List.getElem?_take, if_pos (by omega), List.getElem?_drop, Nat.add_zero] at h4
      rw [bv, ← byte_of (bounds_u8 u)]
      exact h4
    obtain ⟨id, hid⟩ := mbytes_of_cells ((cs.drop 1).take 32) fun i hi => hq i (by omega)
    refine ⟨id, ?_, hid⟩
    have := congrArg List.length hid
    rw [e3, List.length_map] at this
    exact this.symm
  have q0 := mdrop_step cs 0 1
  have q1 := mdrop_step cs 1 32
  have q2 := mdrop_step cs 33 1
  have q3 := mdrop_step cs 34 1
  have q4 : cs.drop 35 = [] := List.drop_eq_nil_of_le (by omega)
  rw [e0] at q0; rw [e1] at q1; rw [e2] at q2; rw [e3] at q3
  have b0 := bounds_i64 w0
  have b2 := bounds_i64 w2
  refine ⟨⟨k, id, z, s3.data.toList⟩, ?_, ⟨hid32, by unfold lt63; show k < _; omega, by unfold lt63; show z < _; omega, by simpa using w3⟩⟩
  have hh : cs = cs.drop 0 := rfl
  rw [hh, q0, q1, q2, q3, q4]
  simp only [dcs, List.cons_append, List.nil_append, List.append_nil]
  rfl
/-- a slice of descriptions, among a struct's cells -/
theorem descs_open {H : Type} {enc : TypeId × Value → H} {W : World} {fuel : Nat} {cs : List Value} {y : DataW H × List MemPlace}
    (h : DataW.trod enc Try.prog W 0 (fun _ => true) true fuel 26 cs = some y) :
    ∃ A n c ds, cs = [.slice A n c] ∧ SDs W W.heap.size A n ds ∧ n ≤ c ∧ n ≤ 9223372036854775807 ∧ ∀ d ∈ ds, DW d := by
  have cT : Try.prog.cellsOf 25 = 35 := by kernel_rfl
  rcases open_slice Try.underlying26 h with ⟨hcs, _⟩ | ⟨a, n, c, m, nn, D, Pl, hcs, _, hle, hmax, hm, _, hx⟩
  · exact ⟨_, _, _, [], hcs, SDs.nil _ _ _, Nat.le_refl _, Nat.zero_le _, by simp⟩
  · rw [cT] at hx
    have hmc : m = c := by simpa using hm
    obtain ⟨f, hfs⟩ := choose_lt (α := DD) (n := n) (p := fun i x => DW x ∧ ∀ (j : Nat) v, (dcs x)[j]? = some v → W.cell? (a.add (i * 35 + j)) = some v) (fun i hi => by
      obtain ⟨cs', h1, h2⟩ := hx i (by omega)
      obtain ⟨_, hlen, hcell⟩ := World.cells?_some h1
      obtain ⟨t, rfl, hok⟩ := desc_open h2
      refine ⟨t, hok, fun j v hj => ?_⟩
      have hj35 : j < 35 := by
        have := (List.getElem?_eq_some_iff.1 hj).1
        rw [dcs_length hok.id] at this
        exact this
      have := hcell j hj35
      rw [add_add] at this
      rw [this]
      exact hj)
    have hget : ∀ k t, ((List.range n).map f)[k]? = some t → k < n ∧ t = f k := fun k t hk => by
      rw [List.getElem?_map] at hk
      obtain ⟨i, hi, rfl⟩ := Option.map_eq_some_iff.1 hk
      obtain ⟨hlt, rfl⟩ := List.getElem?_eq_some_iff.1 hi
      simp at hlt ⊢
      exact hlt
    have hm' : c ≤ 2 ^ 63 - 1 := hmax
    have hall : ∀ d ∈ (List.range n).map f, DW d := fun x hx => by
      obtain ⟨i, hi, rfl⟩ := List.mem_map.1 hx
      exact (hfs i (by simpa using hi)).1
    refine ⟨_, _, _, (List.range n).map f, hcs, ⟨by simp, fun d hd => (hall d hd).id, fun hn => ?_⟩, hle, by omega, hall⟩
    obtain ⟨h0, hc0⟩ := hfs 0 hn
    have h1 := hc0 0 _ (dcs_0 _)
    have hspot : a.spot = none := by simpa [Addr.add] using World.cell?_spot h1
    obtain ⟨b, off, spot⟩ := a
    simp only at hspot
    subst hspot
    refine ⟨b, off, rfl, by rw [Addr.add_lit] at h1; exact lt_of_cell h1, fun k t hk j v hj => ?_⟩
    obtain ⟨hkn, rfl⟩ := hget k t hk
    have := (hfs k hkn).2 j v hj
    rw [Addr.add_lit] at this
    rw [Nat.add_assoc]; exact this
/-- a manifest that came in -/
structure MW (m : MM) : Prop where
  k : lt63 m.k
  c : DW m.c
  l : ∀ d ∈ m.l, DW d
  u : ∀ d ∈ m.u, DW d
  nl : m.l.length ≤ 9223372036854775807
  nu : m.u.length ≤ 9223372036854775807
set_option maxHeartbeats 2000000 in
set_option maxRecDepth 20000 in
theorem man_open {H : Type} {enc : TypeId × Value → H} {W : World} {cs : List Value} {fuel : Nat} {y : DataW H × List MemPlace}
    (h : DataW.trod enc Try.prog W 0 (fun _ => true) true fuel 28 cs = some y) : ∃ m v1 v2, cs = mcs m v1 v2 ∧ MIn W W.heap.size m v1 v2 ∧ MW m := by
  have cT : Try.prog.cellsOf 28 = 39 := by kernel_rfl
  have cI : Try.prog.cellsOf 3 = 1 := by kernel_rfl
  have cS : Try.prog.cellsOf 9 = 1 := by kernel_rfl
  have cD : Try.prog.cellsOf 25 = 35 := by kernel_rfl
  have cL : Try.prog.cellsOf 26 = 1 := by kernel_rfl
  obtain ⟨xs, n, _, _, hl, hlen, hf⟩ := DataW.trod_struct Try.underlying28 h
  rw [cT] at hl
  have h5 : xs.length = 5 := hlen
  have g0 := (hf 0 _ rfl).trans (List.getElem?_eq_getElem (show 0 < xs.length by omega))
  have g1 := (hf 1 _ rfl).trans (List.getElem?_eq_getElem (show 1 < xs.length by omega))
  have g2 := (hf 2 _ rfl).trans (List.getElem?_eq_getElem (show 2 < xs.length by omega))
  have g3 := (hf 3 _ rfl).trans (List.getElem?_eq_getElem (show 3 < xs.length by omega))
  have g4 := (hf 4 _ rfl).trans (List.getElem?_eq_getElem (show 4 < xs.length by omega))
  obtain ⟨k, e0, -, w0⟩ := DataW.trod_int Try.underlying3 g0
  obtain ⟨s1, e1, -, w1⟩ := DataW.trod_string Try.underlying9 g1
  obtain ⟨d, e2, w2⟩ := desc_open g2
  obtain ⟨A1, n1, c1, ds1, e3, hs1, hle1, hmx1, hw1⟩ := descs_open g3
  obtain ⟨A2, n2, c2, ds2, e4, hs2, hle2, hmx2, hw2⟩ := descs_open g4
  have e0 : (cs.drop 0).take 1 = [.int .i64 k] := mcut_eq cI e0
  have e1 : (cs.drop 1).take 1 = [.string s1] := mcut_eq cS e1
  have e2 : (cs.drop 2).take 35 = dcs d := mcut_eq cD e2
  have e3 : (cs.drop 37).take 1 = [.slice A1 n1 c1] := mcut_eq cL e3
  have e4 : (cs.drop 38).take 1 = [.slice A2 n2 c2] := mcut_eq cL e4
  obtain rfl := hs1.1
  obtain rfl := hs2.1
  have q0 := mdrop_step cs 0 1
  have q1 := mdrop_step cs 1 1
  have q2 := mdrop_step cs 2 35
  have q3 := mdrop_step cs 37 1
  have q4 := mdrop_step cs 38 1
  have q5 : cs.drop 39 = [] := List.drop_eq_nil_of_le (by omega)
  rw [e0] at q0; rw [e1] at q1; rw [e2] at q2; rw [e3] at q3; rw [e4] at q4
  have b0 := bounds_i64 w0
  refine ⟨⟨k, s1.data.toList, d, ds1, ds2⟩, _, _, ?_, ⟨w2.id, A1, c1, A2, c2, rfl, rfl, hs1, hs2, hle1, hle2⟩, ⟨by unfold lt63; show k < _; omega, w2, hw1, hw2, hmx1, hmx2⟩⟩
  have hh : cs = cs.drop 0 := rfl
  rw [hh, q0, q1, q2, q3, q4, q5]
  simp only [mcs, List.cons_append, List.nil_append, List.append_nil]
  rfl
set_option maxRecDepth 20000 in
theorem man_arg {H : Type} {enc : TypeId × Value → H} {W : World} {base : Nat} {v : Value} {d : DataW H} {p : List MemPlace}
    (hv : Value.okWide Try.prog W .any base 28 v) (h : DataW.Trod enc Try.prog W 0 (fun _ => true) true 28 v d p) :
    ∃ m v1 v2, v = .agg (mcs m v1 v2).toArray ∧ MIn W W.heap.size m v1 v2 ∧ MW m := by
  obtain ⟨cs, rfl, hsz, _⟩ : ∃ cs, v = .agg cs ∧ cs.size = Try.prog.cellsOf 28 ∧ Row.okWide Try.prog W .any base 28 cs := by
    simpa [Value.okWide, Try.underlying28] using hv
  obtain ⟨fuel, hf⟩ := h
  have hf' : DataW.trod enc Try.prog W 0 (fun _ => true) true fuel 28 cs.toList = some (d, p) := hf
  obtain ⟨m, v1, v2, e, h1, h2⟩ := man_open hf'
  exact ⟨m, v1, v2, by rw [← e], h1, h2⟩
/-- the law's own copy of the manifest -/
structure BoxM (w W : World) (m : MM) (v1 v2 : Value) (cm : Array Value) : Prop where
  eq : cm = (mcs m v1 v2).toArray
  blk : Blk W w.heap.size 28 cm
  mIn : MIn W W.heap.size m v1 v2
  bel : Below w.heap.size w W
section
variable {w W W' : World} {m : MM} {v1 v2 : Value} {cm : Array Value}
theorem BoxM.start (hi : MIn w w.heap.size m v1 v2) : BoxM w (w.alloc (.cells (mcs m v1 v2).toArray 28)) m v1 v2 (mcs m v1 v2).toArray :=
  ⟨rfl, Blk.new _ _ _, (hi.keep (below_new _ _)).more (below_new _ _).size, below_new _ _⟩
theorem BoxM.keep (h : BoxM w W m v1 v2 cm) (hb : Below W.heap.size W W') : BoxM w W' m v1 v2 cm :=
  ⟨h.eq, h.blk.keep hb, (h.mIn.keep hb).more hb.size, h.bel.trans (hb.mono h.bel.size)⟩
theorem BoxM.run (h : BoxM w W m v1 v2 cm) : (loadVar 28 ⟨w.heap.size, 0, none⟩).run Try.prog W = .ok (.agg cm) W :=
  run_loadVar_row W w.heap.size _ _ _ (0, 0) _ h.blk Try.underlying28 rfl (by rw [h.eq]; exact size_man h.mIn.1 v1 v2)
theorem BoxM.c0 (h : BoxM w W m v1 v2 cm) : W.cell? ⟨w.heap.size, 0, none⟩ = some (.int .i64 m.k) := h.blk.cell 0 (by rw [h.eq, List.getElem?_toArray]; exact mcs_0 m v1 v2)
theorem BoxM.c37 (h : BoxM w W m v1 v2 cm) : W.cell? ⟨w.heap.size, 37, none⟩ = some v1 := h.blk.cell 37 (by rw [h.eq, List.getElem?_toArray]; exact mcs_37 h.mIn.1 v1 v2)
theorem BoxM.c38 (h : BoxM w W m v1 v2 cm) : W.cell? ⟨w.heap.size, 38, none⟩ = some v2 := h.blk.cell 38 (by rw [h.eq, List.getElem?_toArray]; exact mcs_38 h.mIn.1 v1 v2)
end
theorem mw_ok {m : MM} (h : MW m) (k : NotLong m) : MOK m :=
  ⟨⟨h.c.id, h.c.m, h.c.s, by have := k.c; omega⟩, by have := k.t; omega, by have := k.l; omega, by have := k.u; omega, h.k, fun d hd => ⟨(h.l d hd).id, (h.l d hd).m, (h.l d hd).s, by have := k.ls d hd; omega⟩, fun d hd => ⟨(h.u d hd).id, (h.u d hd).m, (h.u d hd).s, by have := k.us d hd; omega⟩⟩
end Go.Proofs.Ytfmbnlnnfoonjaa
