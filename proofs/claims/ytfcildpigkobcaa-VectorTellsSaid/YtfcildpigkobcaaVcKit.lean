/- Contracts of the laws' kit on lists of numbers: CopyInts, SameInts, OverInts, Pick; of the law's own: of, dot, wide. -/
import Derived.Test.YtfcildpigkobcaaVcRWit
namespace Go.Proofs.Ytfcildpigkobcaa
open Go Go.RowKit Go.Shelf

theorem lit_ni {W : World} (zs : List Int) (cs : Array Value) (h : cs.toList = zs.map iv) : NI (W.alloc (.cells cs 3)) (some ⟨W.heap.size, 0, none⟩) zs.length zs := ⟨rfl, fun _ => ⟨_, _, rfl, fun j z hj => by
  have hk := Blk.new W 3 cs
  rw [Nat.zero_add]
  refine hk.cell j ?_
  rw [← Array.getElem?_toList, h, List.getElem?_map, hj]
  rfl⟩⟩
theorem of_calls (v : Value) (w : World) : Calls Try.prog 33 #[v] w fun e w' => e = .returned v ∧ w = w' := by
  go_enter Try.func33, Try.ntmps33
  go_wp2_with fail
  go_ret
  exact ⟨rfl, rfl⟩
theorem dot_calls (R N : Int) (w : World) : Calls Try.prog 34 #[.int .i64 R, .int .i64 N] w fun e w' => e = .returned (.agg #[.int .i64 R, .int .i64 N]) ∧ Below w.heap.size w w' := by
  have hb := below_new w (.cells #[.int .i64 0, .int .i64 0] 24)
  have hk := Blk.new w 24 #[.int .i64 0, .int .i64 0]
  have HK := hid hk
  have HE := hid (show Blk ((w.alloc (.cells #[.int .i64 0, .int .i64 0] 24)).setRow w.heap.size #[.int .i64 R, .int .i64 N]) w.heap.size 24 #[.int .i64 R, .int .i64 N] ∧ Below w.heap.size w ((w.alloc (.cells #[.int .i64 0, .int .i64 0] 24)).setRow w.heap.size #[.int .i64 R, .int .i64 N]) from
    ⟨hk.setRow _, hb.trans (below_of_grown (grown_setRow _ _ _) (by rw [size_new]; omega) (fun g e => by cases e; exact Nat.le_refl _))⟩)
  clear hb hk
  go_enter Try.func34, Try.ntmps34
  go_wp2_with (refine wpList_store_blk rfl _ _ _ rfl w.heap.size #[.int .i64 R, .int .i64 N] rfl rfl _ _ HK.out (by kernel_rfl) rfl (by rfl) ?_; refine Held.go ?_)
  unfold Held
  go_wp2_with fail
  refine bodyPost_ret (results_cell_row rfl _ _ w.heap.size 24 _ (0, 0) _ rfl HE.out.1 Try.underlying24 rfl (by kernel_rfl)) rfl ?_
  exact ⟨rfl, HE.out.2⟩
set_option maxHeartbeats 2000000 in
theorem sameI_calls (n c n2 c2 : Nat) (A A2 : Option Addr) (zs ys : List Int) (w : World) (ha : NI w A n zs) (hb : NI w A2 n2 ys) (hn : n ≤ 549755813888) (hn2 : n2 ≤ 549755813888) :
    Calls Try.prog 14 #[.slice A n c, .slice A2 n2 c2] w fun e w' => e = .returned (.bool (zs == ys)) ∧ Below w.heap.size w w' := by
  have HA := hid ha; have HB := hid hb
  have hl1 := ha.1; have hl2 := hb.1
  have HL1 := hid hl1; have HL2 := hid hl2
  clear ha hb hl1 hl2
  by_cases hnn : n = n2
  · subst hnn
    go_enter Try.func14, Try.ntmps14
    go_wp2_with fail
    go_loopw [5, 6] (fun s i wr => ∃ (k : Nat) (b : Bool), k ≤ n ∧ i = .int .i64 (k : Int) ∧ s = .bool b ∧ (b = true → Hid (zs.take k = ys.take k)) ∧ (b = false → Hid (zs ≠ ys)) ∧ Hid (Below w.heap.size w wr)) (fun _ i _ => n - (intOf i).toNat)
    case atStart => exact ⟨0, true, Nat.zero_le _, rfl, rfl, fun _ => (rfl : zs.take 0 = ys.take 0), (fun h => by cases h), Below.refl _ _⟩
    case round =>
      obtain ⟨k, b, hk, rfl, rfl, hbt, hbf, HW⟩ := hrel
      cases b with
      | false =>
        have HNE := hbf rfl
        have HK := hid (show (zs == ys) = false from by simpa using HNE.out)
        clear hbt hbf HNE
        go_wp2_with fail
        go_ret
        exact ⟨by rw [HK.out]; rfl, HW.out⟩
      | true =>
        have HEQ := hbt rfl
        clear hbt hbf
        by_cases hlt : k < n
        · obtain ⟨b1, o1, z, rfl, hz, hc1⟩ := (HA.out.keep HW.out).at_ hlt
          obtain ⟨b2, o2, y, rfl, hy, hc2⟩ := (HB.out.keep HW.out).at_ hlt
          have HZ := hid hz; have HY := hid hy
          clear hz hy
          have hs1 := HW.out.size
          go_wp2_with fail
          go_region
          all_goals
            have HW2 := hid HW.out.drew
            go_wp2_with fail
            go_roundw
          case rel =>
            refine ⟨k + 1, z == y, by omega, by go_num, rfl, fun h => ?_, fun h => ?_, HW2⟩
            · have e : z = y := by simpa using h
              show zs.take (k + 1) = ys.take (k + 1)
              rw [List.take_add_one, List.take_add_one, HZ.out, HY.out, HEQ.out, e]
            · have e : z ≠ y := by simpa using h
              show zs ≠ ys
              intro e2
              have h1 := HZ.out
              rw [e2, HY.out] at h1
              exact e (by injection h1 with h1; exact h1.symm)
          case measure => simp [intOf]; omega
        · obtain rfl : k = n := by omega
          have HK := hid (show (zs == ys) = true from by
            have h := HEQ.out
            rw [List.take_of_length_le (by rw [HL1.out]; exact Nat.le_refl _), List.take_of_length_le (by rw [HL2.out]; exact Nat.le_refl _)] at h
            simp [h])
          go_wp2_with fail
          go_ret
          exact ⟨by rw [HK.out]; rfl, HW.out⟩
  · have HK := hid (show (zs == ys) = false from by
      have : zs ≠ ys := fun e => hnn (by rw [← HL1.out, ← HL2.out, e])
      simpa using this)
    have hq : ((n : Int) == (n2 : Int)) = false := by simp; omega
    have hq2 : (n == n2) = false := by simpa using hnn
    go_enter Try.func14, Try.ntmps14
    go_wp2_with fail
    go_loopw [5, 6] (fun s i wr => s = .bool false ∧ i = .int .i64 0 ∧ wr = w) (fun _ _ _ => 0)
    case atStart => exact ⟨rfl, rfl, rfl⟩
    case round =>
      obtain ⟨rfl, rfl, rfl⟩ := hrel
      go_wp2_with fail
      go_ret
      exact ⟨by rw [HK.out]; rfl, Below.refl _ _⟩
set_option maxHeartbeats 1000000 in
theorem copyI_calls (n c : Nat) (A : Option Addr) (zs : List Int) (w : World) (h : NI w A n zs) (hn : n ≤ 1000000) :
    Calls Try.prog 10 #[.slice A n c] w fun e w' => ∃ v, e = .returned v ∧ OwnN w' w.heap.size v n zs ∧ Below w.heap.size w w' := by
  have hb1 := below_new w (.cells #[] 3)
  have HO := hid (OwnN.lit w w.heap.size [] #[] 0 rfl rfl (Nat.le_refl _) (by omega))
  have HI := hid (h.keep hb1)
  have HB1 := hid hb1
  have hs1 := size_new w (.cells #[] 3)
  have HS1 := hid hs1
  clear h hb1 hs1
  go_enter Try.func10, Try.ntmps10
  go_wp2_with (refine wpList_append_ints _ rfl _ _ rfl w.heap.size _ 0 [] rfl HO.out _ n _ zs rfl HI.out (by omega) (by rw [HS1.out]; omega) ?_; intro v' w' ho hg _; refine Held.go ?_)
  have HE := hid (show OwnN w' w.heap.size v' n zs ∧ Below w.heap.size w w' from ⟨by rw [Nat.zero_add, List.nil_append] at ho; exact ho, HB1.out.trans (below_of_grown hg (by rw [HS1.out]; omega) (fun g e => (HO.out.lt g e).1))⟩)
  clear ho hg
  unfold Held
  go_wp2_with fail
  go_ret
  exact ⟨v', rfl, HE.out⟩
set_option maxHeartbeats 1000000 in
theorem overI_calls (base n : Nat) (v : Value) (zs : List Int) (w : World) (h : OwnN w base v n zs) (hn : n ≤ 1000000) :
    Calls Try.prog 18 #[v] w fun e w' => (∃ u, e = .returned u) ∧ w.heap.size ≤ w'.heap.size ∧ (∀ b, b < w.heap.size → v.ownBlock ≠ some b → w'.heap[b]? = w.heap[b]?) ∧ w.grownBy w' v.ownBlock := by
  obtain ⟨A, c, rfl, hc, hni, hab⟩ := h.ni
  have HL := hid h.lt
  have HO := hid h
  clear h hni
  go_enter Try.func18, Try.ntmps18
  go_wp2_with fail
  go_loopw [2] (fun i wr => ∃ k : Nat, k ≤ n ∧ i = .int .i64 (k : Int) ∧ (∃ ys, Hid (OwnN wr base (.slice A n c) n ys)) ∧ Hid (w.grownBy wr (Value.slice A n c).ownBlock)) (fun i _ => n - (intOf i).toNat)
  case atStart => exact ⟨0, Nat.zero_le _, rfl, ⟨_, HO⟩, hid ⟨rfl, rfl, rfl, Nat.le_refl _, fun _ _ _ => rfl⟩⟩
  case round =>
    obtain ⟨k, hk, rfl, ⟨ys, HY⟩, HG⟩ := hrel
    by_cases hlt : k < n
    · have hlt' : (k : Int) < (n : Int) := by omega
      obtain ⟨A2, c2, e, _, hni, _⟩ := HY.out.ni
      cases e
      obtain ⟨b, off, z, rfl, _, hz⟩ := hni.at_ hlt
      obtain ⟨hob, rfl⟩ := hab b off rfl
      have hfz : wr.frozen? ⟨b, k, none⟩ = false := by
        rcases HY.out.2 with ⟨e, _⟩ | ⟨g, cap, cur, e, _, hg, _⟩
        · cases e
        · cases e
          exact Blk.frozen (g := b) (t := 3) (cs := cur) hg k
      rw [Nat.zero_add] at hz
      have HY2 := hid (HY.out.set hlt (-77))
      have hgs := grown_setCell wr b k (.int .i64 (-77))
      have HG2 := hid (show w.grownBy (wr.setCell ⟨b, k, none⟩ (.int .i64 (-77))) (Value.slice (some ⟨b, 0, none⟩) n c).ownBlock from
        ⟨hgs.os.trans HG.out.os, hgs.tape.trans HG.out.tape, hgs.output.trans HG.out.output, Nat.le_trans HG.out.size hgs.size, fun g hg hne => (hgs.block g (Nat.lt_of_lt_of_le hg HG.out.size) hne).trans (HG.out.block g hg hne)⟩)
      clear hgs hni hob HY HG HO
      go_wp2_with fail
      go_roundw
      case rel => exact ⟨k + 1, hlt, by go_num, ⟨_, HY2⟩, HG2⟩
      case measure => simp [intOf]; omega
    · obtain rfl : k = n := by omega
      go_wp2_with fail
      go_end0
      exact ⟨⟨_, rfl⟩, HG.out.size, fun b hb hne => HG.out.block b hb (fun e => hne e.symm), HG.out⟩
end Go.Proofs.Ytfcildpigkobcaa
