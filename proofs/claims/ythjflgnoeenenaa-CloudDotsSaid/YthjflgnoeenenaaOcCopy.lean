/- Contracts of the kit of clouds' laws that copy and overwrite: CopyInts, CopyDots, OverInts; Pick. -/
import Derived.Test.YthjflgnoeenenaaOcKit
namespace Go.Proofs.Ythjflgnoeenenaa
open Go Go.RowKit Go.Shelf Cl

theorem OwnN.set {w : World} {base g n c k : Nat} {zs : List Int} (h : OwnN w base (.slice (some ⟨g, 0, none⟩) n c) n zs) (_ : k < n) (z : Int) : OwnN (w.setCell ⟨g, k, none⟩ (.int .i64 z)) base (.slice (some ⟨g, 0, none⟩) n c) n (zs.set k z) := by
  have hl := h.len
  rcases h.2 with ⟨e, _⟩ | ⟨g2, cap, cur, e, hb, hg, hnc, hcm, hcs, ht⟩
  · cases e
  · cases e
    refine ⟨by simp [hl], .inr ⟨g, c, cur.setIfInBounds k (.int .i64 z), rfl, hb, ?_, hnc, hcm, by simpa using hcs, ?_⟩⟩
    · have : Blk w g 3 cur := hg
      exact this.set_ k _
    · rw [Array.toList_setIfInBounds, List.map_set, ← ht, Nat.mul_one, List.take_set]
      rfl
theorem tmod_low (x n : Int) (h : 0 < n) (hx : x.tmod n < 0) : x.tmod n + n = x % n := by
  have h1 := Int.tmod_eq_emod (a := x) (b := n)
  have h2 := Int.emod_nonneg x (show n ≠ 0 by omega)
  have h3 := Int.emod_lt_of_pos x h
  rw [h1] at hx ⊢
  split at hx
  · omega
  · have : (n.natAbs : Int) = n := by omega
    rename_i hh
    rw [if_neg hh, this]; omega
theorem tmod_high (x n : Int) (h : 0 < n) (hx : ¬ x.tmod n < 0) : x.tmod n = x % n := by
  have h1 := Int.tmod_eq_emod (a := x) (b := n)
  have h2 := Int.emod_nonneg x (show n ≠ 0 by omega)
  have h3 := Int.emod_lt_of_pos x h
  rw [h1] at hx ⊢
  split at hx
  · rename_i hh; rw [if_pos hh]; omega
  · rename_i hh
    have : (n.natAbs : Int) = n := by omega
    rw [this] at hx; omega

theorem pick_calls (x n : Int) (w : World) (h3 : 0 < n) (h4 : n ≤ 1099511627776) :
    Calls Try.prog 35 #[.int .i64 x, .int .i64 n] w fun e w' => e = .returned (.int .i64 (x % n)) ∧ w = w' := by
  by_cases hx : x.tmod n < 0
  · go_enter Try.func35, Try.ntmps35
    go_wp2_with fail
    go_ret
    refine ⟨ret_int ?_, rfl⟩
    have h2 := Int.emod_nonneg x (show n ≠ 0 by omega)
    have h5 := Int.emod_lt_of_pos x h3
    rw [tmod_low x n h3 hx]
    exact IntWalk.wrap64_in _ (by omega)
  · go_enter Try.func35, Try.ntmps35
    go_wp2_with fail
    go_ret
    exact ⟨ret_int (tmod_high x n h3 (by omega)), rfl⟩

set_option maxHeartbeats 1000000 in
theorem copyI_calls (n c : Nat) (A : Option Addr) (zs : List Int) (w : World) (h : NI w A n zs) (hn : n ≤ 1000000) :
    Calls Try.prog 10 #[.slice A n c] w fun e w' => ∃ v, e = .returned v ∧ OwnN w' w.heap.size v n zs ∧ Below w.heap.size w w' := by
  have hb1 := below_new w (.cells #[] 3)
  have HO := hid (OwnN.lit w w.heap.size [] #[] 0 rfl rfl (Nat.le_refl _) (by omega))
  have HI := hid (h.keep hb1)
  have HB1 := hid hb1
  have hs1 := size_new w (.cells #[] 3)
  have HS1 := hid hs1
  clear h hb1 hs1
  go_enter Try.func10, Try.ntmps10
  go_wp2_with (refine wpList_append_ints _ rfl _ _ rfl w.heap.size _ 0 [] rfl HO.out _ n _ zs rfl HI.out (by omega) (by rw [HS1.out]; omega) ?_; intro v' w' ho hg _; refine Held.go ?_)
  have HE := hid (show OwnN w' w.heap.size v' n zs ∧ Below w.heap.size w w' from ⟨by rw [Nat.zero_add, List.nil_append] at ho; exact ho, HB1.out.trans (below_of_grown hg (by rw [HS1.out]; omega) (fun g e => (HO.out.lt g e).1))⟩)
  clear ho hg
  unfold Held
  go_wp2_with fail
  go_ret
  exact ⟨v', rfl, HE.out⟩
set_option maxHeartbeats 1000000 in
theorem copyD_calls (n c : Nat) (A : Option Addr) (zs : List Dt) (w : World) (h : ND w A n zs) (hn : n ≤ 1000000) :
    Calls Try.prog 11 #[.slice A n c] w fun e w' => ∃ v, e = .returned v ∧ OwnD w' w.heap.size v n zs ∧ Below w.heap.size w w' := by
  have hb1 := below_new w (.cells #[] 27)
  have HO := hid (OwnD.lit w w.heap.size [] #[] 0 rfl rfl (Nat.le_refl _) (by omega))
  have HI := hid (h.keep hb1)
  have HB1 := hid hb1
  have hs1 := size_new w (.cells #[] 27)
  have HS1 := hid hs1
  clear h hb1 hs1
  go_enter Try.func11, Try.ntmps11
  go_wp2_with (refine wpList_append_dots _ rfl _ _ rfl w.heap.size _ 0 [] rfl HO.out _ n _ zs rfl HI.out (by omega) (by rw [HS1.out]; omega) ?_; intro v' w' ho hg _; refine Held.go ?_)
  have HE := hid (show OwnD w' w.heap.size v' n zs ∧ Below w.heap.size w w' from ⟨by rw [Nat.zero_add, List.nil_append] at ho; exact ho, HB1.out.trans (below_of_grown hg (by rw [HS1.out]; omega) (fun g e => (HO.out.lt g e).1))⟩)
  clear ho hg
  unfold Held
  go_wp2_with fail
  go_ret
  exact ⟨v', rfl, HE.out⟩
set_option maxHeartbeats 1000000 in
theorem overI_calls (base n : Nat) (v : Value) (zs : List Int) (w : World) (h : OwnN w base v n zs) (hn : n ≤ 1000000) :
    Calls Try.prog 53 #[v] w fun e w' => (∃ u, e = .returned u) ∧ w.heap.size ≤ w'.heap.size ∧ (∀ b, b < w.heap.size → v.ownBlock ≠ some b → w'.heap[b]? = w.heap[b]?) ∧ w.grownBy w' v.ownBlock := by
  obtain ⟨A, c, rfl, hc, hni, hab⟩ := h.ni
  have HL := hid h.lt
  have HO := hid h
  clear h hni
  go_enter Try.func53, Try.ntmps53
  go_wp2_with fail
  go_loopw [2] (fun i wr => ∃ k : Nat, k ≤ n ∧ i = .int .i64 (k : Int) ∧ (∃ ys, Hid (OwnN wr base (.slice A n c) n ys)) ∧ Hid (w.grownBy wr (Value.slice A n c).ownBlock)) (fun i _ => n - (intOf i).toNat)
  case atStart => exact ⟨0, Nat.zero_le _, rfl, ⟨_, HO⟩, hid ⟨rfl, rfl, rfl, Nat.le_refl _, fun _ _ _ => rfl⟩⟩
  case round =>
    obtain ⟨k, hk, rfl, ⟨ys, HY⟩, HG⟩ := hrel
    by_cases hlt : k < n
    · have hlt' : (k : Int) < (n : Int) := by omega
      obtain ⟨A2, c2, e, _, hni, _⟩ := HY.out.ni
      cases e
      obtain ⟨b, off, z, rfl, _, hz⟩ := hni.at_ hlt
      obtain ⟨hob, rfl⟩ := hab b off rfl
      have hfz : wr.frozen? ⟨b, k, none⟩ = false := by
        rcases HY.out.2 with ⟨e, _⟩ | ⟨g, cap, cur, e, _, hg, _⟩
        · cases e
        · cases e
          exact Blk.frozen (g := b) (t := 3) (cs := cur) hg k
      rw [Nat.zero_add] at hz
      have HY2 := hid (HY.out.set hlt (-77))
      have hgs := grown_setCell wr b k (.int .i64 (-77))
      have HG2 := hid (show w.grownBy (wr.setCell ⟨b, k, none⟩ (.int .i64 (-77))) (Value.slice (some ⟨b, 0, none⟩) n c).ownBlock from
        ⟨hgs.os.trans HG.out.os, hgs.tape.trans HG.out.tape, hgs.output.trans HG.out.output, Nat.le_trans HG.out.size hgs.size, fun g hg hne => (hgs.block g (Nat.lt_of_lt_of_le hg HG.out.size) hne).trans (HG.out.block g hg hne)⟩)
      clear hgs hni hob HY HG HO
      go_wp2_with fail
      go_roundw
      case rel => exact ⟨k + 1, hlt, by go_num, ⟨_, HY2⟩, HG2⟩
      case measure => simp [intOf]; omega
    · obtain rfl : k = n := by omega
      go_wp2_with fail
      go_end0
      exact ⟨⟨_, rfl⟩, HG.out.size, fun b hb hne => HG.out.block b hb (fun e => hne e.symm), HG.out⟩
end Go.Proofs.Ythjflgnoeenenaa
