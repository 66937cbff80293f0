/- Contracts: Next of the project and of the reference; earlier. -/
import Derived.Test.YtfcildpigkobcaaVcDot
namespace Go.Proofs.Ytfcildpigkobcaa
open Go Go.RowKit Go.Shelf

def nextV (zs : List Int) (r : Int) : Int × Int := if r < 1 ∨ capN ≤ atV zs r then (0, 0) else (r, atV zs r + 1)
set_option maxHeartbeats 1000000 in
theorem vNext_calls (n c : Nat) (A : Option Addr) (zs : List Int) (r : Int) (w : World) (h : NI w A n zs) (hn : n ≤ 1099511627776) :
    Calls Try.prog 27 #[.slice A n c, .int .i64 r] w fun e w' => e = .returned (.agg #[.int .i64 (nextV zs r).1, .int .i64 (nextV zs r).2]) ∧ Below w.heap.size w w' := by
  have hb1 := below_new w (.cells #[.int .i64 0, .int .i64 0] 24)
  have hk1 := Blk.new w 24 #[.int .i64 0, .int .i64 0]
  have hs1 := size_new w (.cells #[.int .i64 0, .int .i64 0] 24)
  have HAT := hid (vAt_calls n c A zs r _ (h.keep hb1) hn)
  have h0 := atV_nonneg zs r
  have HB := hid hb1; have HK := hid hk1; have HS := hid hs1
  obtain ⟨x, hx⟩ : ∃ x, atV zs r = x := ⟨_, rfl⟩
  have HN := hid (show nextV zs r = if r < 1 ∨ 4611686018427387904 ≤ x then (0, 0) else (r, x + 1) from by unfold nextV capN; rw [hx])
  rw [hx] at HAT h0
  have HEnd := hid (fun (a b : Int) (ha : nextV zs r = (a, b)) (W : World) (hW : W = (w.alloc (.cells #[.int .i64 0, .int .i64 0] 24)).setRow w.heap.size #[.int .i64 a, .int .i64 b]) => show Blk W w.heap.size 24 #[.int .i64 a, .int .i64 b] ∧ Below w.heap.size w W ∧ (nextV zs r).1 = a ∧ (nextV zs r).2 = b from by
    subst hW
    exact ⟨hk1.setRow _, hb1.trans (below_of_grown (grown_setRow _ _ _) (by omega) (fun g e => by cases e; omega)), by rw [ha], by rw [ha]⟩)
  clear h hb1 hk1 hs1 hx
  by_cases h1 : r < 1
  · have hE := HEnd.out 0 0 (by rw [HN.out, if_pos (.inl h1)]) _ rfl
    have HE := hid hE
    clear HEnd hE
    go_enter Try.func27, Try.ntmps27
    go_wp2_with fail
    refine HAT.out.mono ?_
    rintro e W1 ⟨rfl, rfl⟩
    go_wp2_with (refine wpList_store_blk rfl _ _ _ rfl w.heap.size #[.int .i64 0, .int .i64 0] rfl rfl _ _ HK.out (by kernel_rfl) rfl (by rfl) ?_; refine Held.go ?_)
    unfold Held
    go_wp2_with fail
    refine bodyPost_ret (results_cell_row rfl _ _ w.heap.size 24 _ (0, 0) _ rfl HE.out.1 Try.underlying24 rfl (by kernel_rfl)) rfl ?_
    exact ⟨by rw [HE.out.2.2.1, HE.out.2.2.2], HE.out.2.1⟩
  · by_cases h2 : 4611686018427387904 ≤ x
    · have hE := HEnd.out 0 0 (by rw [HN.out, if_pos (.inr h2)]) _ rfl
      have HE := hid hE
      clear HEnd hE
      go_enter Try.func27, Try.ntmps27
      go_wp2_with fail
      refine HAT.out.mono ?_
      rintro e W1 ⟨rfl, rfl⟩
      go_wp2_with (refine wpList_store_blk rfl _ _ _ rfl w.heap.size #[.int .i64 0, .int .i64 0] rfl rfl _ _ HK.out (by kernel_rfl) rfl (by rfl) ?_; refine Held.go ?_)
      unfold Held
      go_wp2_with fail
      refine bodyPost_ret (results_cell_row rfl _ _ w.heap.size 24 _ (0, 0) _ rfl HE.out.1 Try.underlying24 rfl (by kernel_rfl)) rfl ?_
      exact ⟨by rw [HE.out.2.2.1, HE.out.2.2.2], HE.out.2.1⟩
    · have hE := HEnd.out r (x + 1) (by rw [HN.out, if_neg (by omega)]) _ rfl
      have HE := hid hE
      have hwr : IntKind.i64.wrap (x + 1) = x + 1 := IntWalk.i64_in _ (by omega)
      clear HEnd hE
      go_enter Try.func27, Try.ntmps27
      go_wp2_with fail
      refine HAT.out.mono ?_
      rintro e W1 ⟨rfl, rfl⟩
      go_wp2_with (refine wpList_store_blk rfl _ _ _ rfl w.heap.size #[.int .i64 r, .int .i64 (x + 1)] rfl rfl _ _ HK.out (by kernel_rfl) rfl (by rfl) ?_; refine Held.go ?_)
      unfold Held
      go_wp2_with fail
      refine bodyPost_ret (results_cell_row rfl _ _ w.heap.size 24 _ (0, 0) _ rfl HE.out.1 Try.underlying24 rfl (by kernel_rfl)) rfl ?_
      exact ⟨by rw [HE.out.2.2.1, HE.out.2.2.2], HE.out.2.1⟩
set_option maxHeartbeats 1000000 in
theorem rNext_calls (n c : Nat) (A : Option Addr) (zs : List Int) (r : Int) (w : World) (h : NI w A n zs) (hn : n ≤ 1099511627776) :
    Calls Try.prog 28 #[.slice A n c, .int .i64 r] w fun e w' => e = .returned (.agg #[.int .i64 (nextV zs r).1, .int .i64 (nextV zs r).2]) ∧ Below w.heap.size w w' := by
  have hb1 := below_new w (.cells #[.int .i64 0, .int .i64 0] 24)
  have hk1 := Blk.new w 24 #[.int .i64 0, .int .i64 0]
  have hs1 := size_new w (.cells #[.int .i64 0, .int .i64 0] 24)
  have HAT := hid (rAt_calls n c A zs r _ (h.keep hb1) hn)
  have h0 := atV_nonneg zs r
  have HB := hid hb1; have HK := hid hk1; have HS := hid hs1
  obtain ⟨x, hx⟩ : ∃ x, atV zs r = x := ⟨_, rfl⟩
  have HN := hid (show nextV zs r = if r < 1 ∨ 4611686018427387904 ≤ x then (0, 0) else (r, x + 1) from by unfold nextV capN; rw [hx])
  rw [hx] at HAT h0
  have HEnd := hid (fun (a b : Int) (ha : nextV zs r = (a, b)) (W : World) (hW : W = (w.alloc (.cells #[.int .i64 0, .int .i64 0] 24)).setRow w.heap.size #[.int .i64 a, .int .i64 b]) => show Blk W w.heap.size 24 #[.int .i64 a, .int .i64 b] ∧ Below w.heap.size w W ∧ (nextV zs r).1 = a ∧ (nextV zs r).2 = b from by
    subst hW
    exact ⟨hk1.setRow _, hb1.trans (below_of_grown (grown_setRow _ _ _) (by omega) (fun g e => by cases e; omega)), by rw [ha], by rw [ha]⟩)
  clear h hb1 hk1 hs1 hx
  by_cases h1 : r < 1
  · have hE := HEnd.out 0 0 (by rw [HN.out, if_pos (.inl h1)]) _ rfl
    have HE := hid hE
    clear HEnd hE
    go_enter Try.func28, Try.ntmps28
    go_wp2_with (refine wpList_store_blk rfl _ _ _ rfl w.heap.size #[.int .i64 0, .int .i64 0] rfl rfl _ _ HK.out (by kernel_rfl) rfl (by rfl) ?_; refine Held.go ?_)
    unfold Held
    go_wp2_with fail
    refine bodyPost_ret (results_cell_row rfl _ _ w.heap.size 24 _ (0, 0) _ rfl HE.out.1 Try.underlying24 rfl (by kernel_rfl)) rfl ?_
    exact ⟨by rw [HE.out.2.2.1, HE.out.2.2.2], HE.out.2.1⟩
  · by_cases h2 : 4611686018427387904 ≤ x
    · have hE := HEnd.out 0 0 (by rw [HN.out, if_pos (.inr h2)]) _ rfl
      have HE := hid hE
      clear HEnd hE
      go_enter Try.func28, Try.ntmps28
      go_wp2_with fail
      refine HAT.out.mono ?_
      rintro e W1 ⟨rfl, rfl⟩
      go_wp2_with (refine wpList_store_blk rfl _ _ _ rfl w.heap.size #[.int .i64 0, .int .i64 0] rfl rfl _ _ HK.out (by kernel_rfl) rfl (by rfl) ?_; refine Held.go ?_)
      unfold Held
      go_wp2_with fail
      refine bodyPost_ret (results_cell_row rfl _ _ w.heap.size 24 _ (0, 0) _ rfl HE.out.1 Try.underlying24 rfl (by kernel_rfl)) rfl ?_
      exact ⟨by rw [HE.out.2.2.1, HE.out.2.2.2], HE.out.2.1⟩
    · have hE := HEnd.out r (x + 1) (by rw [HN.out, if_neg (by omega)]) _ rfl
      have HE := hid hE
      have hwr : IntKind.i64.wrap (x + 1) = x + 1 := IntWalk.i64_in _ (by omega)
      clear HEnd hE
      go_enter Try.func28, Try.ntmps28
      go_wp2_with fail
      refine HAT.out.mono ?_
      rintro e W1 ⟨rfl, rfl⟩
      go_wp2_with fail
      refine HAT.out.mono ?_
      rintro e W1 ⟨rfl, rfl⟩
      go_wp2_with (refine wpList_store_blk rfl _ _ _ rfl w.heap.size #[.int .i64 r, .int .i64 (x + 1)] rfl rfl _ _ HK.out (by kernel_rfl) rfl (by rfl) ?_; refine Held.go ?_)
      unfold Held
      go_wp2_with fail
      refine bodyPost_ret (results_cell_row rfl _ _ w.heap.size 24 _ (0, 0) _ rfl HE.out.1 Try.underlying24 rfl (by kernel_rfl)) rfl ?_
      exact ⟨by rw [HE.out.2.2.1, HE.out.2.2.2], HE.out.2.1⟩
/-- is the first of two dots ahead? -/
def dotLt (R N R2 N2 : Int) : Bool := decide (R < R2) || (decide (R = R2) && decide (N < N2))
set_option maxHeartbeats 1000000 in
theorem earlier_calls (R N R2 N2 : Int) (w : World) :
    Calls Try.prog 45 #[.agg #[.int .i64 R, .int .i64 N], .agg #[.int .i64 R2, .int .i64 N2]] w fun e w' => e = .returned (if dotLt R N R2 N2 then .agg #[.int .i64 R, .int .i64 N] else .agg #[.int .i64 R2, .int .i64 N2]) ∧ Below w.heap.size w w' := by
  obtain ⟨w3, hw3, k2, k3, k4, hb3⟩ : ∃ w3, w3 = ((w.alloc (.cells #[.int .i64 R, .int .i64 N] 24)).alloc (.cells #[.int .i64 R2, .int .i64 N2] 24)).alloc (.cells #[.int .i64 0, .int .i64 0] 24) ∧ Blk w3 w.heap.size 24 #[.int .i64 R, .int .i64 N] ∧ Blk w3 (w.heap.size + 1) 24 #[.int .i64 R2, .int .i64 N2] ∧ Blk w3 (w.heap.size + 1 + 1) 24 #[.int .i64 0, .int .i64 0] ∧ Below w.heap.size w w3 := by
    have s1 := size_new w (.cells #[.int .i64 R, .int .i64 N] 24)
    have s2 := size_new (w.alloc (.cells #[.int .i64 R, .int .i64 N] 24)) (.cells #[.int .i64 R2, .int .i64 N2] 24)
    have b1 := below_new w (.cells #[.int .i64 R, .int .i64 N] 24)
    have b2 := below_new (w.alloc (.cells #[.int .i64 R, .int .i64 N] 24)) (.cells #[.int .i64 R2, .int .i64 N2] 24)
    have b3 := below_new ((w.alloc (.cells #[.int .i64 R, .int .i64 N] 24)).alloc (.cells #[.int .i64 R2, .int .i64 N2] 24)) (.cells #[.int .i64 0, .int .i64 0] 24)
    have k1 := Blk.new w 24 #[.int .i64 R, .int .i64 N]
    have k2 := Blk.new (w.alloc (.cells #[.int .i64 R, .int .i64 N] 24)) 24 #[.int .i64 R2, .int .i64 N2]
    have k3 := Blk.new ((w.alloc (.cells #[.int .i64 R, .int .i64 N] 24)).alloc (.cells #[.int .i64 R2, .int .i64 N2] 24)) 24 #[.int .i64 0, .int .i64 0]
    rw [s1] at k2
    rw [s2, s1] at k3
    exact ⟨_, rfl, (k1.keep b2).keep b3, k2.keep b3, k3, b1.trans ((b2.trans (b3.mono b2.size)).mono b1.size)⟩
  have HW3 := hid hw3; have K2 := hid k2; have K3 := hid k3; have K4 := hid k4; have HB3 := hid hb3
  have HEnd := hid (fun (a b : Int) => show Blk (((w.alloc (.cells #[.int .i64 R, .int .i64 N] 24)).alloc (.cells #[.int .i64 R2, .int .i64 N2] 24)).alloc (.cells #[.int .i64 a, .int .i64 b] 24)) (w.heap.size + 1 + 1) 24 #[.int .i64 a, .int .i64 b] ∧ Below w.heap.size w (((w.alloc (.cells #[.int .i64 R, .int .i64 N] 24)).alloc (.cells #[.int .i64 R2, .int .i64 N2] 24)).alloc (.cells #[.int .i64 a, .int .i64 b] 24)) from by
    have s1 := size_new w (.cells #[.int .i64 R, .int .i64 N] 24)
    have s2 := size_new (w.alloc (.cells #[.int .i64 R, .int .i64 N] 24)) (.cells #[.int .i64 R2, .int .i64 N2] 24)
    have b1 := below_new w (.cells #[.int .i64 R, .int .i64 N] 24)
    have b2 := below_new (w.alloc (.cells #[.int .i64 R, .int .i64 N] 24)) (.cells #[.int .i64 R2, .int .i64 N2] 24)
    have b3 := below_new ((w.alloc (.cells #[.int .i64 R, .int .i64 N] 24)).alloc (.cells #[.int .i64 R2, .int .i64 N2] 24)) (.cells #[.int .i64 a, .int .i64 b] 24)
    have k3 := Blk.new ((w.alloc (.cells #[.int .i64 R, .int .i64 N] 24)).alloc (.cells #[.int .i64 R2, .int .i64 N2] 24)) 24 #[.int .i64 a, .int .i64 b]
    rw [s2, s1] at k3
    exact ⟨k3, b1.trans ((b2.trans (b3.mono b2.size)).mono b1.size)⟩)
  have HT := hid (show dotLt R N R2 N2 = true → (if dotLt R N R2 N2 then Value.agg #[.int .i64 R, .int .i64 N] else .agg #[.int .i64 R2, .int .i64 N2]) = .agg #[.int .i64 R, .int .i64 N] from fun h => if_pos h)
  have HF := hid (show dotLt R N R2 N2 = false → (if dotLt R N R2 N2 then Value.agg #[.int .i64 R, .int .i64 N] else .agg #[.int .i64 R2, .int .i64 N2]) = .agg #[.int .i64 R2, .int .i64 N2] from fun h => if_neg (by rw [h]; decide))
  generalize (if dotLt R N R2 N2 then Value.agg #[.int .i64 R, .int .i64 N] else .agg #[.int .i64 R2, .int .i64 N2]) = ans at HT HF ⊢
  clear hw3 k2 k3 k4 hb3
  have d0 : w3.cell? ⟨w.heap.size, 0, none⟩ = some (.int .i64 R) := K2.out.cell 0 rfl
  have d1 : w3.cell? ⟨w.heap.size, 1, none⟩ = some (.int .i64 N) := K2.out.cell 1 rfl
  have d2 : w3.cell? ⟨w.heap.size + 1, 0, none⟩ = some (.int .i64 R2) := K3.out.cell 0 rfl
  have d3 : w3.cell? ⟨w.heap.size + 1, 1, none⟩ = some (.int .i64 N2) := K3.out.cell 1 rfl
  rw [HW3.out] at d0 d1 d2 d3
  by_cases h1 : R < R2
  · have HA := hid (HT.out (by unfold dotLt; simp [h1]))
    have HE := hid (HEnd.out R N)
    clear HT HF HEnd
    go_enter Try.func45, Try.ntmps45
    go_wp2_with fail
    refine bodyPost_ret (results_cell_row rfl _ _ (w.heap.size + 1 + 1) 24 _ (0, 0) _ rfl HE.out.1 Try.underlying24 rfl (by kernel_rfl)) rfl ?_
    exact ⟨by rw [HA.out], HE.out.2⟩
  · by_cases h2 : R = R2
    · subst h2
      by_cases h3 : N < N2
      · have HA := hid (HT.out (by unfold dotLt; simp [h3]))
        have HE := hid (HEnd.out R N)
        clear HT HF HEnd
        go_enter Try.func45, Try.ntmps45
        go_wp2_with fail
        refine bodyPost_ret (results_cell_row rfl _ _ (w.heap.size + 1 + 1) 24 _ (0, 0) _ rfl HE.out.1 Try.underlying24 rfl (by kernel_rfl)) rfl ?_
        exact ⟨by rw [HA.out], HE.out.2⟩
      · have HA := hid (HF.out (by unfold dotLt; simp [h3]))
        have HE := hid (HEnd.out R N2)
        clear HT HF HEnd
        go_enter Try.func45, Try.ntmps45
        go_wp2_with fail
        refine bodyPost_ret (results_cell_row rfl _ _ (w.heap.size + 1 + 1) 24 _ (0, 0) _ rfl HE.out.1 Try.underlying24 rfl (by kernel_rfl)) rfl ?_
        exact ⟨by rw [HA.out], HE.out.2⟩
    · have HA := hid (HF.out (by unfold dotLt; simp [h1, h2]))
      have HE := hid (HEnd.out R2 N2)
      clear HT HF HEnd
      go_enter Try.func45, Try.ntmps45
      go_wp2_with fail
      refine bodyPost_ret (results_cell_row rfl _ _ (w.heap.size + 1 + 1) 24 _ (0, 0) _ rfl HE.out.1 Try.underlying24 rfl (by kernel_rfl)) rfl ?_
      exact ⟨by rw [HA.out], HE.out.2⟩
end Go.Proofs.Ytfcildpigkobcaa
