/- Contracts: Next of the project and of the reference; earlier. -/
import Derived.Test.YthjflgnoeenenaaVcDot
namespace Go.Proofs.Ythjflgnoeenenaa
open Go Go.RowKit Go.Shelf

def nextV (zs : List Int) (r : Int) : Int × Int := if r < 1 ∨ capN ≤ atV zs r then (0, 0) else (r, atV zs r + 1)
set_option maxHeartbeats 1000000 in
theorem vNext_calls (n c : Nat) (A : Option Addr) (zs : List Int) (r : Int) (w : World) (h : NI w A n zs) (hn : n ≤ 1099511627776) :
    Calls Try.prog 66 #[.slice A n c, .int .i64 r] w fun e w' => e = .returned (.agg #[.int .i64 (nextV zs r).1, .int .i64 (nextV zs r).2]) ∧ Below w.heap.size w w' := by
  have hb1 := below_new w (.cells #[.int .i64 0, .int .i64 0] 27)
  have hk1 := Blk.new w 27 #[.int .i64 0, .int .i64 0]
  have hs1 := size_new w (.cells #[.int .i64 0, .int .i64 0] 27)
  have HAT := hid (vAt_calls n c A zs r _ (h.keep hb1) hn)
  have h0 := atV_nonneg zs r
  have HB := hid hb1; have HK := hid hk1; have HS := hid hs1
  obtain ⟨x, hx⟩ : ∃ x, atV zs r = x := ⟨_, rfl⟩
  have HN := hid (show nextV zs r = if r < 1 ∨ 4611686018427387904 ≤ x then (0, 0) else (r, x + 1) from by unfold nextV capN; rw [hx])
  rw [hx] at HAT h0
  have HEnd := hid (fun (a b : Int) (ha : nextV zs r = (a, b)) (W : World) (hW : W = (w.alloc (.cells #[.int .i64 0, .int .i64 0] 27)).setRow w.heap.size #[.int .i64 a, .int .i64 b]) => show Blk W w.heap.size 27 #[.int .i64 a, .int .i64 b] ∧ Below w.heap.size w W ∧ (nextV zs r).1 = a ∧ (nextV zs r).2 = b from by
    subst hW
    exact ⟨hk1.setRow _, hb1.trans (below_of_grown (grown_setRow _ _ _) (by omega) (fun g e => by cases e; omega)), by rw [ha], by rw [ha]⟩)
  clear h hb1 hk1 hs1 hx
  by_cases h1 : r < 1
  · have hE := HEnd.out 0 0 (by rw [HN.out, if_pos (.inl h1)]) _ rfl
    have HE := hid hE
    clear HEnd hE
    go_enter Try.func66, Try.ntmps66
    go_wp2_with fail
    refine HAT.out.mono ?_
    rintro e W1 ⟨rfl, rfl⟩
    go_wp2_with (refine wpList_store_blk rfl _ _ _ rfl w.heap.size #[.int .i64 0, .int .i64 0] rfl rfl _ _ HK.out (by kernel_rfl) rfl (by rfl) ?_; refine Held.go ?_)
    unfold Held
    go_wp2_with fail
    refine bodyPost_ret (results_cell_row rfl _ _ w.heap.size 27 _ (0, 0) _ rfl HE.out.1 Try.underlying27 rfl (by kernel_rfl)) rfl ?_
    exact ⟨by rw [HE.out.2.2.1, HE.out.2.2.2], HE.out.2.1⟩
  · by_cases h2 : 4611686018427387904 ≤ x
    · have hE := HEnd.out 0 0 (by rw [HN.out, if_pos (.inr h2)]) _ rfl
      have HE := hid hE
      clear HEnd hE
      go_enter Try.func66, Try.ntmps66
      go_wp2_with fail
      refine HAT.out.mono ?_
      rintro e W1 ⟨rfl, rfl⟩
      go_wp2_with (refine wpList_store_blk rfl _ _ _ rfl w.heap.size #[.int .i64 0, .int .i64 0] rfl rfl _ _ HK.out (by kernel_rfl) rfl (by rfl) ?_; refine Held.go ?_)
      unfold Held
      go_wp2_with fail
      refine bodyPost_ret (results_cell_row rfl _ _ w.heap.size 27 _ (0, 0) _ rfl HE.out.1 Try.underlying27 rfl (by kernel_rfl)) rfl ?_
      exact ⟨by rw [HE.out.2.2.1, HE.out.2.2.2], HE.out.2.1⟩
    · have hE := HEnd.out r (x + 1) (by rw [HN.out, if_neg (by omega)]) _ rfl
      have HE := hid hE
      have hwr : IntKind.i64.wrap (x + 1) = x + 1 := IntWalk.i64_in _ (by omega)
      clear HEnd hE
      go_enter Try.func66, Try.ntmps66
      go_wp2_with fail
      refine HAT.out.mono ?_
      rintro e W1 ⟨rfl, rfl⟩
      go_wp2_with (refine wpList_store_blk rfl _ _ _ rfl w.heap.size #[.int .i64 r, .int .i64 (x + 1)] rfl rfl _ _ HK.out (by kernel_rfl) rfl (by rfl) ?_; refine Held.go ?_)
      unfold Held
      go_wp2_with fail
      refine bodyPost_ret (results_cell_row rfl _ _ w.heap.size 27 _ (0, 0) _ rfl HE.out.1 Try.underlying27 rfl (by kernel_rfl)) rfl ?_
      exact ⟨by rw [HE.out.2.2.1, HE.out.2.2.2], HE.out.2.1⟩
/-- is the first of two dots ahead? -/
def dotLt (R N R2 N2 : Int) : Bool := decide (R < R2) || (decide (R = R2) && decide (N < N2))
end Go.Proofs.Ythjflgnoeenenaa
