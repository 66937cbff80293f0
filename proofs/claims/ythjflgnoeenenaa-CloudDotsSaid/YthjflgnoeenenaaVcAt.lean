/- The mathematics of vectors; contracts: At, of the project and of the reference. -/
import Derived.Test.YthjflgnoeenenaaVcMem
namespace Go.Proofs.Ythjflgnoeenenaa
open Go Go.RowKit

/-- the number at index i of a vector -/
def nth (zs : List Int) (i : Nat) : Int := max (zs.getD i 0) 0
/-- the number of region r -/
def atV (zs : List Int) (r : Int) : Int := if r < 1 then 0 else nth zs (r - 1).toNat
theorem nth_far {zs : List Int} {i : Nat} (h : zs.length ≤ i) : nth zs i = 0 := by unfold nth; rw [List.getD_eq_getElem?_getD, List.getElem?_eq_none h]; rfl
theorem nth_get {zs : List Int} {i : Nat} {z : Int} (h : zs[i]? = some z) : nth zs i = max z 0 := by unfold nth; rw [List.getD_eq_getElem?_getD, h]; rfl
theorem nth_nonneg (zs : List Int) (i : Nat) : 0 ≤ nth zs i := by unfold nth; omega
theorem atV_low {zs : List Int} {r : Int} (h : r < 1) : atV zs r = 0 := if_pos h
theorem atV_at {zs : List Int} {r : Int} (h : ¬ r < 1) : atV zs r = nth zs (r - 1).toNat := if_neg h
theorem atV_nat (zs : List Int) (k : Nat) : atV zs ((k : Int) + 1) = nth zs k := by rw [atV_at (by omega)]; congr 1; omega
theorem atV_nonneg (zs : List Int) (r : Int) : 0 ≤ atV zs r := by
  unfold atV
  split
  · exact Int.le_refl _
  · exact nth_nonneg _ _
theorem atV_far {zs : List Int} {r : Int} (h : (zs.length : Int) < r) : atV zs r = 0 := by
  rw [atV_at (by omega)]
  exact nth_far (by omega)

set_option maxHeartbeats 1000000 in
theorem vAt_calls (n c : Nat) (A : Option Addr) (zs : List Int) (r : Int) (w : World) (h : NI w A n zs) (hn : n ≤ 1099511627776) :
    Calls Try.prog 72 #[.slice A n c, .int .i64 r] w fun e w' => e = .returned (.int .i64 (atV zs r)) ∧ w = w' := by
  have hl := h.1
  by_cases h1 : r < 1
  · go_enter Try.func72, Try.ntmps72
    go_wp2_with fail
    go_ret
    exact ⟨ret_int (atV_low h1).symm, rfl⟩
  · by_cases h2 : (n : Int) < r
    · go_enter Try.func72, Try.ntmps72
      go_wp2_with fail
      go_ret
      exact ⟨ret_int (atV_far (by rw [hl]; exact h2)).symm, rfl⟩
    · obtain ⟨k, rfl⟩ : ∃ k : Nat, r = (k : Int) + 1 := ⟨(r - 1).toNat, by omega⟩
      have hk : k < n := by omega
      obtain ⟨b, off, z, rfl, hz, hc⟩ := h.at_ hk
      have hs : IntKind.i64.wrap ((k : Int) + 1 - 1) = (k : Int) := by rw [IntWalk.i64_in _ (by omega)]; omega
      have HE := hid (show max z 0 = atV zs ((k : Int) + 1) from by rw [atV_nat, nth_get hz])
      have hk' : (k : Int) < (n : Int) := by omega
      clear hz h hl
      by_cases hz0 : 0 ≤ z
      · rw [show max z 0 = z by omega] at HE
        go_enter Try.func72, Try.ntmps72
        go_wp2_with fail
        go_ret
        exact ⟨ret_int HE.out, rfl⟩
      · rw [show max z 0 = 0 by omega] at HE
        go_enter Try.func72, Try.ntmps72
        go_wp2_with fail
        go_ret
        exact ⟨ret_int HE.out, rfl⟩
end Go.Proofs.Ythjflgnoeenenaa
