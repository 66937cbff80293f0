/- Mathematics of cuts: what is cut twice. -/
import Derived.Test.YtajojeajibonpaaDoorOwnHas
namespace Go.Proofs.YtajojeajibonpaaDoor
open Go.RowKit Crc

theorem out_at (l : List UInt8) (n i : Nat) (hl : l.length = 32) (hn : n ≤ 32) : (outOf l n)[i]? = if i < n then l[i]? else if i < 32 then some 0 else none := by
  have ht : (l.take n).length = n := by rw [List.length_take]; omega
  rw [outOf, zeroB]
  by_cases h : i < n
  · rw [if_pos h, List.getElem?_append_left (by omega), List.getElem?_take, if_pos h]
  · rw [if_neg h, List.getElem?_append_right (by omega), ht, List.getElem?_replicate]
    by_cases h2 : i < 32
    · rw [if_pos h2, if_pos (by omega)]
    · rw [if_neg h2, if_neg (by omega)]
theorem out_out (l : List UInt8) (p q : Nat) (hl : l.length = 32) (hp : p ≤ 32) (hq : q ≤ 32) : outOf (outOf l p) q = outOf l (min p q) := by
  apply List.ext_getElem?
  intro i
  rw [out_at _ q i (outOf_length l p hl hp) hq, out_at l p i hl hp, out_at l _ i hl (by omega)]
  by_cases h1 : i < q
  · by_cases h2 : i < p
    · rw [if_pos h1, if_pos h2, if_pos (by omega)]
    · rw [if_pos h1, if_neg h2, if_neg (show ¬ i < min p q by omega)]
  · rw [if_neg h1, if_neg (show ¬ i < min p q by omega)]
theorem cutE_in {v : Int} (h1 : 1 ≤ v) (h2 : v ≤ 32) : cutE v = 0 := by rw [cutE, if_neg (by omega)]
theorem cutB_in {l : List UInt8} {v : Int} (h1 : 1 ≤ v) (h2 : v ≤ 32) : cutB l v = outOf l v.toNat := by rw [cutB, if_neg (by omega)]
theorem cut_cut (l : List UInt8) (p q r : Int) (hl : l.length = 32) (h1 : 1 ≤ p) (h2 : p ≤ 32) (h3 : 1 ≤ q) (h4 : q ≤ 32) (hr : r = min p q) : cutB (cutB l p) q = cutB l r := by
  subst hr
  rw [cutB_in h1 h2, cutB_in h3 h4, cutB_in (by omega) (by omega), out_out l _ _ hl (by omega) (by omega)]
  congr 1; omega
theorem cut_whole (l : List UInt8) (hl : l.length = 32) : cutB l 32 = l := by
  rw [cutB_in (by omega) (by omega), outOf]
  rw [show (32 : Int).toNat = 32 from rfl, List.take_of_length_le (by omega)]
  simp [zeroB]
theorem has_in {l : List UInt8} {v : Int} (h1 : 1 ≤ v) (h2 : v ≤ 32) : hasB l v = (cutB l v == l) := hasB_yes (cutE_in h1 h2)
theorem has_true (l : List UInt8) (v : Int) (w : World) (hl : l.length = 32) (h1 : 1 ≤ v) (h2 : v ≤ 32) (h : cutB l v = l) :
    Calls Tryd.prog 21 #[.agg (bcells l), .int .i64 v] w fun e w' => e = .returned (.bool true) ∧ Below w.heap.size w w' := by
  have := own_has_calls l v w hl
  rwa [has_in h1 h2, h, beq_self_eq_true] at this
theorem cut_in_calls (l o : List UInt8) (v : Int) (w : World) (hl : l.length = 32) (h1 : 1 ≤ v) (h2 : v ≤ 32) (h : cutB l v = o) :
    Calls Tryd.prog 17 #[.agg (bcells l), .int .i64 v] w fun e w' => e = .returned (.tuple #[.agg (bcells o), .int .i64 0]) ∧ Below w.heap.size w w' := by
  have := own_cut_calls l v w hl
  rwa [cutE_in h1 h2, h] at this
theorem of_in_calls (B n c : Nat) (A : Option Addr) (bs o : List UInt8) (v : Int) (w : World) (hs : SB w B A n bs) (hc : n ≤ c) (hG : Glob w) (hn : n ≤ 1099511627776) (h1 : 1 ≤ v) (h2 : v ≤ 32) (h : cutB (sha bs) v = o) :
    Calls Tryd.prog 13 #[.slice A n c, .int .i64 v] w fun e w' => e = .returned (.tuple #[.agg (bcells o), .int .i64 0]) ∧ Below w.heap.size w w' := by
  have := own_of_calls B n c A bs v w hs hc hG hn
  rwa [cutE_in h1 h2, h] at this
end Go.Proofs.YtajojeajibonpaaDoor
