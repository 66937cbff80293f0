/- Contract: the reference's Compare. -/
import Derived.Test.YtajojeajibonpaaDoorShaSum
namespace Go.Proofs.YtajojeajibonpaaDoor
open Go.RowKit Crc
def cmpL : List UInt8 → List UInt8 → Int
  | a :: l, b :: m => if a.toNat < b.toNat then -1 else if b.toNat < a.toNat then 1 else cmpL l m
  | _, _ => 0
theorem cmpL_cons (a b : UInt8) (l m : List UInt8) : cmpL (a :: l) (b :: m) = if a.toNat < b.toNat then -1 else if b.toNat < a.toNat then 1 else cmpL l m := rfl
theorem cmpL_nil (m : List UInt8) : cmpL [] m = 0 := by cases m <;> rfl
theorem bcells_at {l : List UInt8} {i : Nat} {x : UInt8} (h : l[i]? = some x) : (bcells l)[i]? = some (.int .u8 (x.toNat : Int)) := by simp [bcells, h, bv]

set_option maxRecDepth 20000 in
theorem refCompare_calls (l m : List UInt8) (w : World) (hl : l.length = 32) (hm : m.length = 32) :
    Calls Tryd.prog 26 #[.agg (bcells l), .agg (bcells m)] w fun e w' => e = .returned (.int .i64 (cmpL l m)) ∧ Below w.heap.size w w' := by
  have k0 := ((Blk.new w 26 (bcells l)).alloc (.cells (bcells m) 26))
  have k1 := (Blk.new (w.alloc (.cells (bcells l) 26)) 26 (bcells m))
  have b1 := (((Below.refl w.heap.size w).alloc (Nat.le_refl _) (.cells (bcells l) 26)).alloc (by rw [size_new]; omega) (.cells (bcells m) 26))
  rw [size_new] at k1
  have K0 := hid k0; have K1 := hid k1; have B1 := hid b1; clear k0 k1 b1
  go_enter Tryd.func26, Tryd.ntmps26
  go_wp2_with fail
  generalize (w.alloc (.cells (bcells l) 26)).alloc (.cells (bcells m) 26) = wA at K0 K1 B1 ⊢
  generalize hg : w.heap.size = g at K0 K1 B1 ⊢
  have HG := hid hg; clear hg
  have C0 : Hid (cmpL (l.drop 0) (m.drop 0) = cmpL l m) := hid rfl
  go_loopw [5] (fun i wr => ∃ j : Nat, j ≤ 32 ∧ i = .int .i64 (j : Int) ∧ Hid (cmpL (l.drop j) (m.drop j) = cmpL l m) ∧ Hid (Blk wr g 26 (bcells l)) ∧ Hid (Blk wr (g + 1) 26 (bcells m)) ∧ Hid (Below g w wr)) (fun i _ => 32 - (intOf i).toNat)
  case atStart => exact ⟨0, by omega, rfl, C0, K0, K1, B1⟩
  case round =>
    clear K0 K1 B1 C0
    obtain ⟨j, hj, rfl, HC, K0, K1, HB⟩ := hrel
    by_cases hlt : j < 32
    · have hx : l[j]? = some l[j] := List.getElem?_eq_getElem (by omega)
      have hy : m[j]? = some m[j] := List.getElem?_eq_getElem (by omega)
      have hc := HC.out
      rw [List.drop_eq_getElem_cons (l := l) (i := j) (by omega), List.drop_eq_getElem_cons (l := m) (i := j) (by omega), cmpL_cons] at hc
      generalize l[j] = x at hx hc
      generalize m[j] = y at hy hc
      have c0 := K0.out.cell j (bcells_at hx)
      have c1 := K1.out.cell j (bcells_at hy)
      have hlt' : (j : Int) < 32 := by omega
      clear hx hy
      by_cases h1 : x.toNat < y.toNat
      · rw [if_pos h1] at hc
        have h1' : (x.toNat : Int) < (y.toNat : Int) := by omega
        have HC2 := hid hc; clear hc h1
        go_wp2_with fail
        go_region
        go_wp2_with fail
        go_ret
        exact ⟨by rw [← HC2.out]; rfl, by rw [HG.out]; exact HB.out.drew⟩
      · rw [if_neg h1] at hc
        have h1' : ¬ (x.toNat : Int) < (y.toNat : Int) := by omega
        by_cases h2 : y.toNat < x.toNat
        · rw [if_pos h2] at hc
          have h2' : (y.toNat : Int) < (x.toNat : Int) := by omega
          have HC2 := hid hc; clear hc h1 h2
          go_wp2_with fail
          go_region
          go_wp2_with fail
          go_region
          go_wp2_with fail
          go_ret
          exact ⟨by rw [← HC2.out]; rfl, by rw [HG.out]; exact HB.out.drew.drew⟩
        · rw [if_neg h2] at hc
          have h2' : ¬ (y.toNat : Int) < (x.toNat : Int) := by omega
          have HC2 := hid hc; clear hc h1 h2
          go_wp2_with fail
          go_region
          go_wp2_with fail
          go_region
          go_wp2_with fail
          go_roundw
          case rel => exact ⟨j + 1, by omega, by go_num, HC2, K0, K1, hid HB.out.drew.drew⟩
          case measure => simp [intOf]; omega
    · obtain rfl : j = 32 := by omega
      have hc := HC.out
      rw [List.drop_of_length_le (l := l) (by omega), cmpL_nil] at hc
      have HC2 := hid hc; clear hc
      go_wp2_with fail
      go_ret
      exact ⟨by rw [← HC2.out]; rfl, by rw [HG.out]; exact HB.out⟩
end Go.Proofs.YtajojeajibonpaaDoor
