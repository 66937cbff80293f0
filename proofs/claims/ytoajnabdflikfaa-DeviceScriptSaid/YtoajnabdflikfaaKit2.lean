/- Contracts: the kit's CopyBytes, LentBytes, Pick, OverBytes. -/
import Derived.Test.YtoajnabdflikfaaProg
import Derived.Test.YtoajnabdflikfaaStr
import Derived.Test.YtoajnabdflikfaaBlk
import Derived.Test.YtoajnabdflikfaaNums
import Derived.Test.YtoajnabdflikfaaKit0
namespace Go.Proofs.Ytoajnabdflikfaa
open Go.RowKit


theorem n_165 (x : UInt8) : bits .xor .u8 (x.toNat : Int) 165 = ((bxor x 165).toNat : Int) := n_bxor x 165
attribute [local go_sem] n_165

theorem overBytes_calls (base n c : Nat) (A : Option Addr) (bs : List UInt8) (w : World) (ho : Own w base 5 (.slice A n c) n bs) (hn : n ≤ 1099511627776) :
    Calls Try.prog 24 #[.slice A n c] w fun e w' => e = .returned (.tuple #[]) ∧ w.grownBy w' (Value.slice A n c).ownBlock := by
  go_enter Try.func24, Try.ntmps24
  go_wp2_with fail
  go_loopw [2] (fun i wr => ∃ (k : Nat) (cs : List UInt8), k ≤ n ∧ i = .int .i64 (k : Int) ∧ Own wr base 5 (.slice A n c) n cs ∧ w.grownBy wr (Value.slice A n c).ownBlock) (fun i _ => n - (intOf i).toNat)
  case atStart => exact ⟨0, bs, by omega, rfl, ho, World.grownBy.refl _ _⟩
  case round =>
    clear ho
    obtain ⟨k, cs, hk, rfl, ho, hg⟩ := hrel
    have HO := hid ho; have HG := hid hg; clear ho hg
    by_cases hlt : k < n
    · obtain ⟨g, cap, hv, _, _⟩ := World.ownsRow.form HO.out (by omega)
      injection hv with h1 h2 h3
      subst h1 h3
      have hl : k < cs.length := by rw [HO.out.len]; exact hlt
      have hc := World.ownsRow.cellAt HO.out k (by omega)
      have hx : (cs.map bv)[k]? = some (.int .u8 ((cs[k].toNat : Nat) : Int)) := by simp [hl, bv]
      rw [hx] at hc; clear hx
      have hf := World.ownsRow.frozenAt HO.out k
      generalize cs[k] = x at hc
      have hst := hid (World.ownsRow.stored HO.out k (bv (bxor x 165)))
      go_wp2_with fail
      go_roundw
      case rel =>
        refine ⟨k + 1, cs.set k (bxor x 165), by omega, by go_num, ?_, HG.out.trans hst.out.2⟩
        have := hst.out.1
        rw [← List.map_set] at this
        exact this
      case measure => simp [intOf]; omega
    · obtain rfl : k = n := by omega
      go_wp2_with fail
      go_end0
      exact ⟨rfl, HG.out⟩

theorem tmod_low (x n : Int) (h : 0 < n) (hx : x.tmod n < 0) : x.tmod n + n = x % n := by
  have h1 := Int.tmod_eq_emod (a := x) (b := n)
  have h2 := Int.emod_nonneg x (show n ≠ 0 by omega)
  have h3 := Int.emod_lt_of_pos x h
  rw [h1] at hx ⊢
  split at hx
  · omega
  · have : (n.natAbs : Int) = n := by omega
    rename_i hh
    rw [if_neg hh, this]; omega
theorem tmod_high (x n : Int) (h : 0 < n) (hx : ¬ x.tmod n < 0) : x.tmod n = x % n := by
  have h1 := Int.tmod_eq_emod (a := x) (b := n)
  have h2 := Int.emod_nonneg x (show n ≠ 0 by omega)
  have h3 := Int.emod_lt_of_pos x h
  rw [h1] at hx ⊢
  split at hx
  · rename_i hh; rw [if_pos hh]; omega
  · rename_i hh
    have : (n.natAbs : Int) = n := by omega
    rw [this] at hx; omega

theorem pick_calls (x n : Int) (w : World) (h3 : 0 < n) (h4 : n ≤ 1099511627776) :
    Calls Try.prog 34 #[.int .i64 x, .int .i64 n] w fun e w' => e = .returned (.int .i64 (x % n)) ∧ w = w' := by
  by_cases hx : x.tmod n < 0
  · go_enter Try.func34, Try.ntmps34
    go_wp2_with fail
    go_ret
    refine ⟨ret_int ?_, rfl⟩
    have h2 := Int.emod_nonneg x (show n ≠ 0 by omega)
    have h5 := Int.emod_lt_of_pos x h3
    rw [tmod_low x n h3 hx]
    exact IntWalk.wrap64_in _ (by omega)
  · go_enter Try.func34, Try.ntmps34
    go_wp2_with fail
    go_ret
    exact ⟨ret_int (tmod_high x n h3 (by omega)), rfl⟩
end Go.Proofs.Ytoajnabdflikfaa
