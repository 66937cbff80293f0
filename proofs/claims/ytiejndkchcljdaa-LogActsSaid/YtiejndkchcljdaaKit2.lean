/- Contracts: the kit's CopyBytes, LentBytes, Pick, OverBytes. -/
import Derived.Test.YtiejndkchcljdaaProg
import Derived.Test.YtiejndkchcljdaaStr
import Derived.Test.YtiejndkchcljdaaBlk
import Derived.Test.YtiejndkchcljdaaNums
import Derived.Test.YtiejndkchcljdaaKit0
namespace Go.Proofs.Ytiejndkchcljdaa
open Go.RowKit

theorem lentBytes_calls (B n c : Nat) (A : Option Addr) (bs : List UInt8) (w : World) (hs : SB w B A n bs) (hn : n ≤ 549755813888) :
    Calls Try.prog 14 #[.slice A n c] w
      fun e w' => ∃ A' c', e = .returned (.slice A' n c') ∧ n + 4 ≤ c' ∧ SB w' w'.heap.size A' (n + 4) (bs ++ [201, 202, 203, 204]) ∧ Below w.heap.size w w' := by
  go_enter Try.func14, Try.ntmps14
  go_wp2_with (at_builtin; refine Held.go ?_)
  have ho := Own.lit w 5 w.heap.size [] #[] 0 rfl rfl (Nat.le_refl _) (by omega)
  have hb := below_new w (.cells #[] 5)
  generalize w.alloc (.cells #[] 5) = w1 at ho hb ⊢
  refine wpList_append_bytes _ rfl _ _ _ rfl _ Try.underlying34 info5' w.heap.size _ 0 [] rfl ho B A n c bs rfl (hs.keep hb) (by omega) hb.size ?_
  intro v2 w2 h1 h2 h3
  have hb2 := hb.trans (below_of_grown h2 hb.size (fun g e => (ho.block g e).1))
  clear h2 h3 ho hb
  rw [Nat.zero_add, List.nil_append] at h1
  go_wp2_with (at_builtin; refine Held.go ?_)
  have ho3 := Own.lit w2 5 w2.heap.size [201, 202, 203, 204] #[.int .u8 201, .int .u8 202, .int .u8 203, .int .u8 204] 4 rfl rfl (Nat.le_refl _) (by omega)
  have hb3 := below_new w2 (.cells #[.int .u8 201, .int .u8 202, .int .u8 203, .int .u8 204] 5)
  generalize w2.alloc (.cells #[.int .u8 201, .int .u8 202, .int .u8 203, .int .u8 204] 5) = w3 at ho3 hb3 ⊢
  obtain ⟨A3, c3, e3, _, hs3, _⟩ := ho3.sb
  rw [e3]
  have h1' := h1.keep hb3
  refine wpList_append_bytes _ rfl _ _ _ rfl _ Try.underlying34 info5' w.heap.size _ n bs rfl h1' _ A3 4 c3 [201, 202, 203, 204] rfl hs3 (by omega) (Nat.le_trans hb2.size hb3.size) ?_
  intro v4 w4 h4 g4 t4
  have hb4 := (hb2.trans (hb3.mono hb2.size)).trans (below_of_grown g4 (Nat.le_trans hb2.size hb3.size) (fun g e => (h1'.block g e).1))
  obtain ⟨A4, c4, rfl, hc4, hs4, _⟩ := h4.sb
  clear h1 h1' ho3 hb3 e3 hs3 g4 t4 h4 hb2
  go_wp2_with fail
  go_ret
  exact ⟨A4, c4, rfl, hc4, hs4, hb4⟩

theorem n_165 (x : UInt8) : bits .xor .u8 (x.toNat : Int) 165 = ((bxor x 165).toNat : Int) := n_bxor x 165
attribute [local go_sem] n_165

theorem overBytes_calls (base n c : Nat) (A : Option Addr) (bs : List UInt8) (w : World) (ho : Own w base 5 (.slice A n c) n bs) (hn : n ≤ 1099511627776) :
    Calls Try.prog 29 #[.slice A n c] w fun e w' => e = .returned (.tuple #[]) ∧ w.grownBy w' (Value.slice A n c).ownBlock := by
  go_enter Try.func29, Try.ntmps29
  go_wp2_with fail
  go_loopw [2] (fun i wr => ∃ (k : Nat) (cs : List UInt8), k ≤ n ∧ i = .int .i64 (k : Int) ∧ Own wr base 5 (.slice A n c) n cs ∧ w.grownBy wr (Value.slice A n c).ownBlock) (fun i _ => n - (intOf i).toNat)
  case atStart => exact ⟨0, bs, by omega, rfl, ho, World.grownBy.refl _ _⟩
  case round =>
    clear ho
    obtain ⟨k, cs, hk, rfl, ho, hg⟩ := hrel
    have HO := hid ho; have HG := hid hg; clear ho hg
    by_cases hlt : k < n
    · obtain ⟨g, cap, hv, _, _⟩ := World.ownsRow.form HO.out (by omega)
      injection hv with h1 h2 h3
      subst h1 h3
      have hl : k < cs.length := by rw [HO.out.len]; exact hlt
      have hc := World.ownsRow.cellAt HO.out k (by omega)
      have hx : (cs.map bv)[k]? = some (.int .u8 ((cs[k].toNat : Nat) : Int)) := by simp [hl, bv]
      rw [hx] at hc; clear hx
      have hf := World.ownsRow.frozenAt HO.out k
      generalize cs[k] = x at hc
      have hst := hid (World.ownsRow.stored HO.out k (bv (bxor x 165)))
      go_wp2_with fail
      go_roundw
      case rel =>
        refine ⟨k + 1, cs.set k (bxor x 165), by omega, by go_num, ?_, HG.out.trans hst.out.2⟩
        have := hst.out.1
        rw [← List.map_set] at this
        exact this
      case measure => simp [intOf]; omega
    · obtain rfl : k = n := by omega
      go_wp2_with fail
      go_end0
      exact ⟨rfl, HG.out⟩

theorem tmod_low (x n : Int) (h : 0 < n) (hx : x.tmod n < 0) : x.tmod n + n = x % n := by
  have h1 := Int.tmod_eq_emod (a := x) (b := n)
  have h2 := Int.emod_nonneg x (show n ≠ 0 by omega)
  have h3 := Int.emod_lt_of_pos x h
  rw [h1] at hx ⊢
  split at hx
  · omega
  · have : (n.natAbs : Int) = n := by omega
    rename_i hh
    rw [if_neg hh, this]; omega
theorem tmod_high (x n : Int) (h : 0 < n) (hx : ¬ x.tmod n < 0) : x.tmod n = x % n := by
  have h1 := Int.tmod_eq_emod (a := x) (b := n)
  have h2 := Int.emod_nonneg x (show n ≠ 0 by omega)
  have h3 := Int.emod_lt_of_pos x h
  rw [h1] at hx ⊢
  split at hx
  · rename_i hh; rw [if_pos hh]; omega
  · rename_i hh
    have : (n.natAbs : Int) = n := by omega
    rw [this] at hx; omega

theorem pick_calls (x n : Int) (w : World) (h3 : 0 < n) (h4 : n ≤ 1099511627776) :
    Calls Try.prog 45 #[.int .i64 x, .int .i64 n] w fun e w' => e = .returned (.int .i64 (x % n)) ∧ w = w' := by
  by_cases hx : x.tmod n < 0
  · go_enter Try.func45, Try.ntmps45
    go_wp2_with fail
    go_ret
    refine ⟨ret_int ?_, rfl⟩
    have h2 := Int.emod_nonneg x (show n ≠ 0 by omega)
    have h5 := Int.emod_lt_of_pos x h3
    rw [tmod_low x n h3 hx]
    exact IntWalk.wrap64_in _ (by omega)
  · go_enter Try.func45, Try.ntmps45
    go_wp2_with fail
    go_ret
    exact ⟨ret_int (tmod_high x n h3 (by omega)), rfl⟩
end Go.Proofs.Ytiejndkchcljdaa
