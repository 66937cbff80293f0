/- The table of 256 numbers, as the two loops fill it: what each place holds after each step. Plain mathematics. -/
import Derived.Test.YtiejndkchcljdaaMath
import Derived.Test.YtiejndkchcljdaaProg
import Derived.Test.YtiejndkchcljdaaShift
import Derived.Test.YtiejndkchcljdaaBlk
namespace Go.Proofs.Ytiejndkchcljdaa.Crc
def num (i : Nat) : R := BitVec.ofNat 32 i
def cut (i : Nat) : R := sh8 (num i)
/-- In the round of s, when the inner loop stands at j, place i holds: -/
def tv (s j i : Nat) : R := if (i < j ∧ i % s = 0) ∨ i % (2 * s) = 0 then cut i else 0#32
def tcells (s j : Nat) : Array Value := ((List.range 256).map fun i => Value.int .u32 ((tv s j i).toNat : Int)).toArray
def halves : List Nat := [128, 64, 32, 16, 8, 4, 2, 1]

theorem num_add : ∀ s ∈ halves, ∀ j, j < 256 → j % (2 * s) = 0 → num (j + s) = xr (num j) (num s) := by
  unfold halves num xr; decide +kernel
theorem cut_add {s j : Nat} (hs : s ∈ halves) (hj : j < 256) (h : j % (2 * s) = 0) : cut (j + s) = xr (cut j) (cut s) := by
  unfold cut; rw [num_add s hs j hj h, sh8_xr]
theorem tcells_size (s j : Nat) : (tcells s j).size = 256 := by simp [tcells]
theorem tcells_at (s j i : Nat) (h : i < 256) : (tcells s j)[i]? = some (.int .u32 ((tv s j i).toNat : Int)) := by
  simp [tcells, h]
theorem tv_at {s j : Nat} (h : j % (2 * s) = 0) : tv s j j = cut j := by unfold tv; rw [if_pos (.inr h)]
theorem tv_next {s j i : Nat} (hs : s ∈ halves) (hj : j < 256) (h : j % (2 * s) = 0) (hi : i < 256) :
    tv s (j + 2 * s) i = if i = j + s then xr (cut j) (cut s) else tv s j i := by
  by_cases e : i = j + s
  · subst e
    rw [if_pos rfl, ← cut_add hs hj h, tv, if_pos]
    simp [halves] at hs
    rcases hs with rfl | rfl | rfl | rfl | rfl | rfl | rfl | rfl <;> omega
  · rw [if_neg e, tv, tv]
    have : ((i < j + 2 * s ∧ i % s = 0) ∨ i % (2 * s) = 0) ↔ ((i < j ∧ i % s = 0) ∨ i % (2 * s) = 0) := by
      simp [halves] at hs
      rcases hs with rfl | rfl | rfl | rfl | rfl | rfl | rfl | rfl <;> omega
    simp only [this]
theorem tcells_next {s j : Nat} (hs : s ∈ halves) (hj : j < 256) (h : j % (2 * s) = 0) :
    (tcells s j).setIfInBounds (j + s) (.int .u32 ((xr (cut j) (cut s)).toNat : Int)) = tcells s (j + 2 * s) := by
  apply Array.ext_getElem?
  intro i
  rw [Array.getElem?_setIfInBounds, tcells_size]
  by_cases hi : i < 256
  · rw [tcells_at _ _ _ hi, tcells_at _ _ _ hi, tv_next hs hj h hi]
    by_cases e : j + s = i
    · rw [if_pos e, if_pos e.symm, if_pos (by omega)]
    · rw [if_neg e, if_neg (fun h => e h.symm)]
  · have n1 : (tcells s j)[i]? = none := Array.getElem?_eq_none (by rw [tcells_size]; omega)
    have n2 : (tcells s (j + 2 * s))[i]? = none := Array.getElem?_eq_none (by rw [tcells_size]; omega)
    rw [n1, n2]
    split
    · rw [if_neg (by omega)]
    · rfl
theorem tcells_end {s : Nat} (hs : s ∈ halves) (h1 : s ≠ 1) : tcells s 256 = tcells (s / 2) 0 := by
  unfold tcells
  congr 1
  apply List.map_congr_left
  intro i hi
  have hi : i < 256 := by simpa using hi
  unfold tv
  have : ((i < 256 ∧ i % s = 0) ∨ i % (2 * s) = 0) ↔ ((i < 0 ∧ i % (s / 2) = 0) ∨ i % (2 * (s / 2)) = 0) := by
    simp [halves] at hs
    rcases hs with rfl | rfl | rfl | rfl | rfl | rfl | rfl | rfl <;> omega
  simp only [this]
theorem tcells_start : tcells 128 0 = Array.replicate 256 (.int .u32 0) := by
  apply Array.ext_getElem?
  intro i
  by_cases hi : i < 256
  · rw [tcells_at _ _ _ hi]
    have : tv 128 0 i = 0#32 := by
      unfold tv
      split
      · have : i = 0 := by omega
        subst this; decide
      · rfl
    simp [this, hi]
  · rw [Array.getElem?_eq_none (by rw [tcells_size]; omega), Array.getElem?_eq_none (by simp; omega)]
theorem tv_full (i : Nat) (hi : i < 256) : tv 1 256 i = cut i := by unfold tv; rw [if_pos (.inl ⟨hi, by omega⟩)]
theorem cut_bx (b : UInt8) : cut b.toNat = sh8 (bx b) := by
  unfold cut num bx
  congr 1
  apply BitVec.eq_of_toNat_eq
  have := b.toNat_lt
  rw [BitVec.toNat_setWidth, BitVec.toNat_ofNat]; rfl
theorem table_at (b : UInt8) : (tcells 1 256)[b.toNat]? = some (.int .u32 ((sh8 (bx b)).toNat : Int)) := by
  have := b.toNat_lt
  rw [tcells_at _ _ _ (by omega), tv_full _ (by omega), cut_bx]
end Go.Proofs.Ytiejndkchcljdaa.Crc
/- Contract: the func literal that makes the table: the array of 256 numbers, in new memory. -/
namespace Go.Proofs.Ytiejndkchcljdaa
open Go.RowKit Crc
attribute [local go_sem] n_xor n_poly n_not n_not' n_bx n_low n_shr1 n_shr8 n_shr16 n_shr24 n_bxor

theorem info48 : (Try.prog.info? 128).map (fun i => (i.zero, i.size)) = some (some (.agg (tcells 128 0)), 256) := by rw [tcells_start]; kernel_rfl
theorem oneCell_t (s j : Nat) : (tcells s j).toList.all (·.oneCell') = true := by
  rw [List.all_eq_true]
  intro x hx
  simp [tcells] at hx
  obtain ⟨i, _, rfl⟩ := hx
  rfl

set_option maxRecDepth 20000 in
theorem table_calls (w : World) :
    Calls Try.prog 96 #[] w fun e w' => e = .returned (.agg (tcells 1 256)) ∧ Below w.heap.size w w' := by
  have hz := (zero_of_info info48).1
  have hB := hid (below_new w (.cells (tcells 128 0) 128))
  have hK := hid (Blk.new w 128 (tcells 128 0))
  go_enter Try.func96, Try.ntmps96
  go_wp2_with fail
  clear hz
  generalize w.alloc (.cells (tcells 128 0) 128) = w1 at hB hK ⊢
  generalize hg : w.heap.size = g at hB hK ⊢
  have Hg := hid hg; clear hg
  go_loopw [1, 2, 3] (fun r b _ wr => ∃ d : Nat, d ≤ 8 ∧ r = .int .u32 ((shs d 1#32).toNat : Int) ∧ b = .int .i64 ((128 / 2 ^ d : Nat) : Int) ∧ Below g w wr ∧ Blk wr g 128 (if d = 8 then tcells 1 256 else tcells (128 / 2 ^ d) 0)) (fun _ b _ _ => (intOf b).toNat)
  case atStart => exact ⟨0, by omega, rfl, rfl, hB.out, hK.out⟩
  case round =>
    clear hB hK
    obtain ⟨d, hd, rfl, rfl, hB, hK⟩ := hrel
    rcases Nat.lt_or_ge d 8 with h8 | h8
    · have hs : 128 / 2 ^ d ∈ halves := by
        have : ∀ d < 8, 128 / 2 ^ d ∈ halves := by unfold halves; decide
        exact this d h8
      have hcut : shs (d + 1) 1#32 = cut (128 / 2 ^ d) := by
        have : ∀ d < 8, shs (d + 1) 1#32 = cut (128 / 2 ^ d) := by unfold cut num; decide +kernel
        exact this d h8
      have hend : tcells (128 / 2 ^ d) 256 = (if d + 1 = 8 then tcells 1 256 else tcells (128 / 2 ^ (d + 1)) 0) := by
        by_cases e : d = 7
        · subst e; rfl
        · rw [if_neg (by omega), tcells_end hs]
          · rw [Nat.pow_succ, ← Nat.div_div_eq_div_mul]
          · have : ∀ d < 7, 128 / 2 ^ d ≠ 1 := by decide
            exact this d (by omega)
      have hhalf : 128 / 2 ^ (d + 1) = 128 / 2 ^ d / 2 := by rw [Nat.pow_succ, ← Nat.div_div_eq_div_mul]
      rw [if_neg (by omega)] at hK
      have Hcut := hid hcut; have Hend := hid hend; have Hhalf := hid hhalf
      clear hcut hend hhalf
      generalize 128 / 2 ^ d = s at *
      have hpos : 0 < s := by simp [halves] at hs; omega
      have hle : s ≤ 128 := by simp [halves] at hs; omega
      have hdvd : 256 % (2 * s) = 0 := by simp [halves] at hs; rcases hs with rfl | rfl | rfl | rfl | rfl | rfl | rfl | rfl <;> rfl
      have Hdvd := hid hdvd; clear hdvd
      have Hs := hid hs; clear hs
      go_wp2_with fail
      refine (shift_calls _ _).mono ?_
      rintro e w' ⟨rfl, rfl⟩
      go_wp2_with fail
      go_loopw [3] (fun i wr => ∃ j : Nat, j ≤ 256 ∧ j % (2 * s) = 0 ∧ i = .int .i64 (j : Int) ∧ Below g w wr ∧ Blk wr g 128 (tcells s j)) (fun i _ => 256 - (intOf i).toNat)
      case atStart => exact ⟨0, by omega, Nat.zero_mod _, rfl, hB, hK⟩
      case round =>
        clear hB hK
        obtain ⟨j, hj, hm, rfl, hB, hK⟩ := hrel
        have Hm := hid hm; clear hm
        rcases Nat.lt_or_ge j 256 with hlt | hge
        · have hlt' : j + s < 256 := by
            have := Hm.out; have := Hdvd.out; have hs := Hs.out
            simp [halves] at hs
            rcases hs with rfl | rfl | rfl | rfl | rfl | rfl | rfl | rfl <;> omega
          have hc1 := hK.cell j (tcells_at s j j hlt)
          have hc2 := hK.cell (j + s) (tcells_at s j (j + s) hlt')
          have hf := hK.frozen (j + s)
          go_wp2_with fail
          have hB' := hid (hB.setCell (p := ⟨g, j + s, none⟩) (Nat.le_refl _) (.int .u32 ((xr (tv s j j) (sh (shs d 1#32))).toNat : Int)))
          have hK' := hid (hK.set_ (j + s) (.int .u32 ((xr (tv s j j) (sh (shs d 1#32))).toNat : Int)))
          go_roundw
          case rel =>
            refine ⟨j + 2 * s, ?_, by rw [Nat.add_mod, Hm.out, Nat.mod_self]; rfl, by go_num, hB'.out, ?_⟩
            · have := Hm.out; have := Hdvd.out; have hs := Hs.out
              simp [halves] at hs
              rcases hs with rfl | rfl | rfl | rfl | rfl | rfl | rfl | rfl <;> omega
            · have e : sh (shs d 1#32) = cut s := Hcut.out
              rw [← tcells_next Hs.out hlt Hm.out, ← e, ← tv_at Hm.out]
              exact hK'.out
          case measure => simp [intOf]; omega
        · obtain rfl : j = 256 := by omega
          go_wp2_with fail
          go_roundw
          case rel => exact ⟨d + 1, by omega, rfl, by rw [Hhalf.out]; go_num, hB, by rw [← Hend.out]; exact hK⟩
          case measure => simp [intOf]; omega
    · obtain rfl : d = 8 := by omega
      rw [if_pos rfl] at hK
      have hi : (Try.prog.info? 128).map (·.size) = some (tcells 1 256).size := by rw [tcells_size]; exact (zero_of_info info48).2
      have Hi := hid hi; clear hi
      go_wp2_with (first
        | (refine wpList_load_blk rfl 128 _ rfl g rfl 128 _ hK _ _ Try.underlying128 Hi.out ?_)
        | (refine wpList_store_blk rfl 128 _ _ rfl g _ rfl rfl 128 _ hK Hi.out rfl (oneCell_t _ _) ?_))
      refine bodyPost_ret (v := .agg (tcells 1 256)) (results_cell_row rfl _ _ g 128 _ (0, 0) _ rfl (hK.setRow _) Try.underlying128 rfl Hi.out) rfl ⟨rfl, ?_⟩
      rw [Hg.out]
      exact hB.trans (below_of_grown (grown_setRow wr g _) (Nat.le_of_lt hK.lt) (fun g' e => by cases e; exact Nat.le_refl _))
end Go.Proofs.Ytiejndkchcljdaa
