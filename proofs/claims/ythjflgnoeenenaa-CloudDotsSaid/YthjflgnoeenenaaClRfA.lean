/- Contracts of the reference of clouds: dotted, less, ranged. -/
import Derived.Test.YthjflgnoeenenaaClMem
import Derived.Test.YthjflgnoeenenaaClRef
namespace Go.Proofs.Ythjflgnoeenenaa
open Go Go.RowKit Cl

def dvv (d : Dt) : Value := .agg #[.int .i64 d.1, .int .i64 d.2]
theorem two_dots (w : World) (d e : Dt) : ∃ w2, w2 = (w.alloc (.cells #[.int .i64 d.1, .int .i64 d.2] 27)).alloc (.cells #[.int .i64 e.1, .int .i64 e.2] 27) ∧ Blk w2 w.heap.size 27 #[.int .i64 d.1, .int .i64 d.2] ∧ Blk w2 (w.heap.size + 1) 27 #[.int .i64 e.1, .int .i64 e.2] ∧ Below w.heap.size w w2 := by
  have s1 := size_new w (.cells #[.int .i64 d.1, .int .i64 d.2] 27)
  have b1 := below_new w (.cells #[.int .i64 d.1, .int .i64 d.2] 27)
  have b2 := below_new (w.alloc (.cells #[.int .i64 d.1, .int .i64 d.2] 27)) (.cells #[.int .i64 e.1, .int .i64 e.2] 27)
  have k1 := Blk.new w 27 #[.int .i64 d.1, .int .i64 d.2]
  have k2 := Blk.new (w.alloc (.cells #[.int .i64 d.1, .int .i64 d.2] 27)) 27 #[.int .i64 e.1, .int .i64 e.2]
  rw [s1] at k2
  exact ⟨_, rfl, k1.keep b2, k2, b1.trans (b2.mono b1.size)⟩
set_option maxRecDepth 20000 in
set_option maxHeartbeats 1000000 in
theorem rDotted_calls (d : Dt) (w : World) : Calls Try.prog 70 #[dvv d] w fun e w' => e = .returned (.bool (decide (dotted d))) ∧ Below w.heap.size w w' := by
  obtain ⟨R, N⟩ := d
  unfold dvv
  have HB := hid (below_new w (.cells #[.int .i64 R, .int .i64 N] 27))
  have hk := Blk.new w 27 #[.int .i64 R, .int .i64 N]
  have d0 := hk.cell 0 rfl
  have d1 := hk.cell 1 rfl
  obtain ⟨q, hq⟩ : ∃ q, decide (dotted (R, N)) = q := ⟨_, rfl⟩
  rw [hq]
  have HQ := hid (show q = (decide (1 ≤ R) && decide (R ≤ 16) && decide (1 ≤ N) && decide (N ≤ 1048576)) from by rw [← hq, Bool.eq_iff_iff, decide_eq_true_iff]; simp [dotted, and_assoc])
  clear hk hq
  by_cases h1 : 1 ≤ R
  · by_cases h2 : R ≤ 16
    · by_cases h3 : 1 ≤ N
      · have HE := hid (show q = decide (N ≤ 1048576) from by rw [HQ.out]; simp [h1, h2, h3])
        clear HQ
        go_enter Try.func70, Try.ntmps70
        go_wp2_with fail
        go_ret
        exact ⟨ret_bool HE.out.symm, HB.out⟩
      · have HE := hid (show q = false from by rw [HQ.out]; simp [h3])
        clear HQ
        go_enter Try.func70, Try.ntmps70
        go_wp2_with fail
        go_ret
        exact ⟨ret_bool HE.out.symm, HB.out⟩
    · have HE := hid (show q = false from by rw [HQ.out]; simp [h2])
      clear HQ
      go_enter Try.func70, Try.ntmps70
      go_wp2_with fail
      go_ret
      exact ⟨ret_bool HE.out.symm, HB.out⟩
  · have HE := hid (show q = false from by rw [HQ.out]; simp [h1])
    clear HQ
    go_enter Try.func70, Try.ntmps70
    go_wp2_with fail
    go_ret
    exact ⟨ret_bool HE.out.symm, HB.out⟩
set_option maxRecDepth 20000 in
set_option maxHeartbeats 1000000 in
theorem rLess_calls (d e : Dt) (w : World) : Calls Try.prog 90 #[dvv d, dvv e] w fun x w' => x = .returned (.bool (decide (dLt d e))) ∧ Below w.heap.size w w' := by
  obtain ⟨w2, hw2, hk1, hk2, hb2⟩ := two_dots w d e
  obtain ⟨R, N⟩ := d
  obtain ⟨R2, N2⟩ := e
  unfold dvv
  have HW2 := hid hw2; have HB2 := hid hb2
  obtain ⟨p, hp⟩ : ∃ p, w.heap.size = p := ⟨_, rfl⟩
  obtain ⟨p2, hp2⟩ : ∃ p2, w.heap.size + 1 = p2 := ⟨_, rfl⟩
  rw [hp] at hk1
  rw [hp2] at hk2
  have d0 := hk1.cell 0 rfl
  have d1 := hk1.cell 1 rfl
  have d2 := hk2.cell 0 rfl
  have d3 := hk2.cell 1 rfl
  subst hw2 hp hp2
  obtain ⟨q, hq⟩ : ∃ q, decide (dLt (R, N) (R2, N2)) = q := ⟨_, rfl⟩
  rw [hq]
  have HQ := hid (show q = (decide (R < R2) || (decide (R = R2) && decide (N < N2))) from by rw [← hq, Bool.eq_iff_iff, decide_eq_true_iff]; simp [dLt])
  clear hk1 hk2 hb2 hq
  by_cases h1 : R < R2
  · have HE := hid (show q = true from by rw [HQ.out]; simp [h1])
    clear HQ
    go_enter Try.func90, Try.ntmps90
    go_wp2_with fail
    go_ret
    exact ⟨ret_bool HE.out.symm, HB2.out⟩
  · by_cases h2 : R = R2
    · have HE := hid (show q = decide (N < N2) from by rw [HQ.out]; simp [h2])
      have hRb : (R == R2) = true := by simpa using h2
      clear HQ h2
      go_enter Try.func90, Try.ntmps90
      go_wp2_with fail
      go_ret
      exact ⟨ret_bool HE.out.symm, HB2.out⟩
    · have HE := hid (show q = false from by rw [HQ.out]; simp [h1, h2])
      have hRb : (R == R2) = false := by simpa using h2
      clear HQ
      go_enter Try.func90, Try.ntmps90
      go_wp2_with fail
      go_ret
      exact ⟨ret_bool HE.out.symm, HB2.out⟩
theorem rangedB_take (v : List Int) (k : Nat) : ((v.take (k + 1)).all fun x => decide (0 ≤ x) && decide (x ≤ 1048576)) = ((v.take k).all (fun x => decide (0 ≤ x) && decide (x ≤ 1048576)) && (v[k]?.toList.all fun x => decide (0 ≤ x) && decide (x ≤ 1048576))) := by rw [List.take_add_one, List.all_append]
/-- are numbers and dots as they may be, as the loops find it out -/
def rgA (v : List Int) (k : Nat) : Bool := decide (v.length ≤ 16) && (v.take k).all fun x => decide (0 ≤ x) && decide (x ≤ 1048576)
def rgB (v : List Int) (ds : List Dt) (k : Nat) : Bool := rgA v v.length && (ds.take k).all fun d => decide (dotted d)
theorem rgA_step {v : List Int} {k : Nat} {x : Int} (h : v[k]? = some x) (hb : rgA v k = true) : rgA v (k + 1) = (decide (0 ≤ x) && decide (x ≤ 1048576)) := by
  unfold rgA at hb ⊢
  rw [Bool.and_eq_true] at hb
  rw [List.take_add_one, List.all_append, hb.1, hb.2, h]
  simp
theorem rgA_false {v : List Int} {k : Nat} (hb : rgA v k = false) : rgA v v.length = false := by
  unfold rgA at hb ⊢
  rw [List.take_length]
  cases h : decide (v.length ≤ 16)
  · rfl
  · rw [h] at hb
    rw [Bool.true_and] at hb ⊢
    rw [List.all_eq_false] at hb ⊢
    obtain ⟨x, hx, hq⟩ := hb
    exact ⟨x, List.mem_of_mem_take hx, hq⟩
theorem rgB_zero (v : List Int) (ds : List Dt) : rgB v ds 0 = rgA v v.length := by unfold rgB; simp
theorem rgB_step {v : List Int} {ds : List Dt} {k : Nat} {d : Dt} (h : ds[k]? = some d) (hb : rgB v ds k = true) : rgB v ds (k + 1) = decide (dotted d) := by
  unfold rgB at hb ⊢
  rw [Bool.and_eq_true] at hb
  rw [List.take_add_one, List.all_append, hb.1, hb.2, h]
  simp
theorem rgB_false {v : List Int} {ds : List Dt} {k : Nat} (hb : rgB v ds k = false) : rgB v ds ds.length = false := by
  unfold rgB at hb ⊢
  rw [List.take_length]
  cases h : rgA v v.length
  · rfl
  · rw [h] at hb
    rw [Bool.true_and] at hb ⊢
    rw [List.all_eq_false] at hb ⊢
    obtain ⟨x, hx, hq⟩ := hb
    exact ⟨x, List.mem_of_mem_take hx, hq⟩
theorem rgB_all (v : List Int) (ds : List Dt) : rgB v ds ds.length = decide (ranged v ds) := by
  rw [Bool.eq_iff_iff, decide_eq_true_iff]
  unfold rgB rgA ranged
  simp [and_assoc]
set_option maxRecDepth 20000 in
set_option maxHeartbeats 1000000 in
theorem rRanged_calls (n c m c2 : Nat) (A B : Option Addr) (v : List Int) (ds : List Dt) (w : World) (h : NI w A n v) (k : ND w B m ds) (hn : n ≤ 1000000) (hm : m ≤ 1000000) :
    Calls Try.prog 42 #[.slice A n c, .slice B m c2] w fun e w' => e = .returned (.bool (decide (ranged v ds))) ∧ Below w.heap.size w w' := by
  have HI := hid h; have HD := hid k
  have hl1 := h.1; have hl2 := k.1
  have HL1 := hid hl1; have HL2 := hid hl2
  have HZ0 := hid (show rgA v 0 = decide ((n : Int) ≤ 16) from by unfold rgA; rw [hl1]; simp; omega)
  clear h k hl1 hl2
  obtain ⟨Z, hZ⟩ : ∃ Z, decide (ranged v ds) = Z := ⟨_, rfl⟩
  have HZ := hid hZ
  rw [hZ]
  clear hZ
  go_enter Try.func42, Try.ntmps42
  go_wp2_with fail
  go_loop [5, 6] (fun f i => ∃ (k : Nat) (b : Bool), k ≤ n ∧ i = .int .i64 (k : Int) ∧ f = .bool b ∧ Hid (rgA v k = b)) (fun _ i => n - (intOf i).toNat)
  case atStart => exact ⟨0, _, Nat.zero_le _, rfl, rfl, hid HZ0.out⟩
  case round =>
    obtain ⟨k, b, hk, rfl, rfl, HQ⟩ := hrel
    by_cases hlt : k < n ∧ b = true
    · obtain ⟨hlt, rfl⟩ := hlt
      have hlt' : (k : Int) < (n : Int) := by omega
      obtain ⟨b1, o1, x, rfl, hx, hc⟩ := HI.out.at_ hlt
      have HS := hid (rgA_step hx HQ.out)
      clear hx
      by_cases hx0 : 0 ≤ x
      · have HS2 := hid (show rgA v (k + 1) = decide (x ≤ 1048576) from by rw [HS.out]; simp [hx0])
        clear HS
        go_wp2_with fail
        go_round
        case rel => exact ⟨k + 1, _, hlt, by go_num, rfl, HS2⟩
        case measure => simp [intOf]; omega
      · have HS2 := hid (show rgA v (k + 1) = false from by rw [HS.out]; simp [hx0])
        clear HS
        go_wp2_with fail
        go_round
        case rel => exact ⟨k + 1, _, hlt, by go_num, rfl, HS2⟩
        case measure => simp [intOf]; omega
    · have HE := hid (show rgB v ds 0 = b from by
        rw [rgB_zero]
        cases b with
        | false => exact rgA_false HQ.out
        | true =>
          have : k = v.length := by have := HL1.out; simp at hlt; omega
          rw [← this]; exact HQ.out)
      have hcase : (¬ (k : Int) < (n : Int)) ∨ ((k : Int) < (n : Int) ∧ b = false) := by
        by_cases h : k < n
        · exact .inr ⟨by omega, by cases b with | false => rfl | true => exact absurd ⟨h, rfl⟩ hlt⟩
        · exact .inl (by omega)
      clear hlt HQ
      rcases hcase with hcase | ⟨hcase, rfl⟩
      all_goals
        go_wp2_with fail
        go_loopw [5, 7] (fun f i wr => ∃ (k : Nat) (b : Bool), k ≤ m ∧ i = .int .i64 (k : Int) ∧ f = .bool b ∧ Hid (rgB v ds k = b) ∧ Hid (Below w.heap.size w wr)) (fun _ i _ => m - (intOf i).toNat)
        case atStart => exact ⟨0, _, Nat.zero_le _, rfl, rfl, HE, hid (Below.refl _ _)⟩
        case round =>
          clear HE
          obtain ⟨k2, b2, hk2, rfl, rfl, HQ, HW⟩ := hrel
          by_cases hlt : k2 < m ∧ b2 = true
          · obtain ⟨hlt, rfl⟩ := hlt
            have hlt' : (k2 : Int) < (m : Int) := by omega
            obtain ⟨g, off, d, rfl, hd, hc1, hc2⟩ := (HD.out.keep HW.out).at_ hlt
            have HS := hid (rgB_step hd HQ.out)
            have HC := hid (rDotted_calls d wr)
            obtain ⟨q, hq⟩ : ∃ q, decide (dotted d) = q := ⟨_, rfl⟩
            rw [hq] at HS HC
            obtain ⟨R, N⟩ := d
            unfold dvv at HC
            clear hd hq
            go_wp2_with fail
            refine HC.out.mono ?_
            rintro e W1 ⟨rfl, hb1⟩
            have HW2 := hid (HW.out.trans (hb1.mono HW.out.size))
            clear hb1 HC HW
            go_wp2_with fail
            go_roundw
            case rel => exact ⟨k2 + 1, _, hlt, by go_num, rfl, HS, HW2⟩
            case measure => simp [intOf]; omega
          · have HE := hid (show b2 = Z from by
              rw [← HZ.out, ← rgB_all]
              symm
              cases b2 with
              | false => exact rgB_false HQ.out
              | true =>
                have : k2 = ds.length := by have := HL2.out; simp at hlt; omega
                rw [← this]; exact HQ.out)
            have hcase : (¬ (k2 : Int) < (m : Int)) ∨ ((k2 : Int) < (m : Int) ∧ b2 = false) := by
              by_cases h : k2 < m
              · exact .inr ⟨by omega, by cases b2 with | false => rfl | true => exact absurd ⟨h, rfl⟩ hlt⟩
              · exact .inl (by omega)
            clear hlt HQ
            rcases hcase with hcase | ⟨hcase, rfl⟩
            all_goals
              go_wp2_with fail
              go_ret
              exact ⟨ret_bool HE.out, HW.out⟩
end Go.Proofs.Ythjflgnoeenenaa
