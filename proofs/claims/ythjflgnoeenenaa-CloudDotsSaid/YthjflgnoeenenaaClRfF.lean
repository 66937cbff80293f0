/- Contracts of the reference of clouds: Has, both, Count. -/
import Derived.Test.YthjflgnoeenenaaClRfE
namespace Go.Proofs.Ythjflgnoeenenaa
open Go Go.RowKit Cl

theorem has_no {c : Cd} {d : Dt} (h : checkC c ≠ 0) : hasB c d = false := by unfold hasB; simp [h]
set_option maxRecDepth 20000 in
set_option maxHeartbeats 1000000 in
theorem rHasB_calls (n c m e : Nat) (A B : Option Addr) (v : List Int) (ds : List Dt) (d : Dt) (w : World) (h1 : NI w A n v) (h2 : ND w B m ds) (hn : n ≤ 1000000) (hm : m ≤ 900000) :
    Calls Try.prog 21 #[cdv A n c B m e, dvv d] w fun x w' => x = .returned (.bool (hasB (v, ds) d)) ∧ Below w.heap.size w w' := by
  obtain ⟨R, N⟩ := d
  obtain ⟨w1, hw1, k1, k2, hb⟩ := two_mixed w #[.slice A n c, .slice B m e] #[.int .i64 R, .int .i64 N]
  obtain ⟨p, hp⟩ : ∃ p, w.heap.size = p := ⟨_, rfl⟩
  obtain ⟨p2, hp2⟩ : ∃ p2, w.heap.size + 1 = p2 := ⟨_, rfl⟩
  rw [hp] at k1
  rw [hp2] at k2
  have HW1 := hid hw1; have HB := hid hb; have HPP := hid hp; have HPP2 := hid hp2
  have HC := hid (rCheck_calls n c m e A B v ds w1 (h1.keep hb) (h2.keep hb) hn hm)
  have HH := hid (fun W (hb2 : Below w1.heap.size w1 W) => rHas_calls n c m e A B v ds (R, N) W ((h1.keep hb).keep hb2) ((h2.keep hb).keep hb2) hn (by omega))
  have K1 := hid k1; have K2 := hid k2
  obtain ⟨Z, hZ⟩ : ∃ Z, hasB (v, ds) (R, N) = Z := ⟨_, rfl⟩
  rw [hZ]
  obtain ⟨ck, hck⟩ : ∃ ck, checkC (v, ds) = ck := ⟨_, rfl⟩
  obtain ⟨q, hq⟩ : ∃ q, hasR (v, ds) (R, N) = q := ⟨_, rfl⟩
  have HY := hid (show ck = 0 → q = Z from fun h => by
    rw [← hZ, ← hq]
    have h0 : checkC (v, ds) = 0 := hck.trans h
    rw [has_ok h0, hasR_is (check_ok h0)])
  have HN := hid (show ¬ ck = 0 → false = Z from fun h => by
    rw [← hZ]
    exact (has_no (by rw [hck]; exact h)).symm)
  rw [hck] at HC
  rw [hq] at HH
  have c0 := k1.cell 0 rfl; have c1 := k1.cell 1 rfl; have c3 := k2.cell 0 rfl; have c4 := k2.cell 1 rfl
  clear h1 h2 hw1 hb hp hp2 k1 k2 hZ hck hq
  unfold cdv at HC HH
  unfold dvv at HH
  show Calls Try.prog 21 #[.agg #[.slice A n c, .slice B m e], .agg #[.int .i64 R, .int .i64 N]] w _
  go_enter Try.func21, Try.ntmps21
  go_wp2_with fail
  rw [← HW1.out, HPP2.out, HPP.out]
  go_wp2_with fail
  refine HC.out.mono ?_
  rintro x W2 ⟨rfl, hb2⟩
  have HB2 := hid hb2
  have HH2 := hid (HH.out W2 hb2)
  have K3 := hid (K1.out.keep hb2); have K4 := hid (K2.out.keep hb2)
  clear hb2 c0 c1 c3 c4 HC HH
  have c0 := K3.out.cell 0 rfl; have c1 := K3.out.cell 1 rfl; have c3 := K4.out.cell 0 rfl; have c4 := K4.out.cell 1 rfl
  by_cases h0 : ck = 0
  · have HE := hid (HY.out h0)
    subst h0
    go_wp2_with fail
    refine HH2.out.mono ?_
    rintro x W3 ⟨rfl, hb3⟩
    have HF := hid (HB.out.trans ((HB2.out.trans (hb3.mono HB2.out.size)).mono HB.out.size))
    clear hb3
    go_wp2_with fail
    go_ret
    exact ⟨ret_bool HE.out, HF.out⟩
  · have HE := hid (HN.out h0)
    have HF := hid (HB.out.trans (HB2.out.mono HB.out.size))
    have hcb : (ck == 0) = false := by simpa using h0
    go_wp2_with fail
    go_ret
    exact ⟨ret_bool HE.out, HF.out⟩
set_option maxRecDepth 20000 in
set_option maxHeartbeats 1000000 in
theorem rBoth_calls (n c m e n2 c2 m2 e2 : Nat) (A B A2 B2 : Option Addr) (v v2 : List Int) (ds ds2 : List Dt) (w : World) (h1 : NI w A n v) (h2 : ND w B m ds) (h3 : NI w A2 n2 v2) (h4 : ND w B2 m2 ds2) (hn : n ≤ 1000000) (hm : m ≤ 900000) (hn2 : n2 ≤ 1000000) (hm2 : m2 ≤ 900000) :
    Calls Try.prog 57 #[cdv A n c B m e, cdv A2 n2 c2 B2 m2 e2] w fun x w' => x = .returned (.int .i64 (bothC (v, ds) (v2, ds2))) ∧ Below w.heap.size w w' := by
  obtain ⟨w1, hw1, k1, k2, hb⟩ := two_clouds w #[.slice A n c, .slice B m e] #[.slice A2 n2 c2, .slice B2 m2 e2]
  obtain ⟨p, hp⟩ : ∃ p, w.heap.size = p := ⟨_, rfl⟩
  obtain ⟨p2, hp2⟩ : ∃ p2, w.heap.size + 1 = p2 := ⟨_, rfl⟩
  rw [hp] at k1
  rw [hp2] at k2
  have HW1 := hid hw1; have HB := hid hb; have HPP := hid hp; have HPP2 := hid hp2
  have HC := hid (rCheck_calls n c m e A B v ds w1 (h1.keep hb) (h2.keep hb) hn hm)
  have HH := hid (fun W (hb2 : Below w1.heap.size w1 W) => rCheck_calls n2 c2 m2 e2 A2 B2 v2 ds2 W ((h3.keep hb).keep hb2) ((h4.keep hb).keep hb2) hn2 hm2)
  have K1 := hid k1; have K2 := hid k2
  obtain ⟨Z, hZ⟩ : ∃ Z, bothC (v, ds) (v2, ds2) = Z := ⟨_, rfl⟩
  rw [hZ]
  obtain ⟨ck, hck⟩ : ∃ ck, checkC (v, ds) = ck := ⟨_, rfl⟩
  obtain ⟨q, hq⟩ : ∃ q, checkC (v2, ds2) = q := ⟨_, rfl⟩
  have HY := hid (show ck = 0 → q = Z from fun h => by rw [← hZ, ← hq]; unfold bothC; rw [if_pos (hck.trans h)])
  have HN := hid (show ¬ ck = 0 → ck = Z from fun h => by rw [← hZ]; unfold bothC; rw [if_neg (by rw [hck]; exact h)]; exact hck.symm)
  rw [hck] at HC
  rw [hq] at HH
  have c0 := k1.cell 0 rfl; have c1 := k1.cell 1 rfl; have c3 := k2.cell 0 rfl; have c4 := k2.cell 1 rfl
  clear h1 h2 h3 h4 hw1 hb hp hp2 k1 k2 hZ hck hq
  unfold cdv at HC HH
  show Calls Try.prog 57 #[.agg #[.slice A n c, .slice B m e], .agg #[.slice A2 n2 c2, .slice B2 m2 e2]] w _
  go_enter Try.func57, Try.ntmps57
  go_wp2_with fail
  rw [← HW1.out, HPP2.out, HPP.out]
  go_wp2_with fail
  refine HC.out.mono ?_
  rintro x W2 ⟨rfl, hb2⟩
  have HB2 := hid hb2
  have HH2 := hid (HH.out W2 hb2)
  have K4 := hid (K2.out.keep hb2)
  clear hb2 c0 c1 c3 c4 HC HH
  have c3 := K4.out.cell 0 rfl; have c4 := K4.out.cell 1 rfl
  by_cases h0 : ck = 0
  · have HE := hid (HY.out h0)
    subst h0
    go_wp2_with fail
    refine HH2.out.mono ?_
    rintro x W3 ⟨rfl, hb3⟩
    have HF := hid (HB.out.trans ((HB2.out.trans (hb3.mono HB2.out.size)).mono HB.out.size))
    clear hb3
    go_wp2_with fail
    go_ret
    exact ⟨ret_int HE.out, HF.out⟩
  · have HE := hid (HN.out h0)
    have HF := hid (HB.out.trans (HB2.out.mono HB.out.size))
    have hcb : (ck == 0) = false := by simpa using h0
    go_wp2_with fail
    go_ret
    exact ⟨ret_int HE.out, HF.out⟩
theorem sum_take {v : List Int} {k : Nat} {x : Int} (h : v[k]? = some x) : (v.take (k + 1)).sum = (v.take k).sum + x := by rw [List.take_add_one, h, List.sum_append]; simp
theorem sum_le {v : List Int} (h : ∀ x ∈ v, 0 ≤ x ∧ x ≤ 1048576) (k : Nat) : 0 ≤ (v.take k).sum ∧ (v.take k).sum ≤ k * 1048576 := by
  induction k with
  | zero => simp
  | succ k ih =>
    cases hx : v[k]? with
    | none => 
      rw [List.take_add_one, hx]
      simp only [Option.toList_none, List.append_nil]
      omega
    | some x =>
      rw [sum_take hx]
      have := h x (List.mem_of_getElem? hx)
      omega
set_option maxRecDepth 20000 in
set_option maxHeartbeats 1000000 in
theorem rCount_calls (n c m e : Nat) (A B : Option Addr) (v : List Int) (ds : List Dt) (w : World) (h1 : NI w A n v) (h2 : ND w B m ds) (hn : n ≤ 1000000) (hm : m ≤ 900000) :
    Calls Try.prog 23 #[cdv A n c B m e] w fun x w' => x = .returned (.int .i64 (countB (v, ds))) ∧ Below w.heap.size w w' := by
  have hb := below_new w (.cells #[.slice A n c, .slice B m e] 25)
  have hk := Blk.new w 25 #[.slice A n c, .slice B m e]
  obtain ⟨w1, hw1⟩ : ∃ w1, w.alloc (.cells #[.slice A n c, .slice B m e] 25) = w1 := ⟨_, rfl⟩
  obtain ⟨p, hp⟩ : ∃ p, w.heap.size = p := ⟨_, rfl⟩
  have HW1 := hid hw1; have HPP := hid hp
  rw [hw1] at hb hk
  have HB := hid hb
  rw [hp] at hk
  have HC := hid (rCheck_calls n c m e A B v ds w1 (h1.keep hb) (h2.keep hb) hn hm)
  have H1 := hid (h1.keep hb)
  have L1 := hid h1.1; have L2 := hid h2.1
  have K1 := hid hk
  obtain ⟨Z, hZ⟩ : ∃ Z, countB (v, ds) = Z := ⟨_, rfl⟩
  rw [hZ]
  obtain ⟨ck, hck⟩ : ∃ ck, checkC (v, ds) = ck := ⟨_, rfl⟩
  have HY := hid (show ck = 0 → (m : Int) + v.sum = Z from fun h => by rw [← hZ]; unfold countB countC; rw [if_pos (hck.trans h)]; show _ = (ds.length : Int) + v.sum; rw [L2.out])
  have HO := hid (show ck = 0 → (∀ x ∈ v, 0 ≤ x ∧ x ≤ 1048576) ∧ n ≤ 16 from fun h => ⟨(check_ok (hck.trans h)).rg.2.1, by rw [← L1.out]; exact (check_ok (hck.trans h)).rg.1⟩)
  have HN := hid (show ¬ ck = 0 → 0 = Z from fun h => by rw [← hZ]; unfold countB; rw [if_neg (by rw [hck]; exact h)])
  rw [hck] at HC
  have c0 := hk.cell 0 rfl; have c1 := hk.cell 1 rfl
  clear h1 h2 hw1 hb hp hk hZ hck
  unfold cdv at HC
  show Calls Try.prog 23 #[.agg #[.slice A n c, .slice B m e]] w _
  go_enter Try.func23, Try.ntmps23
  go_wp2_with fail
  rw [HW1.out, HPP.out]
  go_wp2_with fail
  refine HC.out.mono ?_
  rintro x W2 ⟨rfl, hb2⟩
  have HB2 := hid hb2
  have K2 := hid (K1.out.keep hb2)
  have H2 := hid (H1.out.keep hb2)
  have HF := hid (HB.out.trans (hb2.mono HB.out.size))
  clear hb2 c0 c1 HC
  have c0 := K2.out.cell 0 rfl; have c1 := K2.out.cell 1 rfl
  by_cases h0 : ck = 0
  · have HE := hid (HY.out h0)
    obtain ⟨hvb, hn16⟩ := HO.out h0
    have HVB := hid hvb
    subst h0
    clear hvb HO HN HY
    go_wp2_with fail
    go_loop [3, 4] (fun s i => ∃ k : Nat, k ≤ n ∧ i = .int .i64 (k : Int) ∧ s = .int .i64 ((m : Int) + (v.take k).sum)) (fun _ i => n - (intOf i).toNat)
    case atStart => exact ⟨0, Nat.zero_le _, rfl, by simp⟩
    case round =>
      obtain ⟨k, hk, rfl, rfl⟩ := hrel
      by_cases hlt : k < n
      · have hlt' : (k : Int) < (n : Int) := by omega
        obtain ⟨b, off, y, rfl, hy, hc⟩ := H2.out.at_ hlt
        have HST := hid (sum_take hy)
        obtain ⟨s0, s1⟩ := sum_le HVB.out k
        have hyb := HVB.out y (List.mem_of_getElem? hy)
        obtain ⟨s, hs⟩ : ∃ s, (v.take k).sum = s := ⟨_, rfl⟩
        rw [hs] at HST s0 s1 ⊢
        have hw2 : IntKind.i64.wrap ((m : Int) + s + y) = (m : Int) + s + y := IntWalk.i64_in _ (by omega)
        clear hs hy hyb s0 s1
        go_wp2_with fail
        go_round
        case rel => exact ⟨k + 1, hlt, by go_num, by rw [HST.out]; exact congrArg (Value.int .i64) (by omega)⟩
        case measure => simp [intOf]; omega
      · obtain rfl : k = n := by omega
        have HE2 := hid (show (m : Int) + (v.take k).sum = Z from by rw [List.take_of_length_le (by rw [L1.out]; exact Nat.le_refl _)]; exact HE.out)
        obtain ⟨s, hs⟩ : ∃ s, (m : Int) + (v.take k).sum = s := ⟨_, rfl⟩
        rw [hs] at HE2 ⊢
        clear hs HE
        go_wp2_with fail
        go_ret
        exact ⟨ret_int HE2.out, HF.out⟩
  · have HE := hid (HN.out h0)
    have hcb : (ck == 0) = false := by simpa using h0
    go_wp2_with fail
    go_ret
    exact ⟨ret_int HE.out, HF.out⟩
end Go.Proofs.Ythjflgnoeenenaa
