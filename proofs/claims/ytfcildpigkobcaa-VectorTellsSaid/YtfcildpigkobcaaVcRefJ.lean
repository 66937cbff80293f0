/- Contracts of the reference: Join and Meet. -/
import Derived.Test.YtfcildpigkobcaaVcRef
namespace Go.Proofs.Ytfcildpigkobcaa
open Go Go.RowKit Go.Shelf

theorem lit1_own {W : World} {base k : Nat} {v : Value} {zs : List Int} (h : OwnN W base v k zs) (z : Int) : OwnN (W.alloc (.cells #[.int .i64 z] 3)) base v k zs := h.keep (below_new W _)
theorem lit1_ni (W : World) (z : Int) : NI (W.alloc (.cells #[.int .i64 z] 3)) (some ⟨W.heap.size, 0, none⟩) 1 [z] := ⟨rfl, fun _ => ⟨_, _, rfl, fun j y hj => by
  have hk := Blk.new W 3 #[.int .i64 z]
  match j, hj with
  | 0, hj => cases hj; exact hk.cell 0 rfl
  | j + 1, hj => simp at hj⟩⟩
theorem lit1_below {W W' : World} {base k : Nat} {v : Value} {zs : List Int} (h : OwnN W base v k zs) (hb : base ≤ W.heap.size) (z : Int) (hg : (W.alloc (.cells #[.int .i64 z] 3)).grownBy W' v.ownBlock) : Below base W W' :=
  ((below_new W _).mono hb).trans (below_of_grown hg (by rw [size_new]; omega) (fun g e => (h.lt g e).1))
set_option maxHeartbeats 4000000 in
theorem rJoin_calls (n1 c1 n2 c2 : Nat) (A1 A2 : Option Addr) (v1 v2 : List Int) (w : World) (h1 : NI w A1 n1 v1) (h2 : NI w A2 n2 v2) (hn1 : n1 ≤ 1000000) (hn2 : n2 ≤ 1000000) :
    Calls Try.prog 15 #[.slice A1 n1 c1, .slice A2 n2 c2] w fun e w' => ∃ v, e = .returned v ∧ OwnN w' w.heap.size v (max n1 n2) (joinV v1 v2) ∧ Below w.heap.size w w' := by
  have hl1 := h1.1; have hl2 := h2.1
  have HV := hid (fun k W (hb : Below w.heap.size w W) => rAt_calls n1 c1 A1 v1 ((k : Nat) + 1 : Int) W (h1.keep hb) (by omega))
  have HU := hid (fun k W (hb : Below w.heap.size w W) => rAt_calls n2 c2 A2 v2 ((k : Nat) + 1 : Int) W (h2.keep hb) (by omega))
  have HE := hid (show joinV v1 v2 = (List.range (max n1 n2)).map (fun i => max (nth v1 i) (nth v2 i)) from by unfold joinV; rw [hl1, hl2])
  obtain ⟨M, hM⟩ : ∃ M, max n1 n2 = M := ⟨_, rfl⟩
  rw [hM] at HE ⊢
  have hmx : (n1 < n2 ∧ n2 = M) ∨ (¬ n1 < n2 ∧ n1 = M) := by omega
  clear h1 h2 hl1 hl2 hM
  go_enter Try.func15, Try.ntmps15
  go_wp2_with fail
  go_loopw [5, 6] (fun o i wr => ∃ k : Nat, k ≤ M ∧ i = .int .i64 ((k : Int) + 1) ∧ Hid (OwnN wr w.heap.size o k ((List.range k).map (fun i => max (nth v1 i) (nth v2 i)))) ∧ Hid (Below w.heap.size w wr)) (fun _ i _ => M + 1 - (intOf i).toNat)
  case atStart => exact ⟨0, Nat.zero_le _, rfl, hid (OwnN.nil _ _), hid (Below.refl _ _)⟩
  case round =>
    rename_i o_ i_
    obtain ⟨k, hk, rfl, HO, HB⟩ := hrel
    by_cases hlt : k < M
    · obtain ⟨A, c, rfl, hc, _, _⟩ := HO.out.ni
      have HC1 := hid (HV.out k wr HB.out); have HC2 := hid (HU.out k wr HB.out)
      rw [atV_nat] at HC1 HC2
      have HSn := hid (range_take (fun i => max (nth v1 i) (nth v2 i)) k)
      obtain ⟨x, hx⟩ : ∃ x, nth v1 k = x := ⟨_, rfl⟩
      obtain ⟨y, hy⟩ : ∃ y, nth v2 k = y := ⟨_, rfl⟩
      rw [hx] at HC1
      rw [hy] at HC2
      rw [hx, hy] at HSn
      obtain ⟨z, hz⟩ : ∃ z, max x y = z := ⟨_, rfl⟩
      rw [hz] at HSn
      have hwr : IntKind.i64.wrap ((k : Int) + 1 + 1) = (k : Int) + 1 + 1 := IntWalk.i64_in _ (by omega)
      have hzc : (x < y ∧ y = z) ∨ (¬ x < y ∧ x = z) := by omega
      clear hx hy hz
      rcases hmx with ⟨hm1, rfl⟩ | ⟨hm1, rfl⟩
      all_goals
        rcases hzc with ⟨hz1, rfl⟩ | ⟨hz1, rfl⟩
      all_goals
        go_wp2_with fail
        refine HC1.out.mono ?_
        rintro e W1 ⟨rfl, rfl⟩
        go_wp2_with fail
        refine HC2.out.mono ?_
        rintro e W1 ⟨rfl, rfl⟩
        go_wp2_with (refine wpList_append_ints _ rfl _ _ rfl w.heap.size _ k _ rfl (lit1_own HO.out _) _ 1 1 [_] rfl (lit1_ni _ _) (by omega) (by rw [size_new]; have := HB.out.size; omega) ?_; intro v3 w3 ho hg _; refine Held.go ?_)
        have hb3 := HB.out.trans (lit1_below HO.out HB.out.size _ hg)
        rw [← HSn.out] at ho
        have HO3 := hid ho; have HB3 := hid hb3
        clear ho hg hb3 HO HB HC1 HC2 HSn
        unfold Held
        go_wp2_with fail
        go_roundw
        case rel => exact ⟨k + 1, by omega, by go_num, HO3, HB3⟩
        case measure => simp [intOf]; omega
    · obtain rfl : k = M := by omega
      have HEnd := hid (show OwnN wr w.heap.size _ k (joinV v1 v2) ∧ Below w.heap.size w wr from ⟨by rw [HE.out]; exact HO.out, HB.out⟩)
      clear HO HB HV HU
      rcases hmx with ⟨hm1, rfl⟩ | ⟨hm1, rfl⟩
      all_goals
        go_wp2_with fail
        go_ret
        exact ⟨_, rfl, HEnd.out⟩
set_option maxHeartbeats 4000000 in
theorem rMeet_calls (n1 c1 n2 c2 : Nat) (A1 A2 : Option Addr) (v1 v2 : List Int) (w : World) (h1 : NI w A1 n1 v1) (h2 : NI w A2 n2 v2) (hn1 : n1 ≤ 1000000) (hn2 : n2 ≤ 1000000) :
    Calls Try.prog 16 #[.slice A1 n1 c1, .slice A2 n2 c2] w fun e w' => ∃ v, e = .returned v ∧ OwnN w' w.heap.size v (max n1 n2) (meetV v1 v2) ∧ Below w.heap.size w w' := by
  have hl1 := h1.1; have hl2 := h2.1
  have HV := hid (fun k W (hb : Below w.heap.size w W) => rAt_calls n1 c1 A1 v1 ((k : Nat) + 1 : Int) W (h1.keep hb) (by omega))
  have HU := hid (fun k W (hb : Below w.heap.size w W) => rAt_calls n2 c2 A2 v2 ((k : Nat) + 1 : Int) W (h2.keep hb) (by omega))
  have HE := hid (show meetV v1 v2 = (List.range (max n1 n2)).map (fun i => min (nth v1 i) (nth v2 i)) from by unfold meetV; rw [hl1, hl2])
  obtain ⟨M, hM⟩ : ∃ M, max n1 n2 = M := ⟨_, rfl⟩
  rw [hM] at HE ⊢
  have hmx : (n1 < n2 ∧ n2 = M) ∨ (¬ n1 < n2 ∧ n1 = M) := by omega
  clear h1 h2 hl1 hl2 hM
  go_enter Try.func16, Try.ntmps16
  go_wp2_with fail
  go_loopw [5, 6] (fun o i wr => ∃ k : Nat, k ≤ M ∧ i = .int .i64 ((k : Int) + 1) ∧ Hid (OwnN wr w.heap.size o k ((List.range k).map (fun i => min (nth v1 i) (nth v2 i)))) ∧ Hid (Below w.heap.size w wr)) (fun _ i _ => M + 1 - (intOf i).toNat)
  case atStart => exact ⟨0, Nat.zero_le _, rfl, hid (OwnN.nil _ _), hid (Below.refl _ _)⟩
  case round =>
    rename_i o_ i_
    obtain ⟨k, hk, rfl, HO, HB⟩ := hrel
    by_cases hlt : k < M
    · obtain ⟨A, c, rfl, hc, _, _⟩ := HO.out.ni
      have HC1 := hid (HV.out k wr HB.out); have HC2 := hid (HU.out k wr HB.out)
      rw [atV_nat] at HC1 HC2
      have HSn := hid (range_take (fun i => min (nth v1 i) (nth v2 i)) k)
      obtain ⟨x, hx⟩ : ∃ x, nth v1 k = x := ⟨_, rfl⟩
      obtain ⟨y, hy⟩ : ∃ y, nth v2 k = y := ⟨_, rfl⟩
      rw [hx] at HC1
      rw [hy] at HC2
      rw [hx, hy] at HSn
      obtain ⟨z, hz⟩ : ∃ z, min x y = z := ⟨_, rfl⟩
      rw [hz] at HSn
      have hwr : IntKind.i64.wrap ((k : Int) + 1 + 1) = (k : Int) + 1 + 1 := IntWalk.i64_in _ (by omega)
      have hzc : (y < x ∧ y = z) ∨ (¬ y < x ∧ x = z) := by omega
      clear hx hy hz
      rcases hmx with ⟨hm1, rfl⟩ | ⟨hm1, rfl⟩
      all_goals
        rcases hzc with ⟨hz1, rfl⟩ | ⟨hz1, rfl⟩
      all_goals
        go_wp2_with fail
        refine HC1.out.mono ?_
        rintro e W1 ⟨rfl, rfl⟩
        go_wp2_with fail
        refine HC2.out.mono ?_
        rintro e W1 ⟨rfl, rfl⟩
        go_wp2_with (refine wpList_append_ints _ rfl _ _ rfl w.heap.size _ k _ rfl (lit1_own HO.out _) _ 1 1 [_] rfl (lit1_ni _ _) (by omega) (by rw [size_new]; have := HB.out.size; omega) ?_; intro v3 w3 ho hg _; refine Held.go ?_)
        have hb3 := HB.out.trans (lit1_below HO.out HB.out.size _ hg)
        rw [← HSn.out] at ho
        have HO3 := hid ho; have HB3 := hid hb3
        clear ho hg hb3 HO HB HC1 HC2 HSn
        unfold Held
        go_wp2_with fail
        go_roundw
        case rel => exact ⟨k + 1, by omega, by go_num, HO3, HB3⟩
        case measure => simp [intOf]; omega
    · obtain rfl : k = M := by omega
      have HEnd := hid (show OwnN wr w.heap.size _ k (meetV v1 v2) ∧ Below w.heap.size w wr from ⟨by rw [HE.out]; exact HO.out, HB.out⟩)
      clear HO HB HV HU
      rcases hmx with ⟨hm1, rfl⟩ | ⟨hm1, rfl⟩
      all_goals
        go_wp2_with fail
        go_ret
        exact ⟨_, rfl, HEnd.out⟩
set_option maxHeartbeats 2000000 in
theorem rWeight_calls (n1 c1 : Nat) (A1 : Option Addr) (v1 : List Int) (w : World) (h1 : NI w A1 n1 v1) (hn1 : n1 ≤ 1000000) :
    Calls Try.prog 30 #[.slice A1 n1 c1] w fun e w' => e = .returned (.int .i64 (wgtV v1)) ∧ w = w' := by
  have hl1 := h1.1
  have HV := hid (fun k => rAt_calls n1 c1 A1 v1 ((k : Nat) + 1 : Int) w h1 (by omega))
  have HE := hid (show wgtV v1 = sumF (nth v1) (List.range n1) from by unfold wgtV; rw [hl1])
  have HF := hid (show ∀ k, k < n1 → capN - sumF (nth v1) (List.range k) < nth v1 k → wgtV v1 = capN from fun k hk h => by
    rw [HE.out]
    have hs : ∀ m, k + 1 ≤ m → sumF (nth v1) (List.range m) = capN := by
      intro m hm
      induction m with
      | zero => omega
      | succ m ih =>
        rw [List.range_succ, sumF_snoc]
        rcases Nat.eq_or_lt_of_le hm with e | e
        · obtain rfl : k = m := by omega
          omega
        · rw [ih (by omega)]
          have := nth_nonneg v1 m
          omega
    exact hs n1 hk)
  clear h1 hl1
  go_enter Try.func30, Try.ntmps30
  go_wp2_with fail
  go_loop [3, 4] (fun s i => ∃ k : Nat, k ≤ n1 ∧ i = .int .i64 ((k : Int) + 1) ∧ s = .int .i64 (sumF (nth v1) (List.range k))) (fun _ i => n1 + 1 - (intOf i).toNat)
  case atStart => exact ⟨0, Nat.zero_le _, rfl, rfl⟩
  case round =>
    obtain ⟨k, hk, rfl, rfl⟩ := hrel
    by_cases hlt : k < n1
    · have hlt' : (k : Int) + 1 ≤ (n1 : Int) := by omega
      have HC1 := hid (HV.out k)
      rw [atV_nat] at HC1
      obtain ⟨hs0, hs1⟩ := sumF_bounds (nth_nonneg v1) (List.range k)
      have HSn := hid (show sumF (nth v1) (List.range (k + 1)) = sumF (nth v1) (List.range k) + min (nth v1 k) (capN - sumF (nth v1) (List.range k)) from by rw [List.range_succ, sumF_snoc])
      have HFk := hid (HF.out k hlt)
      have hx0 := nth_nonneg v1 k
      generalize nth v1 k = x at HC1 HSn HFk hx0
      generalize sumF (nth v1) (List.range k) = s at hs0 hs1 HSn HFk ⊢
      unfold capN at hs1 HSn HFk
      have hwr : IntKind.i64.wrap ((k : Int) + 1 + 1) = (k : Int) + 1 + 1 := IntWalk.i64_in _ (by omega)
      have hw2 : IntKind.i64.wrap (4611686018427387904 - s) = 4611686018427387904 - s := IntWalk.i64_in _ (by omega)
      by_cases hg : 4611686018427387904 - s < x
      · have HE2 := hid (HFk.out hg)
        go_wp2_with fail
        refine HC1.out.mono ?_
        rintro e W1 ⟨rfl, rfl⟩
        go_wp2_with fail
        go_ret
        exact ⟨ret_int HE2.out.symm, rfl⟩
      · have hw3 : IntKind.i64.wrap (s + x) = s + x := IntWalk.i64_in _ (by omega)
        have HS2 := hid (show s + x = sumF (nth v1) (List.range (k + 1)) from by rw [HSn.out]; omega)
        go_wp2_with fail
        refine HC1.out.mono ?_
        rintro e W1 ⟨rfl, rfl⟩
        go_wp2_with fail
        go_round
        case rel => exact ⟨k + 1, by omega, by go_num, by rw [HS2.out]⟩
        case measure => simp [intOf]; omega
    · obtain rfl : k = n1 := by omega
      rw [← HE.out]
      go_wp2_with fail
      go_ret
      exact ⟨rfl, rfl⟩
set_option maxRecDepth 20000 in
set_option maxHeartbeats 1000000 in
theorem rLess_calls (R N R2 N2 : Int) (n1 c1 n2 c2 : Nat) (A1 A2 : Option Addr) (v1 v2 : List Int) (w : World) (h1 : NI w A1 n1 v1) (h2 : NI w A2 n2 v2) (hn1 : n1 ≤ 1000000) (hn2 : n2 ≤ 1000000) :
    Calls Try.prog 32 #[.agg #[.int .i64 R, .int .i64 N], .slice A1 n1 c1, .agg #[.int .i64 R2, .int .i64 N2], .slice A2 n2 c2] w fun e w' => e = .returned (.bool (lessV R N v1 R2 N2 v2)) ∧ Below w.heap.size w w' := by
  obtain ⟨w2, hw2, hk1, hk2, hb2⟩ := two_dots w R N R2 N2
  obtain ⟨p, hp⟩ : ∃ p, w.heap.size = p := ⟨_, rfl⟩
  obtain ⟨p2, hp2⟩ : ∃ p2, w.heap.size + 1 = p2 := ⟨_, rfl⟩
  rw [hp] at hk1
  rw [hp2] at hk2
  have HW := hid (rWeight_calls n1 c1 A1 v1 w2 (h1.keep hb2) hn1)
  have HU := hid (rWeight_calls n2 c2 A2 v2 w2 (h2.keep hb2) hn2)
  obtain ⟨x, hx⟩ : ∃ x, wgtV v1 = x := ⟨_, rfl⟩
  obtain ⟨y, hy⟩ : ∃ y, wgtV v2 = y := ⟨_, rfl⟩
  obtain ⟨res, hres⟩ : ∃ res, lessV R N v1 R2 N2 v2 = res := ⟨_, rfl⟩
  rw [hres]
  have HR := hid (show res = if x = y then dotLt R N R2 N2 else decide (x < y) from by rw [← hres]; unfold lessV; rw [hx, hy])
  rw [hx] at HW
  rw [hy] at HU
  have HW2 := hid hw2; have HB2 := hid hb2; have HPP := hid hp; have HP2P := hid hp2
  have d0 := hk1.cell 0 rfl
  have d1 := hk1.cell 1 rfl
  have d2 := hk2.cell 0 rfl
  have d3 := hk2.cell 1 rfl
  clear h1 h2 hx hy hres hw2 hk1 hk2 hb2 hp hp2
  go_enter Try.func32, Try.ntmps32
  go_wp2_with fail
  rw [← HW2.out, HP2P.out, HPP.out]
  refine HW.out.mono ?_
  rintro e W3 ⟨rfl, rfl⟩
  clear HW2
  go_wp2_with fail
  refine HU.out.mono ?_
  rintro e W4 ⟨rfl, rfl⟩
  by_cases hxy : x = y
  · rw [if_pos hxy] at HR
    subst hxy
    by_cases hRR : R = R2
    · have HR3 := hid (show res = decide (N < N2) from by rw [HR.out]; unfold dotLt; simp [hRR])
      have hRb : (R == R2) = true := by simpa using hRR
      have hRn : (R != R2) = false := by simpa using hRR
      clear HR hRR
      go_wp2_with fail
      go_ret
      exact ⟨ret_bool HR3.out.symm, HB2.out⟩
    · have HR3 := hid (show res = decide (R < R2) from by rw [HR.out]; unfold dotLt; simp [hRR])
      clear HR
      go_wp2_with fail
      go_ret
      exact ⟨ret_bool HR3.out.symm, HB2.out⟩
  · rw [if_neg hxy] at HR
    go_wp2_with fail
    go_ret
    exact ⟨ret_bool HR.out.symm, HB2.out⟩
end Go.Proofs.Ytfcildpigkobcaa
