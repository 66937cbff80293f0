/- Contracts of clouds: greatest, Next, Count. Written by tools/mkoc6.py. -/
import Derived.Test.YthjflgnoeenenaaOcChk
namespace Go.Proofs.Ythjflgnoeenenaa
open Go Go.RowKit Cl

/-- the greatest N of a region among the first k dots, as the program finds it: the last one -/
def lastI (v : List Int) (ds : List Dt) (r : Int) (k : Nat) : Int := (ds.take k).foldl (fun n d => if d.1 = r then d.2 else n) (frs v r)
theorem last_step {v : List Int} {ds : List Dt} {r : Int} {k : Nat} {d : Dt} (h : ds[k]? = some d) : lastI v ds r (k + 1) = if d.1 = r then d.2 else lastI v ds r k := by
  unfold lastI
  rw [List.take_add_one, h, List.foldl_append]; rfl
theorem last_top {c : Cd} (h : Cl.Can c.1 c.2) (r : Int) (k : Nat) (hk : k ≤ c.2.length) : lastI c.1 c.2 r k = (c.2.take k).foldl (fun n d => if d.1 = r then max n d.2 else n) (frs c.1 r) := by
  induction k with
  | zero => simp [lastI]
  | succ k ih =>
    have hl : k < c.2.length := by omega
    have hq : c.2[k]? = some c.2[k] := List.getElem?_eq_getElem hl
    rw [last_step hq, List.take_succ_eq_append_getElem hl, List.foldl_append, ih (by omega)]
    show _ = if (c.2[k]).1 = r then max _ (c.2[k]).2 else _
    split
    · rename_i e
      obtain ⟨_, _, h3⟩ := top_fold (c.2.take k) r (frs c.1 r)
      rcases h3 with h3 | ⟨d, hd, e1, e2⟩
      · rw [h3]
        have := h.gap c.2[k] (List.getElem_mem hl)
        rw [e] at this
        omega
      · rw [e2]
        obtain ⟨j, hj, e3⟩ := List.getElem_of_mem hd
        rw [List.length_take] at hj
        rw [List.getElem_take] at e3
        have := (List.pairwise_iff_getElem.1 h.sorted) j k (by omega) hl (by omega)
        rw [e3] at this
        unfold dLt at this
        omega
    · rfl
theorem last_all {c : Cd} (h : Cl.Can c.1 c.2) (r : Int) : lastI c.1 c.2 r c.2.length = topC c r := by
  rw [last_top h r _ (Nat.le_refl _), List.take_length]; rfl
set_option maxRecDepth 20000 in
set_option maxHeartbeats 1000000 in
theorem ocGreat_calls (n c m e : Nat) (A B : Option Addr) (v : List Int) (ds : List Dt) (r : Int) (w : World) (h1 : NI w A n v) (h2 : ND w B m ds) (hn : n ≤ 1000000) (hm : m ≤ 900000) (hok : OKC (v, ds)) :
    Calls Try.prog 44 #[cdv A n c B m e, .int .i64 r] w fun x w' => x = .returned (.int .i64 (topC (v, ds) r)) ∧ Below w.heap.size w w' := by
  obtain ⟨p, hp⟩ : ∃ p, w.heap.size = p := ⟨_, rfl⟩
  have hb := below_new w (.cells #[.slice A n c, .slice B m e] 25)
  have hk := Blk.new w 25 #[.slice A n c, .slice B m e]
  obtain ⟨w1, hw1⟩ : ∃ w1, w.alloc (.cells #[.slice A n c, .slice B m e] 25) = w1 := ⟨_, rfl⟩
  rw [hw1] at hb hk
  rw [hp] at hk
  have HW1 := hid hw1; have HPP := hid hp; have HB := hid hb; have HK := hid hk
  have H1 := hid (h1.keep hb); have H2 := hid (h2.keep hb); have L2 := hid h2.1
  have HAT := hid (show Calls Try.prog 72 #[.slice A n c, .int .i64 r] w1 fun e w' => e = .returned (.int .i64 (frs v r)) ∧ w1 = w' from by
    have := vAt_calls n c A v r w1 (h1.keep hb) (by omega)
    rwa [atV_frs hok.rg.2.1] at this)
  have HZ := hid (show lastI v ds r m = topC (v, ds) r from by rw [← h2.1]; exact last_all hok.can r)
  generalize topC (v, ds) r = Z at HZ ⊢
  have HL0 := hid (show frs v r = lastI v ds r 0 from by simp [lastI])
  generalize frs v r = z0 at HAT HL0
  have hz := (zero_of_info info_dot0).1
  have c0 := hk.cell 0 rfl; have c1 := hk.cell 1 rfl
  clear h1 h2 hok hp hb hk hw1
  show Calls Try.prog 44 #[.agg #[.slice A n c, .slice B m e], .int .i64 r] w _
  go_enter Try.func44, Try.ntmps44
  go_wp2_with fail
  rw [HW1.out, HPP.out]
  go_wp2_with fail
  refine HAT.out.mono ?_
  rintro x W2 ⟨rfl, rfl⟩
  go_wp2_with fail
  clear c0 c1
  go_loopw [5, 15] (fun s i wr => ∃ k : Nat, k ≤ m ∧ i = .int .i64 (k : Int) ∧ (∃ z, s = .int .i64 z ∧ Hid (z = lastI v ds r k)) ∧ Hid (Below w1.heap.size w1 wr)) (fun _ i _ => m - (intOf i).toNat)
  case atStart => exact ⟨0, Nat.zero_le _, rfl, ⟨_, rfl, HL0⟩, hid (Below.refl _ _)⟩
  case round =>
    obtain ⟨k, hk, rfl, ⟨z, rfl, HS⟩, HW⟩ := hrel
    by_cases hlt : k < m
    · have hlt' : (k : Int) < (m : Int) := by omega
      obtain ⟨b, o1, d, rfl, hx, hc1, hc2⟩ := (H2.out.keep HW.out).at_ hlt
      have HST := hid (last_step (v := v) (r := r) hx)
      obtain ⟨R, N⟩ := d
      have hc3 : wr.cell? ⟨b, o1 + k * 2, none⟩ = some (.int .i64 R) := hc1
      have hc4 : wr.cell? ⟨b, o1 + k * 2 + 1, none⟩ = some (.int .i64 N) := hc2
      have HW5 := hid (HW.out.trans ((below_new wr (.cells #[.int .i64 R, .int .i64 N] 27)).mono HW.out.size))
      clear hx hc1 hc2
      by_cases hR : R = r
      · have HN := hid (show N = lastI v ds r (k + 1) from by rw [HST.out, if_pos hR])
        have hRb : (R == r) = true := by simpa using hR
        clear HST hR HS
        go_wp2_with fail
        go_roundw
        case rel => exact ⟨k + 1, hlt, by go_num, ⟨_, rfl, HN⟩, HW5⟩
        case measure => simp [intOf]; omega
      · have HN := hid (show z = lastI v ds r (k + 1) from by rw [HST.out, if_neg hR]; exact HS.out)
        have hRb : (R == r) = false := by simpa using hR
        clear HST hR HS
        go_wp2_with fail
        go_roundw
        case rel => exact ⟨k + 1, hlt, by go_num, ⟨_, rfl, HN⟩, HW5⟩
        case measure => simp [intOf]; omega
    · obtain rfl : k = m := by omega
      have HE := hid (HS.out.trans HZ.out)
      have HF := hid (HB.out.trans (HW.out.mono HB.out.size))
      clear HS HZ
      go_wp2_with fail
      go_ret
      exact ⟨ret_int HE.out, HF.out⟩
theorem results_dot_tmp {fn : Func} {p q : Tmp} (h : fn.results = #[.cell p 27, .tmp q]) (tmps : Array Value) (w : World) (g : Nat) (d : Dt) {v : Value} (hp : tmps.getD p undef = .pointer (some ⟨g, 0, none⟩)) (hq : tmps.getD q undef = v) (hg : Blk w g 27 #[.int .i64 d.1, .int .i64 d.2]) :
    (results fn tmps).run Try.prog w = .ok (.tuple #[dvv d, v]) w := by
  subst hq
  have hp' : tmps[p]?.getD undef = .pointer (some ⟨g, 0, none⟩) := by simpa using hp
  simp [results, h, hp', asAddr, run_load_dot hg]
/-- what a region's Next leaves in its result -/
theorem nx_fin {w W : World} {q : Nat} {cs0 : Array Value} (hb : Below w.heap.size w W) (hk : Blk W q 27 cs0) (hq : w.heap.size ≤ q) (d : Dt) : Blk (W.setRow q #[.int .i64 d.1, .int .i64 d.2]) q 27 #[.int .i64 d.1, .int .i64 d.2] ∧ Below w.heap.size w (W.setRow q #[.int .i64 d.1, .int .i64 d.2]) :=
  ⟨hk.setRow _, hb.trans (below_of_grown (grown_setRow _ _ _) hb.size (fun b e => by injection e with e; omega))⟩
set_option maxRecDepth 20000 in
set_option maxHeartbeats 2000000 in
theorem ocNext_calls (n c m e : Nat) (A B : Option Addr) (v : List Int) (ds : List Dt) (r : Int) (w : World) (h1 : NI w A n v) (h2 : ND w B m ds) (hn : n ≤ 1000000) (hm : m ≤ 900000) (hnc : n ≤ c) :
    Calls Try.prog 15 #[cdv A n c B m e, .int .i64 r] w fun x w' => x = .returned (.tuple #[dvv (nextC (v, ds) r).1, .int .i64 (nextC (v, ds) r).2]) ∧ Below w.heap.size w w' := by
  have hz := (zero_of_info info_dot0).1
  obtain ⟨w1, hw1, k1, k2, hb⟩ := two_mixed w #[.slice A n c, .slice B m e] #[.int .i64 0, .int .i64 0]
  obtain ⟨p, hp⟩ : ∃ p, w.heap.size = p := ⟨_, rfl⟩
  obtain ⟨p2, hp2⟩ : ∃ p2, w.heap.size + 1 = p2 := ⟨_, rfl⟩
  rw [hp] at k1
  rw [hp2] at k2
  have HW1 := hid hw1; have HB := hid hb; have HPP := hid hp; have HPP2 := hid hp2
  have HC := hid (ocCheck_calls n c m e A B v ds w1 (h1.keep hb) (h2.keep hb) hn hm hnc)
  have H1 := hid (h1.keep hb); have H2 := hid (h2.keep hb)
  have K1 := hid k1; have K2 := hid k2
  have HQL := hid (show w.heap.size ≤ p2 from by omega)
  obtain ⟨Z, hZ⟩ : ∃ Z, nextC (v, ds) r = Z := ⟨_, rfl⟩
  have HZ := hid hZ
  rw [hZ]
  obtain ⟨ck, hck⟩ : ∃ ck, checkC (v, ds) = ck := ⟨_, rfl⟩
  rw [hck] at HC
  have HCK := hid hck
  have c0 := k1.cell 0 rfl; have c1 := k1.cell 1 rfl
  clear h1 h2 hw1 hb hp hp2 k1 k2 hZ hck
  unfold cdv at HC
  show Calls Try.prog 15 #[.agg #[.slice A n c, .slice B m e], .int .i64 r] w _
  go_enter Try.func15, Try.ntmps15
  go_wp2_with fail
  rw [← HW1.out, HPP2.out, HPP.out]
  go_wp2_with fail
  refine HC.out.mono ?_
  rintro x W2 ⟨rfl, hb2⟩
  have HB2 := hid hb2
  have K3 := hid (K1.out.keep hb2); have K4 := hid (K2.out.keep hb2)
  have HBB := hid (HB.out.trans (hb2.mono HB.out.size))
  have H12 := hid (H1.out.keep hb2); have H22 := hid (H2.out.keep hb2)
  clear hb2 c0 c1 HC
  have c0 := K3.out.cell 0 rfl; have c1 := K3.out.cell 1 rfl
  by_cases h0 : ck = 0
  · have hok := check_ok (HCK.out.trans h0)
    have HOK := hid hok
    have HY := hid (show nextC (v, ds) r = if 1 ≤ r ∧ r ≤ 16 then if topC (v, ds) r = 1048576 then ((0, 0), 10) else ((r, topC (v, ds) r + 1), 0) else ((0, 0), 3) from by unfold nextC; rw [if_pos (HCK.out.trans h0)])
    subst h0
    clear hok
    by_cases hr : 1 ≤ r ∧ r ≤ 16
    · have hr1 : ¬ r < 1 := by omega
      have hr2 : ¬ 16 < r := by omega
      have HG := hid (ocGreat_calls n c m e A B v ds r W2 H12.out H22.out hn hm HOK.out)
      have hT0 := top_nonneg HOK.out r
      have hT1 := top_le HOK.out r
      obtain ⟨T, hT⟩ : ∃ T, topC (v, ds) r = T := ⟨_, rfl⟩
      rw [hT] at HG HY hT0 hT1
      unfold cdv at HG
      clear hT
      go_wp2_with fail
      refine HG.out.mono ?_
      rintro x W3 ⟨rfl, hb3⟩
      have K5 := hid (K4.out.keep hb3)
      have HB3 := hid (HBB.out.trans (hb3.mono HBB.out.size))
      clear hb3 c0 c1 HG
      by_cases hfull : T = 1048576
      · have HE := hid (show Z = ((0, 0), 10) from by rw [← HZ.out, HY.out, if_pos hr, if_pos hfull])
        have HF := hid (nx_fin HB3.out K5.out HQL.out (0, 0))
        subst hfull
        clear hr
        go_wp2_with (refine wpList_store_blk rfl 27 _ _ rfl p2 #[.int .i64 0, .int .i64 0] rfl rfl 27 _ K5.out (by kernel_rfl) rfl (by rfl) ?_; refine Held.go ?_)
        unfold Held
        go_wp2_with fail
        refine bodyPost_ret (v := .tuple #[dvv (0, 0), .int .i64 10]) (results_dot_tmp rfl _ _ p2 (0, 0) rfl rfl HF.out.1) rfl ?_
        exact ⟨by rw [HE.out], HF.out.2⟩
      · have HE := hid (show Z = ((r, T + 1), 0) from by rw [← HZ.out, HY.out, if_pos hr, if_neg hfull])
        have HF := hid (nx_fin HB3.out K5.out HQL.out (r, T + 1))
        have hcb : (T == 1048576) = false := by simpa using hfull
        have hw2 : IntKind.i64.wrap (T + 1) = T + 1 := IntWalk.i64_in _ (by omega)
        clear hr hfull hT0 hT1
        go_wp2_with (refine wpList_store_blk rfl 27 _ _ rfl p2 #[.int .i64 r, .int .i64 (T + 1)] rfl rfl 27 _ K5.out (by kernel_rfl) rfl (by rfl) ?_; refine Held.go ?_)
        unfold Held
        go_wp2_with fail
        refine bodyPost_ret (v := .tuple #[dvv (r, T + 1), .int .i64 0]) (results_dot_tmp rfl _ _ p2 (r, T + 1) rfl rfl HF.out.1) rfl ?_
        exact ⟨by rw [HE.out], HF.out.2⟩
    · have HE := hid (show Z = ((0, 0), 3) from by rw [← HZ.out, HY.out, if_neg hr])
      have HF := hid (nx_fin HBB.out K4.out HQL.out (0, 0))
      have hr3 : r < 1 ∨ (¬ r < 1 ∧ 16 < r) := by omega
      clear hr c0 c1
      rcases hr3 with hr3 | ⟨hr3, hr4⟩
      all_goals
        go_wp2_with (refine wpList_store_blk rfl 27 _ _ rfl p2 #[.int .i64 0, .int .i64 0] rfl rfl 27 _ K4.out (by kernel_rfl) rfl (by rfl) ?_; refine Held.go ?_)
        unfold Held
        go_wp2_with fail
        refine bodyPost_ret (v := .tuple #[dvv (0, 0), .int .i64 3]) (results_dot_tmp rfl _ _ p2 (0, 0) rfl rfl HF.out.1) rfl ?_
        exact ⟨by rw [HE.out], HF.out.2⟩
  · have HE := hid (show Z = ((0, 0), ck) from by rw [← HZ.out]; unfold nextC; rw [if_neg (by rw [HCK.out]; exact h0), HCK.out])
    have HF := hid (nx_fin HBB.out K4.out HQL.out (0, 0))
    have hcb : (ck == 0) = false := by simpa using h0
    clear h0 c0 c1
    go_wp2_with (refine wpList_store_blk rfl 27 _ _ rfl p2 #[.int .i64 0, .int .i64 0] rfl rfl 27 _ K4.out (by kernel_rfl) rfl (by rfl) ?_; refine Held.go ?_)
    unfold Held
    go_wp2_with fail
    refine bodyPost_ret (v := .tuple #[dvv (0, 0), .int .i64 ck]) (results_dot_tmp rfl _ _ p2 (0, 0) rfl rfl HF.out.1) rfl ?_
    exact ⟨by rw [HE.out], HF.out.2⟩
theorem sumF_sum {v : List Int} (h : ∀ x ∈ v, 0 ≤ x ∧ x ≤ 1048576) (k : Nat) (hk : k ≤ 16) (hl : k ≤ v.length) : sumF (nth v) (List.range k) = (v.take k).sum := by
  induction k with
  | zero => simp [sumF]
  | succ k ih =>
    have hq : v[k]? = some v[k] := List.getElem?_eq_getElem (by omega)
    rw [List.range_succ, sumF_snoc, ih (by omega) (by omega), sum_take hq, nth_get hq]
    have h1 := h v[k] (List.getElem_mem (by omega))
    have h2 := sum_le h k
    unfold capN
    omega
theorem wgt_sum {v : List Int} (h : ∀ x ∈ v, 0 ≤ x ∧ x ≤ 1048576) (hl : v.length ≤ 16) : wgtV v = v.sum ∧ 0 ≤ v.sum ∧ v.sum ≤ 16777216 := by
  have h1 := sumF_sum h v.length hl (Nat.le_refl _)
  have h2 := sum_le h v.length
  rw [List.take_length] at h1 h2
  exact ⟨h1, h2.1, by omega⟩
def vCou (A : Option Addr) (B : Option Addr) (n : Nat) (m : Nat) (e : Nat) (c : Nat) (p : Nat) (s : Int) : Nat → Unit → Value
  | 0, _ => .pointer (some ⟨p, 0, none⟩)
  | 1, _ => .slice A n c
  | 2, _ => .int .i64 s
  | 3, _ => .pointer (some ⟨p, 1, none⟩)
  | 4, _ => .slice B m e
  | 5, _ => .int .i64 (m : Int)
  | 6, _ => .int .i64 (s + (m : Int))
  | 7, _ => .int .i64 (s + (m : Int))
  | _, _ => undef
set_option maxRecDepth 20000 in
set_option maxHeartbeats 1000000 in
theorem ocCount_calls (n c m e : Nat) (A B : Option Addr) (v : List Int) (ds : List Dt) (w : World) (h1 : NI w A n v) (h2 : ND w B m ds) (hn : n ≤ 1000000) (hm : m ≤ 900000) (hnc : n ≤ c) :
    Calls Try.prog 22 #[cdv A n c B m e] w fun x w' => x = .returned (.int .i64 (countB (v, ds))) ∧ Below w.heap.size w w' := by
  have hb := below_new w (.cells #[.slice A n c, .slice B m e] 25)
  have hk := Blk.new w 25 #[.slice A n c, .slice B m e]
  obtain ⟨w1, hw1⟩ : ∃ w1, w.alloc (.cells #[.slice A n c, .slice B m e] 25) = w1 := ⟨_, rfl⟩
  obtain ⟨p, hp⟩ : ∃ p, w.heap.size = p := ⟨_, rfl⟩
  have HW1 := hid hw1; have HPP := hid hp
  rw [hw1] at hb hk
  have HB := hid hb
  rw [hp] at hk
  have HC := hid (ocCheck_calls n c m e A B v ds w1 (h1.keep hb) (h2.keep hb) hn hm hnc)
  have H1 := hid (h1.keep hb)
  have L1 := hid h1.1; have L2 := hid h2.1
  have K1 := hid hk
  obtain ⟨Z, hZ⟩ : ∃ Z, countB (v, ds) = Z := ⟨_, rfl⟩
  rw [hZ]
  obtain ⟨ck, hck⟩ : ∃ ck, checkC (v, ds) = ck := ⟨_, rfl⟩
  have HY := hid (show ck = 0 → v.sum + (m : Int) = Z from fun h => by rw [← hZ]; unfold countB countC; rw [if_pos (hck.trans h)]; show _ = (ds.length : Int) + v.sum; rw [L2.out]; omega)
  have HO := hid (show ck = 0 → wgtV v = v.sum ∧ 0 ≤ v.sum ∧ v.sum ≤ 16777216 from fun h => wgt_sum (check_ok (hck.trans h)).rg.2.1 (check_ok (hck.trans h)).rg.1)
  have HN := hid (show ¬ ck = 0 → 0 = Z from fun h => by rw [← hZ]; unfold countB; rw [if_neg (by rw [hck]; exact h)])
  rw [hck] at HC
  have c0 := hk.cell 0 rfl; have c1 := hk.cell 1 rfl
  clear h1 h2 hw1 hb hp hk hZ hck
  unfold cdv at HC
  show Calls Try.prog 22 #[.agg #[.slice A n c, .slice B m e]] w _
  go_enter Try.func22, Try.ntmps22
  go_wp2_with fail
  rw [HW1.out, HPP.out]
  go_wp2_with fail
  refine HC.out.mono ?_
  rintro x W2 ⟨rfl, hb2⟩
  have K2 := hid (K1.out.keep hb2)
  have H2 := hid (H1.out.keep hb2)
  have HF := hid (HB.out.trans (hb2.mono HB.out.size))
  clear hb2 c0 c1 HC
  by_cases h0 : ck = 0
  · have HE := hid (HY.out h0)
    obtain ⟨hw, hs0, hs1⟩ := HO.out h0
    have HWG := hid (fun W (hb : Below W2.heap.size W2 W) => show Calls Try.prog 52 #[.slice A n c] W fun e w' => e = .returned (.int .i64 v.sum) ∧ Below W.heap.size W w' from by
      rw [← hw]; exact weight_calls n c A v W (H2.out.keep hb) hn)
    subst h0
    obtain ⟨s, hs⟩ : ∃ s, v.sum = s := ⟨_, rfl⟩
    rw [hs] at HWG HE hs0 hs1
    have hwr : IntKind.i64.wrap (s + (m : Int)) = s + (m : Int) := IntWalk.i64_in _ (by omega)
    clear hw hs HO HN HY hs0 hs1
    go_wp2_with fail
    refine wp_region_invG 13 () (vCou A B n m e c p s) (fun _ _ W => Below W2.heap.size W2 W) (by kernel_rfl) (by kernel_rfl) (by exact Nat.le_refl 13) ?_ ?_ ?_
    · exact (Below.refl _ _).drew
    · intro i o f gh a W hi hf hdep hsame hcl hval hS
      rcases i with _ | _ | _ | _ | _ | _ | _ | _ | i
      all_goals simp only [List.getElem?_cons_succ, List.getElem?_cons_zero, List.getElem?_nil, Option.some.injEq, reduceCtorEq] at hi
      all_goals subst hi
      · have E1 : a.tmps[1]? = some (.pointer (some ⟨p, 0, none⟩)) := (same_of hsame 1 (by rfl)).trans rfl
        refine g_plain rfl ?_
        exact does_value (w' := W) (v := .pointer (some ⟨p, 0, none⟩)) (by go_simp) ⟨(), .inr rfl, hS⟩
      · have E6 := hval 0 _ 6 rfl rfl (dep_of hdep 0 (by rfl))
        unfold vCou at E6
        have kp := K2.out.keep hS
        have t0 := kp.cell 0 rfl
        have t1 := kp.cell 1 rfl
        refine g_plain rfl ?_
        exact does_value (w' := W) (v := .slice A n c) (by go_simp) ⟨(), .inr rfl, hS⟩
      · have E7 := hval 1 _ 7 rfl rfl (dep_of hdep 1 (by rfl))
        unfold vCou at E7
        refine g_plain rfl ?_
        refine does_call 52 #[.slice A n c] (by go_simp) ((HWG.out W hS).mono ?_)
        rintro _ W' ⟨rfl, hb⟩
        exact ⟨_, rfl, (), .inr rfl, hS.trans (hb.mono hS.size)⟩
      · have E1 : a.tmps[1]? = some (.pointer (some ⟨p, 0, none⟩)) := (same_of hsame 1 (by rfl)).trans rfl
        refine g_plain rfl ?_
        exact does_value (w' := W) (v := .pointer (some ⟨p, 1, none⟩)) (by go_simp) ⟨(), .inr rfl, hS⟩
      · have E9 := hval 3 _ 9 rfl rfl (dep_of hdep 3 (by rfl))
        unfold vCou at E9
        have kp := K2.out.keep hS
        have t0 := kp.cell 0 rfl
        have t1 := kp.cell 1 rfl
        refine g_plain rfl ?_
        exact does_value (w' := W) (v := .slice B m e) (by go_simp) ⟨(), .inr rfl, hS⟩
      · have E10 := hval 4 _ 10 rfl rfl (dep_of hdep 4 (by rfl))
        unfold vCou at E10
        refine g_plain rfl ?_
        exact does_value (w' := W) (v := .int .i64 (m : Int)) (by go_simp) ⟨(), .inr rfl, hS⟩
      · have E8 := hval 2 _ 8 rfl rfl (dep_of hdep 2 (by rfl))
        have E11 := hval 5 _ 11 rfl rfl (dep_of hdep 5 (by rfl))
        unfold vCou at E8 E11
        refine g_plain rfl ?_
        exact does_value (w' := W) (v := .int .i64 (s + (m : Int))) (by go_simp) ⟨(), .inr rfl, hS⟩
      · have E12 := hval 6 _ 12 rfl rfl (dep_of hdep 6 (by rfl))
        unfold vCou at E12
        refine g_plain rfl ?_
        exact does_value (w' := W) (v := .int .i64 (s + (m : Int))) (by go_simp) ⟨(), .inr rfl, hS⟩
    · intro gh W hS
      have HF2 := hid (HF.out.trans (hS.mono HF.out.size))
      clear hS
      simp only [putAll, vCou, Nat.reduceAdd, Nat.zero_add, Act.put, List.setIfInBounds_toArray, List.set_cons_zero, List.set_cons_succ]
      go_wp2_with fail
      go_ret
      exact ⟨ret_int HE.out, HF2.out⟩
  · have HE := hid (HN.out h0)
    have hcb : (ck == 0) = false := by simpa using h0
    go_wp2_with fail
    go_ret
    exact ⟨ret_int HE.out, HF.out⟩
end Go.Proofs.Ythjflgnoeenenaa
