/- Contracts of the kit of clouds' laws: of, at, SameInts, SameDots, SameCloud, makes, leq. -/
import Derived.Test.YthjflgnoeenenaaOcLeq
import Derived.Test.YthjflgnoeenenaaOcJoin
import Derived.Test.YthjflgnoeenenaaOcNxt
import Derived.Test.YthjflgnoeenenaaOcHas
namespace Go.Proofs.Ythjflgnoeenenaa
open Go Go.RowKit Go.Shelf Cl

theorem lit_ni {W : World} (zs : List Int) (cs : Array Value) (h : cs.toList = zs.map iv) : NI (W.alloc (.cells cs 3)) (some ⟨W.heap.size, 0, none⟩) zs.length zs := ⟨rfl, fun _ => ⟨_, _, rfl, fun j z hj => by
  have hk := Blk.new W 3 cs
  rw [Nat.zero_add]
  refine hk.cell j ?_
  rw [← Array.getElem?_toList, h, List.getElem?_map, hj]
  rfl⟩⟩
theorem lit_nd {W : World} (ds : List Dt) (cs : Array Value) (h : cs = (flatD ds).toArray) (hm : ds.length ≤ 1000000) : ND (W.alloc (.cells cs 27)) (some ⟨W.heap.size, 0, none⟩) ds.length ds := by
  obtain ⟨A, c, e, _, hn, _⟩ := (OwnD.lit W 0 ds cs ds.length h rfl (Nat.zero_le _) (by omega)).nd
  injection e with e1 e2 e3
  rw [e1]
  exact hn
theorem lof_calls (A B : Option Addr) (n c m e : Nat) (w : World) : Calls Try.prog 31 #[.slice A n c, .slice B m e] w fun x w' => x = .returned (cdv A n c B m e) ∧ Below w.heap.size w w' := by
  have hz := (zero_of_info info_cloud).1
  have hb := below_new w (.cells #[.slice none 0 0, .slice none 0 0] 25)
  have hk := Blk.new w 25 #[.slice none 0 0, .slice none 0 0]
  have HK := hid hk
  have HE := hid (show Blk ((w.alloc (.cells #[.slice none 0 0, .slice none 0 0] 25)).setRow w.heap.size #[.slice A n c, .slice B m e]) w.heap.size 25 #[.slice A n c, .slice B m e] ∧ Below w.heap.size w ((w.alloc (.cells #[.slice none 0 0, .slice none 0 0] 25)).setRow w.heap.size #[.slice A n c, .slice B m e]) from
    ⟨hk.setRow _, hb.trans (below_of_grown (grown_setRow _ _ _) (by rw [size_new]; omega) (fun g e => by cases e; exact Nat.le_refl _))⟩)
  clear hb hk
  go_enter Try.func31, Try.ntmps31
  go_wp2_with (refine wpList_store_blk rfl _ _ _ rfl w.heap.size #[.slice A n c, .slice B m e] rfl rfl _ _ HK.out (by kernel_rfl) rfl (by rfl) ?_; refine Held.go ?_)
  unfold Held
  go_wp2_with fail
  refine bodyPost_ret (results_cell_row rfl _ _ w.heap.size 25 _ (0, 0) _ rfl HE.out.1 Try.underlying25 rfl (by kernel_rfl)) rfl ?_
  exact ⟨rfl, HE.out.2⟩
theorem lat_calls (R N : Int) (w : World) : Calls Try.prog 32 #[.int .i64 R, .int .i64 N] w fun e w' => e = .returned (dvv (R, N)) ∧ Below w.heap.size w w' := by
  have hz := (zero_of_info info_dot0).1
  have hb := below_new w (.cells #[.int .i64 0, .int .i64 0] 27)
  have hk := Blk.new w 27 #[.int .i64 0, .int .i64 0]
  have HK := hid hk
  have HE := hid (show Blk ((w.alloc (.cells #[.int .i64 0, .int .i64 0] 27)).setRow w.heap.size #[.int .i64 R, .int .i64 N]) w.heap.size 27 #[.int .i64 R, .int .i64 N] ∧ Below w.heap.size w ((w.alloc (.cells #[.int .i64 0, .int .i64 0] 27)).setRow w.heap.size #[.int .i64 R, .int .i64 N]) from
    ⟨hk.setRow _, hb.trans (below_of_grown (grown_setRow _ _ _) (by rw [size_new]; omega) (fun g e => by cases e; exact Nat.le_refl _))⟩)
  clear hb hk
  go_enter Try.func32, Try.ntmps32
  go_wp2_with (refine wpList_store_blk rfl _ _ _ rfl w.heap.size #[.int .i64 R, .int .i64 N] rfl rfl _ _ HK.out (by kernel_rfl) rfl (by rfl) ?_; refine Held.go ?_)
  unfold Held
  go_wp2_with fail
  refine bodyPost_ret (results_cell_row rfl _ _ w.heap.size 27 _ (0, 0) _ rfl HE.out.1 Try.underlying27 rfl (by kernel_rfl)) rfl ?_
  exact ⟨rfl, HE.out.2⟩
set_option maxHeartbeats 2000000 in
theorem sameI_calls (n c n2 c2 : Nat) (A A2 : Option Addr) (zs ys : List Int) (w : World) (ha : NI w A n zs) (hb : NI w A2 n2 ys) (hn : n ≤ 549755813888) (hn2 : n2 ≤ 549755813888) :
    Calls Try.prog 25 #[.slice A n c, .slice A2 n2 c2] w fun e w' => e = .returned (.bool (zs == ys)) ∧ Below w.heap.size w w' := by
  have HA := hid ha; have HB := hid hb
  have hl1 := ha.1; have hl2 := hb.1
  have HL1 := hid hl1; have HL2 := hid hl2
  clear ha hb hl1 hl2
  by_cases hnn : n = n2
  · subst hnn
    go_enter Try.func25, Try.ntmps25
    go_wp2_with fail
    go_loopw [5, 6] (fun s i wr => ∃ (k : Nat) (b : Bool), k ≤ n ∧ i = .int .i64 (k : Int) ∧ s = .bool b ∧ (b = true → Hid (zs.take k = ys.take k)) ∧ (b = false → Hid (zs ≠ ys)) ∧ Hid (Below w.heap.size w wr)) (fun _ i _ => n - (intOf i).toNat)
    case atStart => exact ⟨0, true, Nat.zero_le _, rfl, rfl, fun _ => (rfl : zs.take 0 = ys.take 0), (fun h => by cases h), Below.refl _ _⟩
    case round =>
      obtain ⟨k, b, hk, rfl, rfl, hbt, hbf, HW⟩ := hrel
      cases b with
      | false =>
        have HNE := hbf rfl
        have HK := hid (show (zs == ys) = false from by simpa using HNE.out)
        clear hbt hbf HNE
        go_wp2_with fail
        go_ret
        exact ⟨by rw [HK.out]; rfl, HW.out⟩
      | true =>
        have HEQ := hbt rfl
        clear hbt hbf
        by_cases hlt : k < n
        · obtain ⟨b1, o1, z, rfl, hz, hc1⟩ := (HA.out.keep HW.out).at_ hlt
          obtain ⟨b2, o2, y, rfl, hy, hc2⟩ := (HB.out.keep HW.out).at_ hlt
          have HZ := hid hz; have HY := hid hy
          clear hz hy
          have hs1 := HW.out.size
          go_wp2_with fail
          go_region
          all_goals
            have HW2 := hid HW.out.drew
            go_wp2_with fail
            go_roundw
          case rel =>
            refine ⟨k + 1, z == y, by omega, by go_num, rfl, fun h => ?_, fun h => ?_, HW2⟩
            · have e : z = y := by simpa using h
              show zs.take (k + 1) = ys.take (k + 1)
              rw [List.take_add_one, List.take_add_one, HZ.out, HY.out, HEQ.out, e]
            · have e : z ≠ y := by simpa using h
              show zs ≠ ys
              intro e2
              have h1 := HZ.out
              rw [e2, HY.out] at h1
              exact e (by injection h1 with h1; exact h1.symm)
          case measure => simp [intOf]; omega
        · obtain rfl : k = n := by omega
          have HK := hid (show (zs == ys) = true from by
            have h := HEQ.out
            rw [List.take_of_length_le (by rw [HL1.out]; exact Nat.le_refl _), List.take_of_length_le (by rw [HL2.out]; exact Nat.le_refl _)] at h
            simp [h])
          go_wp2_with fail
          go_ret
          exact ⟨by rw [HK.out]; rfl, HW.out⟩
  · have HK := hid (show (zs == ys) = false from by
      have : zs ≠ ys := fun e => hnn (by rw [← HL1.out, ← HL2.out, e])
      simpa using this)
    have hq : ((n : Int) == (n2 : Int)) = false := by simp; omega
    have hq2 : (n == n2) = false := by simpa using hnn
    go_enter Try.func25, Try.ntmps25
    go_wp2_with fail
    go_loopw [5, 6] (fun s i wr => s = .bool false ∧ i = .int .i64 0 ∧ wr = w) (fun _ _ _ => 0)
    case atStart => exact ⟨rfl, rfl, rfl⟩
    case round =>
      obtain ⟨rfl, rfl, rfl⟩ := hrel
      go_wp2_with fail
      go_ret
      exact ⟨by rw [HK.out]; rfl, Below.refl _ _⟩
set_option maxHeartbeats 2000000 in
theorem sameD_calls (n c n2 c2 : Nat) (A A2 : Option Addr) (zs ys : List Dt) (w : World) (ha : ND w A n zs) (hb : ND w A2 n2 ys) (hn : n ≤ 1000000) (hn2 : n2 ≤ 1000000) :
    Calls Try.prog 26 #[.slice A n c, .slice A2 n2 c2] w fun e w' => e = .returned (.bool (decide (zs = ys))) ∧ Below w.heap.size w w' := by
  have HA := hid ha; have HB := hid hb
  have hl1 := ha.1; have hl2 := hb.1
  have HL1 := hid hl1; have HL2 := hid hl2
  clear ha hb hl1 hl2
  by_cases hnn : n = n2
  · subst hnn
    go_enter Try.func26, Try.ntmps26
    go_wp2_with fail
    go_loopw [5, 6] (fun s i wr => ∃ (k : Nat) (b : Bool), k ≤ n ∧ i = .int .i64 (k : Int) ∧ s = .bool b ∧ (b = true → Hid (zs.take k = ys.take k)) ∧ (b = false → Hid (zs ≠ ys)) ∧ Hid (Below w.heap.size w wr)) (fun _ i _ => n - (intOf i).toNat)
    case atStart => exact ⟨0, true, Nat.zero_le _, rfl, rfl, fun _ => (rfl : zs.take 0 = ys.take 0), (fun h => by cases h), Below.refl _ _⟩
    case round =>
      obtain ⟨k, b, hk, rfl, rfl, hbt, hbf, HW⟩ := hrel
      cases b with
      | false =>
        have HNE := hbf rfl
        have HK := hid (show decide (zs = ys) = false from decide_eq_false HNE.out)
        clear hbt hbf HNE
        go_wp2_with fail
        go_ret
        exact ⟨by rw [HK.out]; rfl, HW.out⟩
      | true =>
        have HEQ := hbt rfl
        clear hbt hbf
        by_cases hlt : k < n
        · obtain ⟨b1, o1, x, rfl, hx, hc1, hc2⟩ := (HA.out.keep HW.out).at_ hlt
          obtain ⟨b2, o2, y, rfl, hy, hc3, hc4⟩ := (HB.out.keep HW.out).at_ hlt
          have HX := hid hx; have HY := hid hy
          clear hx hy
          by_cases hxy : x = y
          · subst hxy
            have HQ2 := hid (take_more HX.out HY.out HEQ.out)
            go_wp2_with fail
            go_quiet (fail)
            have HW2 := hid (below_drewN HW.out nq)
            go_wp2_with fail
            go_roundw
            case rel => exact ⟨k + 1, true, hlt, by go_num, rfl, fun _ => HQ2, (fun h => by cases h), HW2⟩
            case measure => simp [intOf]; omega
          · have HE := hid (take_ne HX.out HY.out hxy)
            have hxy2 : ¬ x.1 = y.1 ∨ (x.1 = y.1 ∧ ¬ x.2 = y.2) := by
              by_cases h : x.1 = y.1
              · exact .inr ⟨h, fun h2 => hxy (Prod.ext h h2)⟩
              · exact .inl h
            clear hxy
            rcases hxy2 with h | ⟨h, h2⟩
            all_goals
              go_wp2_with fail
              go_quiet (fail)
              have HW2 := hid (below_drewN HW.out nq)
              go_wp2_with fail
              go_roundw
              case rel => exact ⟨k + 1, false, hlt, by go_num, rfl, (fun h => by cases h), fun _ => HE, HW2⟩
              case measure => simp [intOf]; omega
        · obtain rfl : k = n := by omega
          have HK := hid (show decide (zs = ys) = true from decide_eq_true (take_end HL1.out HL2.out HEQ.out))
          go_wp2_with fail
          go_ret
          exact ⟨by rw [HK.out]; rfl, HW.out⟩
  · have HK := hid (show decide (zs = ys) = false from decide_eq_false fun e => hnn (by rw [← HL1.out, ← HL2.out, e]))
    have hq : ((n : Int) == (n2 : Int)) = false := by simp; omega
    have hq2 : (n == n2) = false := by simpa using hnn
    go_enter Try.func26, Try.ntmps26
    go_wp2_with fail
    go_loopw [5, 6] (fun s i wr => s = .bool false ∧ i = .int .i64 0 ∧ wr = w) (fun _ _ _ => 0)
    case atStart => exact ⟨rfl, rfl, rfl⟩
    case round =>
      obtain ⟨rfl, rfl, rfl⟩ := hrel
      go_wp2_with fail
      go_ret
      exact ⟨by rw [HK.out]; rfl, Below.refl _ _⟩
set_option maxHeartbeats 1000000 in
theorem sameC_calls (n c m e n2 c2 m2 e2 : Nat) (A B A2 B2 : Option Addr) (v v2 : List Int) (ds ds2 : List Dt) (w : World) (h1 : NI w A n v) (h2 : ND w B m ds) (h3 : NI w A2 n2 v2) (h4 : ND w B2 m2 ds2) (hn : n ≤ 1000000) (hm : m ≤ 1000000) (hn2 : n2 ≤ 1000000) (hm2 : m2 ≤ 1000000) :
    Calls Try.prog 17 #[cdv A n c B m e, cdv A2 n2 c2 B2 m2 e2] w fun x w' => x = .returned (.bool (decide ((v, ds) = (v2, ds2)))) ∧ Below w.heap.size w w' := by
  obtain ⟨w1, hw1, k1, k2, hb⟩ := two_clouds w #[.slice A n c, .slice B m e] #[.slice A2 n2 c2, .slice B2 m2 e2]
  obtain ⟨p, hp⟩ : ∃ p, w.heap.size = p := ⟨_, rfl⟩
  obtain ⟨p2, hp2⟩ : ∃ p2, w.heap.size + 1 = p2 := ⟨_, rfl⟩
  rw [hp] at k1
  rw [hp2] at k2
  have HW1 := hid hw1; have HB := hid hb; have HPP := hid hp; have HPP2 := hid hp2
  have H2 := hid (h2.keep hb); have H4 := hid (h4.keep hb)
  have HS := hid (sameI_calls n c n2 c2 A A2 v v2 w1 (h1.keep hb) (h3.keep hb) (by omega) (by omega))
  have K1 := hid k1; have K2 := hid k2
  have c0 := k1.cell 0 rfl; have c1 := k1.cell 1 rfl; have c3 := k2.cell 0 rfl; have c4 := k2.cell 1 rfl
  clear h1 h2 h3 h4 hw1 hb hp hp2 k1 k2
  show Calls Try.prog 17 #[.agg #[.slice A n c, .slice B m e], .agg #[.slice A2 n2 c2, .slice B2 m2 e2]] w _
  go_enter Try.func17, Try.ntmps17
  go_wp2_with fail
  rw [← HW1.out, HPP2.out, HPP.out]
  go_wp2_with fail
  refine HS.out.mono ?_
  rintro x W2 ⟨rfl, hb2⟩
  have HB2 := hid (HB.out.trans (hb2.mono HB.out.size))
  clear c0 c1 c3 c4 HS
  have k1 := K1.out.keep hb2; have k2 := K2.out.keep hb2
  have c0 := k1.cell 0 rfl; have c1 := k1.cell 1 rfl; have c3 := k2.cell 0 rfl; have c4 := k2.cell 1 rfl
  have HS := hid (sameD_calls m e m2 e2 B B2 ds ds2 W2 (H2.out.keep hb2) (H4.out.keep hb2) hm hm2)
  clear hb2 k1 k2
  by_cases hq : v = v2
  · have HQ := hid hq
    have hq2 : (v == v2) = true := by simpa using hq
    rw [hq2]
    clear hq hq2
    go_wp2_with fail
    refine HS.out.mono ?_
    rintro x W3 ⟨rfl, hb3⟩
    have HB3 := hid (HB2.out.trans (hb3.mono HB2.out.size))
    have HE := hid (show decide (ds = ds2) = decide ((v, ds) = (v2, ds2)) from by rw [HQ.out]; simp)
    clear hb3
    generalize decide (ds = ds2) = q at HE ⊢
    go_wp2_with fail
    go_ret
    exact ⟨ret_bool HE.out, HB3.out⟩
  · have HE := hid (show false = decide ((v, ds) = (v2, ds2)) from (decide_eq_false fun e => hq (by injection e)).symm)
    have hq2 : (v == v2) = false := by simpa using hq
    rw [hq2]
    clear hq hq2
    go_wp2_with fail
    go_ret
    exact ⟨ret_bool HE.out, HB2.out⟩
set_option maxHeartbeats 1000000 in
theorem lmakes_calls (n c m e n2 c2 m2 e2 : Nat) (A B A2 B2 : Option Addr) (v v2 : List Int) (ds ds2 : List Dt) (w : World) (h1 : NI w A n v) (h2 : ND w B m ds) (h3 : NI w A2 n2 v2) (h4 : ND w B2 m2 ds2) (hn : n ≤ 1000000) (hm : m ≤ 1000000) (hn2 : n2 ≤ 1000000) (hm2 : m2 ≤ 4096) (hlv : (makeC v2 ds2).1.1.length ≤ 1000000) (hld : (makeC v2 ds2).1.2.length ≤ 1000000) :
    Calls Try.prog 33 #[cdv A n c B m e, .slice A2 n2 c2, .slice B2 m2 e2] w fun x w' => x = .returned (.bool (decide ((makeC v2 ds2).2 = 0) && decide ((makeC v2 ds2).1 = (v, ds)))) ∧ Below w.heap.size w w' := by
  have hz := (zero_of_info info_cloud).1
  have hb := below_new w (.cells #[.slice A n c, .slice B m e] 25)
  have hk := Blk.new w 25 #[.slice A n c, .slice B m e]
  obtain ⟨w1, hw1⟩ : ∃ w1, w.alloc (.cells #[.slice A n c, .slice B m e] 25) = w1 := ⟨_, rfl⟩
  obtain ⟨p, hp⟩ : ∃ p, w.heap.size = p := ⟨_, rfl⟩
  rw [hw1] at hb hk
  rw [hp] at hk
  have HW1 := hid hw1; have HB := hid hb; have HK := hid hk; have HPP := hid hp
  have H1 := hid (h1.keep hb); have H2 := hid (h2.keep hb)
  have HM := hid (ocMake_calls n2 c2 m2 e2 A2 B2 v2 ds2 w1 (h3.keep hb) (h4.keep hb) hn2 hm2)
  obtain ⟨M, hM⟩ : ∃ M, makeC v2 ds2 = M := ⟨_, rfl⟩
  rw [hM] at HM hlv hld ⊢
  obtain ⟨⟨mv, md⟩, me⟩ := M
  obtain ⟨q0, hq0⟩ : ∃ q0, decide ((mv, md) = (v, ds)) = q0 := ⟨_, rfl⟩
  obtain ⟨Z, hZ⟩ : ∃ Z, (decide (me = 0) && q0) = Z := ⟨_, rfl⟩
  rw [hq0, hZ]
  have HT := hid (show me = 0 → q0 = Z from fun h => by rw [← hZ, h]; simp)
  have HF := hid (show me ≠ 0 → false = Z from fun h => by rw [← hZ, decide_eq_false h]; rfl)
  have HSC := hid (fun A3 c3 B3 e3 W4 (g1 : NI W4 A3 mv.length mv) (g2 : ND W4 B3 md.length md) (g3 : NI W4 A n v) (g4 : ND W4 B m ds) => show Calls Try.prog 17 #[.agg #[.slice A3 mv.length c3, .slice B3 md.length e3], .agg #[.slice A n c, .slice B m e]] W4 (fun x w' => x = .returned (.bool q0) ∧ Below W4.heap.size W4 w') from by
    have h := sameC_calls mv.length c3 md.length e3 n c m e A3 B3 A B mv v md ds W4 g1 g2 g3 g4 hlv hld hn hm
    rw [hq0] at h
    exact h)
  clear hq0 hZ
  clear h1 h2 h3 h4 hw1 hb hk hp hM
  unfold cdv
  go_enter Try.func33, Try.ntmps33
  go_wp2_with fail
  rw [HW1.out, HPP.out]
  refine HM.out.mono ?_
  rintro x W2 ⟨V, D, rfl, ho1, ho2, _, hb2⟩
  obtain ⟨A3, c3, rfl, hc3, hn3, _⟩ := ho1.ni
  obtain ⟨B3, e3, rfl, he3, hd3, _⟩ := ho2.nd
  have hb3 := below_new W2 (.cells #[.slice none 0 0, .slice none 0 0] 25)
  have hk3 := Blk.new W2 25 #[.slice none 0 0, .slice none 0 0]
  have hg := grown_setRow (W2.alloc (.cells #[.slice none 0 0, .slice none 0 0] 25)) W2.heap.size #[.slice A3 mv.length c3, .slice B3 md.length e3]
  have HK3 := hid hk3
  have HK4 := hid (hk3.setRow #[.slice A3 mv.length c3, .slice B3 md.length e3])
  have HB4 := hid (show Below W2.heap.size W2 ((W2.alloc (.cells #[.slice none 0 0, .slice none 0 0] 25)).setRow W2.heap.size #[.slice A3 mv.length c3, .slice B3 md.length e3]) from hb3.trans (below_of_grown hg (by rw [size_new]; omega) (fun g e => by cases e; exact Nat.le_refl _)))
  have HB2 := hid hb2
  have HN3 := hid hn3; have HD3 := hid hd3
  clear ho1 ho2 hn3 hd3 hb2 hb3 hk3 hg hc3 he3 HM
  go_wp2_with (refine wpList_store_blk rfl _ _ _ rfl W2.heap.size #[.slice A3 mv.length c3, .slice B3 md.length e3] rfl rfl _ _ HK3.out (by kernel_rfl) rfl (by rfl) ?_; refine Held.go ?_)
  unfold Held
  obtain ⟨W4, hW4⟩ : ∃ W4, W4 = (W2.alloc (.cells #[.slice none 0 0, .slice none 0 0] 25)).setRow W2.heap.size #[.slice A3 mv.length c3, .slice B3 md.length e3] := ⟨_, rfl⟩
  rw [← hW4] at HK4 HB4 ⊢
  clear hW4 HK3
  obtain ⟨g, hg⟩ : ∃ g, W2.heap.size = g := ⟨_, rfl⟩
  rw [hg] at HK4 ⊢
  clear hg
  have HBB := hid (HB.out.trans ((HB2.out.trans (HB4.out.mono HB2.out.size)).mono HB.out.size))
  have hkp := (HK.out.keep HB2.out).keep HB4.out
  have c0 := hkp.cell 0 rfl; have c1 := hkp.cell 1 rfl
  have cq := HK4.out.cell 0 rfl; have cq2 := HK4.out.cell 1 rfl
  have HS := hid (HSC.out A3 c3 B3 e3 W4 (HN3.out.keep HB4.out) (HD3.out.keep HB4.out) ((H1.out.keep HB2.out).keep HB4.out) ((H2.out.keep HB2.out).keep HB4.out))
  clear HSC
  clear hkp HN3 HD3 HB2 HB4 H1 H2
  by_cases h0 : me = 0
  · have HE := hid (HT.out h0)
    subst h0
    clear HT HF
    go_wp2_with fail
    refine HS.out.mono ?_
    rintro x W5 ⟨rfl, hb5⟩
    have HB5 := hid (HBB.out.trans (hb5.mono HBB.out.size))
    clear hb5 HS
    go_wp2_with fail
    go_ret
    exact ⟨ret_bool HE.out, HB5.out⟩
  · have HE := hid (HF.out h0)
    have hq : (me == 0) = false := by simpa using h0
    clear h0 HT HF
    go_wp2_with fail
    go_ret
    exact ⟨ret_bool HE.out, HBB.out⟩
set_option maxHeartbeats 1000000 in
theorem lleq_calls (n c m e n2 c2 m2 e2 : Nat) (A B A2 B2 : Option Addr) (v v2 : List Int) (ds ds2 : List Dt) (y : Bool) (w : World) (h1 : NI w A n v) (h2 : ND w B m ds) (h3 : NI w A2 n2 v2) (h4 : ND w B2 m2 ds2) (hn : n ≤ 1000000) (hn2 : n2 ≤ 1000000) (hm : m + m2 ≤ 900000) (hnc : n ≤ c) (hnc2 : n2 ≤ c2) (hme : m ≤ e) (hme2 : m2 ≤ e2) :
    Calls Try.prog 34 #[cdv A n c B m e, cdv A2 n2 c2 B2 m2 e2, .bool y] w fun x w' => x = .returned (.bool (decide ((leqB (v, ds) (v2, ds2)).2 = 0) && ((leqB (v, ds) (v2, ds2)).1 == y))) ∧ Below w.heap.size w w' := by
  obtain ⟨w1, hw1, k1, k2, hb⟩ := two_clouds w #[.slice A n c, .slice B m e] #[.slice A2 n2 c2, .slice B2 m2 e2]
  obtain ⟨p, hp⟩ : ∃ p, w.heap.size = p := ⟨_, rfl⟩
  obtain ⟨p2, hp2⟩ : ∃ p2, w.heap.size + 1 = p2 := ⟨_, rfl⟩
  rw [hp] at k1
  rw [hp2] at k2
  have HW1 := hid hw1; have HB := hid hb; have HPP := hid hp; have HPP2 := hid hp2
  have HL := hid (ocLeq_calls n c m e n2 c2 m2 e2 A B A2 B2 v v2 ds ds2 w1 (h1.keep hb) (h2.keep hb) (h3.keep hb) (h4.keep hb) hn hn2 hm hnc hnc2 hme hme2)
  have c0 := k1.cell 0 rfl; have c1 := k1.cell 1 rfl; have c3 := k2.cell 0 rfl; have c4 := k2.cell 1 rfl
  clear h1 h2 h3 h4 hw1 hb hp hp2 k1 k2
  obtain ⟨M, hM⟩ : ∃ M, leqB (v, ds) (v2, ds2) = M := ⟨_, rfl⟩
  rw [hM] at HL ⊢
  obtain ⟨b, z⟩ := M
  clear hM
  unfold cdv at HL ⊢
  go_enter Try.func34, Try.ntmps34
  go_wp2_with fail
  rw [← HW1.out, HPP2.out, HPP.out]
  go_wp2_with fail
  refine HL.out.mono ?_
  rintro x W2 ⟨rfl, hb2⟩
  have HB2 := hid (HB.out.trans (hb2.mono HB.out.size))
  clear hb2 HL c0 c1 c3 c4
  by_cases h0 : z = 0
  · subst h0
    have HE := hid (show (b == y) = (decide ((0 : Int) = 0) && (b == y)) from by simp)
    go_wp2_with fail
    go_ret
    exact ⟨ret_bool HE.out, HB2.out⟩
  · have HE := hid (show false = (decide (z = 0) && (b == y)) from by rw [decide_eq_false h0]; rfl)
    have hq : (z == 0) = false := by simpa using h0
    clear h0
    go_wp2_with fail
    go_ret
    exact ⟨ret_bool HE.out, HB2.out⟩
end Go.Proofs.Ythjflgnoeenenaa
