/- Contract: a sector of an area, read. -/
import Derived.Test.YtiejndkchcljdaaLgMath
import Derived.Test.YtiejndkchcljdaaLgVal
import Derived.Test.YtiejndkchcljdaaLgList
namespace Go.Proofs.Ytiejndkchcljdaa
open Go.RowKit

theorem three_new (w : World) (c1 c2 c3 : Array Value) (t1 t2 t3 : TypeId) : ∃ W, W = ((w.alloc (.cells c1 t1)).alloc (.cells c2 t2)).alloc (.cells c3 t3) ∧ Blk W w.heap.size t1 c1 ∧ Blk W (w.heap.size + 1) t2 c2 ∧ Blk W (w.heap.size + 1 + 1) t3 c3 ∧ Below w.heap.size w W := by
  have s1 := size_new w (.cells c1 t1)
  have s2 := size_new (w.alloc (.cells c1 t1)) (.cells c2 t2)
  have b1 := below_new w (.cells c1 t1)
  have b2 := below_new (w.alloc (.cells c1 t1)) (.cells c2 t2)
  have b3 := below_new ((w.alloc (.cells c1 t1)).alloc (.cells c2 t2)) (.cells c3 t3)
  have k1 := ((Blk.new w t1 c1).keep b2).keep b3
  have k2 := (Blk.new (w.alloc (.cells c1 t1)) t2 c2).keep b3
  have k3 := Blk.new ((w.alloc (.cells c1 t1)).alloc (.cells c2 t2)) t3 c3
  rw [s1] at k2 b2
  rw [s2, s1] at k3 b3
  exact ⟨_, rfl, k1, k2, k3, (b1.trans (b2.mono (by omega))).trans (b3.mono (by omega))⟩
section
variable (base g : Nat) (F : List Nat) (s : DS) (w : World)
set_option maxRecDepth 20000 in
set_option maxHeartbeats 4000000 in
theorem read_calls (f t gd : Int) (i x : Nat) (h : DevB w base F g s) (ho : s.out = false) (hx : f + (i : Int) = (x : Int)) (hxn : x < s.n) :
    Calls Try.prog 80 #[.pointer (some ⟨g, 0, none⟩), arv ⟨f, t, gd⟩, .int .i64 (i : Int)] w fun e w' => e = .returned (.agg (bcs (secAt s.now x)).toArray) ∧ Below w.heap.size w w' := by
  have hnb := h.ok.nb
  have hsum : IntKind.i64.wrap (f + (i : Int)) = (x : Int) := by rw [hx]; exact IntWalk.i64_in _ (by omega)
  have h64 : (secAt s.now x).length = 64 := secAt_length h.ok.n1 hxn
  have HR := hid (fun W (hW : Below w.heap.size w W) => show Calls Try.prog 47 #[.pointer (some ⟨g, 0, none⟩), .int .i64 (x : Int)] W (AskPost W (secAt s.now x) 0) from by
    have h1 := dRead_calls base g F s W (x : Int) (h.keep hW)
    have hh : hasB s.n (x : Int) = true := by simp [hasB]; omega
    have e1 : readB s (x : Int) = secAt s.now x := by unfold readB; rw [if_neg (by simp [ho]), if_pos hh, Int.toNat_natCast]
    have e2 : readE s (x : Int) = 0 := by unfold readE; rw [if_neg (by simp [ho]), if_pos hh]
    rw [e1, e2] at h1
    exact h1)
  clear h ho hxn hnb
  generalize secAt s.now x = L at HR h64 ⊢
  unfold arv
  dsimp only
  obtain ⟨W3, hW3, kA, k6, k7, hB⟩ := three_new w #[.int .i64 f, .int .i64 t, .int .i64 gd] ns0.toArray ns0.toArray 33 88 88
  have s1 := size_new w (.cells #[.int .i64 f, .int .i64 t, .int .i64 gd] 33)
  have s2 := size_new (w.alloc (.cells #[.int .i64 f, .int .i64 t, .int .i64 gd] 33)) (.cells ns0.toArray 88)
  rw [s1] at s2
  have HW3 := hid hW3; have S1 := hid s1; have S2 := hid s2
  have HK := hid (kA.cell 0 rfl); have K6 := hid k6; have K7 := hid k7; have HB := hid hB
  clear hW3 kA k6 k7 hB s1 s2 hx
  go_enter Try.func80, Try.ntmps80
  go_wp2_with (refine wpList_alloc_blk rfl 88 rfl _ zero_sec ?_)
  rw [← HW3.out]
  generalize hge : w.heap.size = g0 at K6 K7 HB ⊢
  clear HK S1 S2 HW3
  refine (HR.out W3 (by rw [hge]; exact HB.out)).mono ?_
  rintro _ w1 ⟨v, rfl, h1, h2⟩
  obtain ⟨A2, c2, rfl, _, hs2, hlt2⟩ := h1.sb
  rw [h64] at hs2
  have k6 := K6.out.keep h2
  have k7 := K7.out.keep h2
  have hb := HB.out.trans (h2.mono (by have := HB.out.size; omega))
  have hsrc : 0 < (bcs L).length → ∃ ad, A2 = some ad ∧ ∀ j v, (bcs L)[j]? = some v → w1.cell? (ad.add j) = some v := fun _ => by
    obtain ⟨b, off, e, _, hc⟩ := hs2.2 (by omega)
    refine ⟨_, e, fun j v hv => ?_⟩
    simp only [bcs, List.getElem?_map] at hv
    obtain ⟨x, hx, rfl⟩ := Option.map_eq_some_iff.1 hv
    rw [Addr.add_lit]
    exact hc j x hx
  have Hsrc := hid hsrc; have K6 := hid k6; have K7 := hid k7; have HB := hid hb
  have hlen : (bcs L).length = Nat.min 64 64 := by rw [bcs_length, h64]; rfl
  have hfit : 0 + (bcs L).length ≤ ns0.length := by rw [bcs_length, h64]; decide
  have h64' : L.length = 64 := h64
  have hE : splice ns0 0 (bcs L) = bcs L := by
    unfold splice
    rw [List.take_zero, List.nil_append, List.drop_of_length_le (by rw [bcs_length, h64]; decide), List.append_nil]
  have HE := hid hE
  rw [h64]
  clear hsrc k6 k7 hb h1 h2 hs2 hlt2 HR hE
  have hk := K7.out
  have hbb : Below (g0 + 1 + 1) w1 w1 := Below.refl _ _
  go_wp2_with (refine wpList_copy_splice rfl (.tmp 19) (.tmp 20) 34 34 rfl 5 Try.underlying34 info_u8 (some ⟨g0 + 1 + 1, 0, none⟩) A2 64 64 64 c2 rfl rfl (g0 + 1 + 1) 0 ns0 88 hk (bcs L) hlen (fun hp => ⟨rfl, Hsrc.out hp⟩) hfit (bcs_oneCell _) (g0 + 1 + 1) w1 hbb (Nat.le_refl _) ?_)
  clear hk hbb hfit hlen Hsrc
  intro w2 HG2 hB2
  rw [HE.out] at HG2
  have hk7 := hid (show Blk w2 (g0 + 1 + 1) 88 (bcs L).toArray from HG2.out)
  have hk6 := hid (K6.out.keepB hB2 (Nat.lt_succ_self _))
  have hB := hid (HB.out.trans (hB2.mono (by omega)))
  clear HG2 hB2 K6 K7 HB HE
  have Hsz := hid (show (Try.prog.info? 88).map (·.size) = some (bcs L).toArray.size from by rw [size_sec]; simp [bcs, h64])
  have Hold := hid (show ns0.toArray.size = (bcs L).toArray.size from by simp [bcs, h64, ns0])
  have H1c := hid (show (bcs L).toArray.toList.all (·.oneCell') = true from by simp only [List.all_eq_true]; exact bcs_oneCell L)
  clear h64 h64'
  go_wp2_with (first
    | (refine wpList_load_blk rfl 88 _ rfl (g0 + 1 + 1) rfl 88 _ hk7.out 64 5 Try.underlying88 Hsz.out ?_)
    | (refine wpList_store_blk rfl 88 _ _ rfl (g0 + 1) _ rfl rfl 88 _ hk6.out Hsz.out Hold.out H1c.out ?_))
  refine bodyPost_ret (v := .agg (bcs L).toArray) (results_cell_row rfl _ _ (g0 + 1) 88 _ (0, 0) _ rfl (hk6.out.setRow _) Try.underlying88 rfl Hsz.out) rfl ⟨rfl, ?_⟩
  exact hB.out.trans (below_of_grown (grown_setRow w2 _ _) (by have := hk6.out.lt; omega) (fun g' e => by cases e; exact Nat.le_succ _))
end
end Go.Proofs.Ytiejndkchcljdaa
/- Contract: what an area contains, read sector by sector. -/
namespace Go.Proofs.Ytiejndkchcljdaa
open Go.RowKit

def secsOf (s : DS) (f : Nat) (i : Nat) : List UInt8 := secAt s.now (f + i)
section
variable (base g : Nat) (F : List Nat) (s : DS) (w : World)
set_option maxRecDepth 20000 in
set_option maxHeartbeats 8000000 in
theorem contents_calls (f n gen : Nat) (h : DevB w base F g s) (ho : s.out = false) (hf : f + n ≤ s.n) (hg : gen < 4294967296) :
    Calls Try.prog 65 #[.pointer (some ⟨g, 0, none⟩), arv ⟨(f : Int), ((f + n : Nat) : Int), (gen : Int)⟩] w fun e w' => ∃ v vs, e = .returned (.tuple #[v, .int .i64 ((scanL gen (secsOf s f) n 0 [] [] 0).2 : Int)]) ∧ Recs w' w.heap.size v (scanL gen (secsOf s f) n 0 [] [] 0).1 vs ∧ Below w.heap.size w w' := by
  have hn16 : n ≤ 65536 := by have := h.ok.nb; omega
  have h64 : ∀ k, k < n → (secsOf s f k).length = 64 := fun k hk => secAt_length h.ok.n1 (by omega)
  have RD := hid (fun W (k : Nat) (hk : k < n) (hW : Below w.heap.size w W) => show Calls Try.prog 80 #[.pointer (some ⟨g, 0, none⟩), arv ⟨(f : Int), ((f + n : Nat) : Int), (gen : Int)⟩, .int .i64 (k : Int)] W fun e w' => e = .returned (.agg (bcs (secsOf s f k)).toArray) ∧ Below W.heap.size W w' from
    read_calls base g F s W (f : Int) ((f + n : Nat) : Int) (gen : Int) k (f + k) (h.keep hW) ho (by omega) (by omega))
  have HC := hid (fun W => count_calls (f : Int) ((f + n : Nat) : Int) (gen : Int) W (IntWalk.i64_in _ (by have := h.ok.nb; omega)))
  have hcn : ((f + n : Nat) : Int) - (f : Int) = (n : Int) := by omega
  rw [hcn] at HC
  clear h ho hf
  generalize secsOf s f = sec at RD h64 ⊢
  have hR := hid (rfl : scanL gen sec n 0 [] [] 0 = scanL gen sec n 0 [] [] 0)
  generalize hRe : scanL gen sec n 0 [] [] 0 = R at hR ⊢
  have HR := hid hRe
  clear hR hRe
  have kA := Blk.new w 33 #[.int .i64 (f : Int), .int .i64 ((f + n : Nat) : Int), .int .i64 (gen : Int)]
  have bA := below_new w (.cells #[.int .i64 (f : Int), .int .i64 ((f + n : Nat) : Int), .int .i64 (gen : Int)] 33)
  have KA := hid kA; have BA := hid bA
  clear kA bA
  generalize ((f + n : Nat) : Int) = tt at RD HC hcn KA BA ⊢
  unfold arv at RD HC ⊢
  dsimp only at RD HC ⊢
  have HLD := hid (fun W (hW : Blk W w.heap.size 33 #[.int .i64 (f : Int), .int .i64 tt, .int .i64 (gen : Int)]) => (⟨hW.cell 0 rfl, hW.cell 1 rfl, hW.cell 2 rfl⟩ : W.cell? ⟨w.heap.size, 0, none⟩ = some (.int .i64 (f : Int)) ∧ W.cell? ⟨w.heap.size, 1, none⟩ = some (.int .i64 tt) ∧ W.cell? ⟨w.heap.size, 2, none⟩ = some (.int .i64 (gen : Int))))
  go_enter Try.func65, Try.ntmps65
  obtain ⟨c0, c1, c2⟩ := HLD.out _ KA.out
  go_wp2_with fail
  clear c0 c1 c2
  generalize w.alloc (.cells #[.int .i64 (f : Int), .int .i64 tt, .int .i64 (gen : Int)] 33) = wA at KA BA ⊢
  obtain ⟨c0, c1, c2⟩ := HLD.out _ KA.out
  go_step3
  go_wp2_with fail
  go_step3
  go_wp2_with fail
  refine (HC.out _).mono ?_
  rintro _ w1 ⟨rfl, hb1⟩
  have BW := hid (BA.out.trans (hb1.mono BA.out.size)); have KA1 := hid (KA.out.keep hb1)
  clear c0 c1 c2 hb1 HC
  go_wp2_with fail
  go_loopw [4, 5, 6, 11] (fun v4 v5 v6 v11 wr => ∃ (k e : Nat) (rec : List UInt8) (recs : List (List UInt8)) (vs : List Value), k ≤ n ∧ v11 = .int .i64 (k : Int) ∧ v5 = .int .i64 (e : Int) ∧ e ≤ n ∧ rec.length ≤ 49 * k ∧ recs.length ≤ k ∧ Hid (Own wr (w.heap.size + 1) 5 v6 rec.length rec) ∧ Hid (Recs wr (w.heap.size + 1) v4 recs vs) ∧ Hid (farOf v4 vs v6.ownBlock) ∧ Hid (Below w.heap.size w wr) ∧ Hid (Blk wr w.heap.size 33 #[.int .i64 (f : Int), .int .i64 tt, .int .i64 (gen : Int)]) ∧ Hid (scanL gen sec (n - k) k rec recs e = R))
    (fun _ _ _ i _ => n - (intOf i).toNat)
  case atStart => exact ⟨0, 0, [], [], [], Nat.zero_le _, rfl, rfl, Nat.zero_le _, by simp, by simp, hid (Own.nil _ _ _), hid (Recs.nil _ _), hid (far_none _ _), BW, KA1, HR⟩
  case round =>
    clear BW KA1 HR
    obtain ⟨k, e, rec, recs, vs, hk, rfl, rfl, he, hrl, hrn, HO, HL, HF, HB, HA, HR⟩ := hrel
    by_cases hlt : k < n
    · have hlt' : (k : Int) < (n : Int) := by omega
      obtain ⟨c0, c1, c2⟩ := HLD.out _ HA.out
      have hS := h64 k hlt
      have HD := hid (RD.out wr k hlt HB.out)
      have hnk : n - k = (n - (k + 1)) + 1 := by omega
      rw [hnk] at HR
      go_wp2_with fail
      refine HD.out.mono ?_
      rintro _ w2 ⟨rfl, hb2⟩
      have HO := hid (HO.out.keep hb2); have HL := hid (HL.out.keep hb2); have HB := hid (HB.out.trans (hb2.mono HB.out.size)); have HA := hid (HA.out.keep hb2)
      clear hb2 HD c0 c1 c2 RD h64 hnk
      have HG6 := hid HO.out.block
      have hbw2 : w.heap.size < w2.heap.size := HA.out.lt
      have NS := hid (new_set w2 88 ns0.toArray (bcs (sec k)).toArray)
      have hbn := Blk.new w2 88 ns0.toArray
      have Hsz := hid (show (Try.prog.info? 88).map (·.size) = some (bcs (sec k)).toArray.size from by rw [size_sec]; simp [bcs, hS])
      have Hold := hid (show ns0.toArray.size = (bcs (sec k)).toArray.size from by simp [bcs, hS, ns0])
      have H1c := hid (show (bcs (sec k)).toArray.toList.all (·.oneCell') = true from by simp only [List.all_eq_true]; exact bcs_oneCell (sec k))
      have c2 := ((HA.out.keep NS.out.1).cell 2 rfl)
      go_wp2_with (first
        | (refine wpList_alloc_blk rfl 88 rfl _ zero_sec ?_)
        | (refine wpList_store_blk rfl 88 _ _ rfl w2.heap.size _ rfl rfl 88 _ hbn Hsz.out Hold.out H1c.out ?_))
      clear c2 hbn
      have hb3 := NS.out.1
      have k3 := NS.out.2
      clear NS Hsz Hold H1c
      generalize hw3 : (w2.alloc (.cells ns0.toArray 88)).setRow w2.heap.size (bcs (sec k)).toArray = w3 at hb3 k3
      have HV := hid (secValid_calls w2.heap.size (sec k) w3 gen k hg (by omega) k3 hS)
      have HO := hid (HO.out.keep hb3); have HL := hid (HL.out.keep hb3); have HB := hid (HB.out.trans (hb3.mono HB.out.size)); have HA := hid (HA.out.keep hb3)
      generalize w2.heap.size = g8 at HG6 hbw2 hb3 k3 hw3 HV ⊢
      clear hw3
      refine HV.out.mono ?_
      rintro _ w4 ⟨rfl, hb4⟩
      have k4 := k3.keep hb4
      have HO := hid (HO.out.keep hb4); have HL := hid (HL.out.keep hb4); have HB := hid (HB.out.trans (hb4.mono HB.out.size)); have HA := hid (HA.out.keep hb4); have K4 := hid k4
      clear hb3 k3 hb4 k4 HV
      have HK := hid (kind_calls g8 (sec k) w4 K4.out hS)
      have HBG := hid (begins_calls (kindL (sec k)) w4)
      have HEN := hid (fun W => ends_calls (kindL (sec k)) W)
      have hdec : ((k : Int) == (e : Int)) = decide (k = e) := by
        rw [Bool.eq_iff_iff]; simp; omega
      cases hv : validB gen k (sec k) with
      | false =>
        have HRE := hid (show (recs, e) = R from by have := HR.out; rw [scan_stop hv] at this; exact this)
        have HRF := hid (show (e : Int) = (R.2 : Int) from by rw [← HRE.out])
        clear HG6 HO HF HA HR HK HBG HEN K4
        go_wp2_with fail
        rw [Exit.noGoto_ret]
        go_ret2
        refine ⟨_, vs, ?_, (show Recs _ _ _ R.1 vs from by rw [← HRE.out]; exact HL.out.lower (Nat.le_succ _)), HB.out⟩
        rw [← HRF.out]; rfl
      | true =>
        have hn49 := allows_size (valid_allows hv)
        cases hq : (beginsB (kindL (sec k)) == ((k : Int) == (e : Int))) with
        | false =>
          have HRE := hid (show (recs, e) = R from by
            have := HR.out
            rw [scan_succ, if_neg (by rintro ⟨-, h2⟩; rw [hdec, h2] at hq; simp at hq)] at this
            exact this)
          have HRF := hid (show (e : Int) = (R.2 : Int) from by rw [← HRE.out])
          clear HG6 HO HF HA HR HEN K4 hdec
          go_wp2_with fail
          refine HK.out.mono ?_
          rintro _ _ ⟨rfl, rfl⟩
          go_wp2_with fail
          refine HBG.out.mono ?_
          rintro _ _ ⟨rfl, rfl⟩
          go_wp2_with fail
          rw [Exit.noGoto_ret]
          go_ret2
          refine ⟨_, vs, ?_, (show Recs _ _ _ R.1 vs from by rw [← HRE.out]; exact HL.out.lower (Nat.le_succ _)), HB.out⟩
          rw [← HRF.out]; rfl
        | true =>
          have HR1 := hid (show (if endsB (kindL (sec k)) = true then (if 1048576 < (rec ++ partL (sec k)).length then (recs, e) else scanL gen sec (n - (k + 1)) (k + 1) [] (recs ++ [rec ++ partL (sec k)]) (k + 1)) else scanL gen sec (n - (k + 1)) (k + 1) (rec ++ partL (sec k)) recs e) = R from by
            have := HR.out
            rw [scan_succ, if_pos ⟨hv, by rw [hdec] at hq; exact eq_of_beq hq⟩] at this
            exact this)
          have HP := hid (part_calls g8 (sec k) w4 K4.out hS hn49)
          have hpl : (partL (sec k)).length = sizeL (sec k) := by unfold partL; simp; omega
          clear HR hdec
          go_wp2_with fail
          refine HK.out.mono ?_
          rintro _ _ ⟨rfl, rfl⟩
          go_wp2_with fail
          refine HBG.out.mono ?_
          rintro _ _ ⟨rfl, rfl⟩
          go_wp2_with fail
          refine HP.out.mono ?_
          rintro _ w5 ⟨rfl, hb5⟩
          have HO5 := hid (HO.out.keep hb5); have HL5 := hid (HL.out.keep hb5); have HB5 := hid (HB.out.trans (hb5.mono HB.out.size)); have HA5 := hid (HA.out.keep hb5); have K5 := hid (K4.out.keep hb5)
          clear hb5 HP HO HL HB HA K4
          go_wp2_with (at_builtin; refine Held.go ?_)
          refine wpList_append_bytes _ rfl _ _ 34 rfl 5 Try.underlying34 info5' (w.heap.size + 1) _ rec.length rec rfl HO5.out _ (some ⟨g8, 14, none⟩) (sizeL (sec k)) 50 (partL (sec k)) rfl (sb_blk K5.out 14 (sizeL (sec k)) (partL (sec k)) rfl hpl) (by omega) (by have := HA5.out.lt; omega) ?_
          intro v6 w6 h6 hg6 hm6
          have hl6 : (rec ++ partL (sec k)).length = rec.length + sizeL (sec k) := by rw [List.length_append, hpl]
          have HF6 := hid (far_moved HL5.out HF.out hm6)
          have HL6 := hid (HL5.out.grown hg6 HF.out)
          have HB6 := hid (HB5.out.trans (below_of_grown hg6 HB5.out.size (fun b e => by have := (HG6.out b e).1; omega)))
          have HA6 := hid (HA5.out.grown hg6 (fun e => by have := (HG6.out _ e).1; omega))
          have K6 := hid (K5.out.grown hg6 (fun e => by have := (HG6.out _ e).2; omega))
          have hv6 : ∀ b, v6.ownBlock = some b → b < w6.heap.size := fun b hb => (h6.block b hb).2
          have HV6 := hid hv6
          rw [← hl6] at h6
          have HO6 := hid h6
          have hl7 : (rec ++ partL (sec k)).length ≤ 49 * (k + 1) := by omega
          generalize rec ++ partL (sec k) = rec2 at HO6 HR1 hl7
          clear h6 hg6 hm6 hl6 HO5 HL5 HB5 HA5 K5 HF HG6 hpl hrl hv6 HK HBG
          have HK6 := hid (kind_calls g8 (sec k) w6 K6.out hS)
          clear K6
          go_wp2_with fail
          refine HK6.out.mono ?_
          rintro _ _ ⟨rfl, rfl⟩
          go_wp2_with fail
          refine (HEN.out _).mono ?_
          rintro _ _ ⟨rfl, rfl⟩
          cases hen : endsB (kindL (sec k)) with
          | false =>
            have HR2 := hid (show scanL gen sec (n - (k + 1)) (k + 1) rec2 recs e = R from by have := HR1.out; rw [if_neg (by simp [hen])] at this; exact this)
            clear HR1 HEN HK6 hen
            go_wp2_with fail
            go_roundw
            case rel => exact ⟨k + 1, e, rec2, recs, vs, by omega, by go_num, rfl, he, hl7, by omega, HO6, HL6, HF6, HB6, HA6, HR2⟩
            case measure => simp [intOf]; omega
          | true =>
            obtain ⟨A6, c6, rfl, -⟩ := HO6.out.sb
            by_cases hlong : 1048576 < rec2.length
            · have HRE := hid (show (recs, e) = R from by have := HR1.out; rw [if_pos hen, if_pos hlong] at this; exact this)
              have HRF := hid (show (e : Int) = (R.2 : Int) from by rw [← HRE.out])
              have hlong' : (1048576 : Int) < (rec2.length : Int) := by omega
              clear HO6 HA6 HF6 HR1 HEN HK6 hen
              go_wp2_with fail
              rw [Exit.noGoto_ret]
              go_ret2
              refine ⟨_, vs, ?_, (show Recs _ _ _ R.1 vs from by rw [← HRE.out]; exact HL6.out.lower (Nat.le_succ _)), HB6.out⟩
              rw [← HRF.out]; rfl
            · have HR2 := hid (show scanL gen sec (n - (k + 1)) (k + 1) [] (recs ++ [rec2]) (k + 1) = R from by have := HR1.out; rw [if_pos hen, if_neg hlong] at this; exact this)
              have hlong' : ¬ (1048576 : Int) < (rec2.length : Int) := by omega
              clear HR1 HEN HK6 hen
              go_wp2_with (at_builtin; refine Held.go ?_)
              have hbn := below_new w6 (.cells #[Value.slice A6 rec2.length c6] 34)
              have hone := cell_one_new w6 (Value.slice A6 rec2.length c6) 34
              generalize w6.alloc (.cells #[Value.slice A6 rec2.length c6] 34) = w7 at hbn hone ⊢
              have HO7 := hid (HO6.out.keep hbn); have HL7 := hid (HL6.out.keep hbn); have HB7 := hid (HB6.out.trans (hbn.mono HB6.out.size)); have HA7 := hid (HA6.out.keep hbn)
              obtain ⟨i0, hi, hz0, hz1, hz2⟩ := info_parts info_row
              refine wpList_append_own_at w7 rfl _ _ 50 rfl (w.heap.size + 1) 34 i0 _ 1 24 Try.underlying50 hi hz0 hz1 hz2 rfl (by omega) _ recs.length vs rfl HL7.out.row ⟨w6.heap.size, 0, none⟩ 1 1 [Value.slice A6 rec2.length c6] rfl rfl hone (by simp [Value.oneCell']) (by simp [maxLen]; omega) (by omega) (by have := HA7.out.lt; omega) ?_
              intro v8 w8 h8 hg8 _ hm8
              have HL8 := hid (HL7.out.push HO7.out HF6.out h8 hg8 (hm8.imp id (fun h => ⟨_, h, Nat.le_refl _⟩)))
              have HB8 := hid (HB7.out.trans (below_of_grown hg8 HB7.out.size (fun b e => by have := (HL7.out.lt b (.inl e)).1; omega)))
              have HA8 := hid (HA7.out.grown hg8 (fun e => by have := (HL7.out.lt _ (.inl e)).1; omega))
              clear h8 hg8 hm8 HO7 HL7 HB7 HA7 hone hbn hi hz0 hz1 hz2 HO6 HL6 HB6 HA6 HF6 HV6
              have hk1 : IntKind.i64.wrap ((k : Int) + 1) = ((k + 1 : Nat) : Int) := by rw [IntWalk.i64_in _ (by omega)]; omega
              go_wp2_with fail
              go_roundw
              case rel => exact ⟨k + 1, k + 1, [], recs ++ [rec2], _, by omega, by go_num, by go_num, by omega, by simp, by simp; omega, hid (Own.nil _ _ _), HL8, hid (far_none _ _), HB8, HA8, HR2⟩
              case measure => simp [intOf]; omega
    · obtain rfl : k = n := by omega
      have HRE := hid (show (recs, e) = R from by have := HR.out; rw [Nat.sub_self] at this; exact this)
      have HRF := hid (show (e : Int) = (R.2 : Int) from by rw [← HRE.out])
      clear HO HF HA HR RD
      go_wp2_with fail
      rw [Exit.noGoto_ret]
      go_ret2
      refine ⟨_, vs, ?_, (show Recs _ _ _ R.1 vs from by rw [← HRE.out]; exact HL.out.lower (Nat.le_succ _)), HB.out⟩
      rw [← HRF.out]; rfl
end
/-- what Scan answers -/
def scanE (s : DS) (a : AR) : Nat := if checkE s.n a = 0 then (if s.out = true then 22 else 0) else checkE s.n a
def scanR (s : DS) (a : AR) : List (List UInt8) × Nat := if checkE s.n a = 0 ∧ s.out = false then scanL a.g.toNat (secsOf s a.a.toNat) (a.b - a.a).toNat 0 [] [] 0 else ([], 0)
theorem check_ok {n : Nat} {a : AR} (h : checkE n a = 0) : arOK n a := by
  unfold checkE at h
  by_cases h0 : n = 0
  · rw [if_pos h0] at h; cases h
  · rw [if_neg h0] at h
    by_cases h1 : arOK n a
    · exact h1
    · rw [if_neg h1] at h; cases h
section
variable (base g : Nat) (F : List Nat) (s : DS) (w : World)
set_option maxRecDepth 20000 in
set_option maxHeartbeats 4000000 in
theorem scan_calls (a : AR) (h : DevB w base F g s) :
    Calls Try.prog 30 #[.pointer (some ⟨g, 0, none⟩), arv a] w fun e w' => ∃ v vs, e = .returned (.tuple #[v, .int .i64 ((scanR s a).2 : Int), .int .i64 (scanE s a : Int)]) ∧ Recs w' w.heap.size v (scanR s a).1 vs ∧ Below w.heap.size w w' := by
  have HCK := hid (fun W (hW : Below w.heap.size w W) => check_calls base g F s W a (h.keep hW))
  have HOU := hid (fun W (hW : Below w.heap.size w W) => dOut_calls base g F s W (h.keep hW))
  have HCO := hid (fun W (hW : Below w.heap.size w W) (hc : checkE s.n a = 0) (ho : s.out = false) => show Calls Try.prog 65 #[.pointer (some ⟨g, 0, none⟩), arv a] W fun e w' => ∃ v vs, e = .returned (.tuple #[v, .int .i64 ((scanR s a).2 : Int)]) ∧ Recs w' W.heap.size v (scanR s a).1 vs ∧ Below W.heap.size W w' from by
    have hk := check_ok hc
    have e1 : scanR s a = scanL a.g.toNat (secsOf s a.a.toNat) (a.b - a.a).toNat 0 [] [] 0 := if_pos ⟨hc, ho⟩
    obtain ⟨x, y, z⟩ := a
    obtain ⟨k1, k2, k3, k4, k5⟩ := hk
    dsimp only at k1 k2 k3 k4 k5 e1 ⊢
    have := contents_calls base g F s W x.toNat (y - x).toNat z.toNat (h.keep hW) ho (by omega) (by omega)
    rw [e1]
    rw [show ((x.toNat : Nat) : Int) = x by omega, show ((x.toNat + (y - x).toNat : Nat) : Int) = y by omega, show ((z.toNat : Nat) : Int) = z by omega] at this
    exact this)
  have HE := hid (show scanE s a = if checkE s.n a = 0 then (if s.out = true then 22 else 0) else checkE s.n a from rfl)
  have HN := hid (show ¬ (checkE s.n a = 0 ∧ s.out = false) → scanR s a = ([], 0) from fun h => if_neg h)
  obtain ⟨a0, a1, a2⟩ := a
  unfold arv at HCK HCO ⊢
  dsimp only at HCK HCO ⊢
  clear h
  have kA := Blk.new w 33 #[.int .i64 a0, .int .i64 a1, .int .i64 a2]
  have bA := below_new w (.cells #[.int .i64 a0, .int .i64 a1, .int .i64 a2] 33)
  have c0 := kA.cell 0 rfl
  have c1 := kA.cell 1 rfl
  have c2 := kA.cell 2 rfl
  have KA := hid kA; have BA := hid bA
  clear kA bA
  generalize scanR s ⟨a0, a1, a2⟩ = R at HCO HN ⊢
  generalize scanE s ⟨a0, a1, a2⟩ = E at HE ⊢
  generalize checkE s.n ⟨a0, a1, a2⟩ = C at HCK HCO HE HN
  generalize s.out = O at HOU HCO HE HN
  go_enter Try.func30, Try.ntmps30
  go_wp2_with fail
  refine (HCK.out _ BA.out).mono ?_
  rintro _ w1 ⟨rfl, hb1⟩
  have BW := hid (BA.out.trans (hb1.mono BA.out.size)); have K1 := hid (KA.out.keep hb1)
  clear c0 c1 c2 hb1 HCK
  by_cases hC : C = 0
  · subst hC
    cases O with
    | true =>
      go_wp2_with fail
      refine (HOU.out _ BW.out).mono ?_
      rintro _ _ ⟨rfl, rfl⟩
      have HR := HN.out (by simp)
      subst HR
      have HE' := HE.out
      simp only [if_true] at HE'
      subst HE'
      clear HE HN HCO HOU K1
      go_wp2_with fail
      go_ret3
      exact ⟨_, rfl, ⟨[], Recs.nil _ _⟩, BW.out⟩
    | false =>
      have HE' := HE.out
      simp only [if_true, Bool.false_eq_true, if_false] at HE'
      subst HE'
      clear HE HN
      have HC1 := hid (HCO.out w1 BW.out rfl rfl)
      have c0 := K1.out.cell 0 rfl
      have c1 := K1.out.cell 1 rfl
      have c2 := K1.out.cell 2 rfl
      clear HCO
      go_wp2_with fail
      refine (HOU.out _ BW.out).mono ?_
      rintro _ _ ⟨rfl, rfl⟩
      clear HOU K1
      go_wp2_with fail
      refine HC1.out.mono ?_
      rintro _ w2 ⟨v, vs, rfl, hr, hb2⟩
      have HR := hid (hr.lower BW.out.size); have HB := hid (BW.out.trans (hb2.mono BW.out.size))
      clear hr hb2 c0 c1 c2 HC1
      go_wp2_with fail
      go_ret3
      first | exact ⟨_, vs, rfl, HR.out, HB.out⟩ | exact ⟨_, rfl, ⟨vs, HR.out⟩, HB.out⟩
  · have HR := HN.out (fun h => hC h.1)
    subst HR
    have HE' := HE.out
    rw [if_neg hC] at HE'
    have hC' : ¬ (C : Int) = 0 := by omega
    subst HE'
    clear HE HN HCO HOU K1
    go_wp2_with fail
    go_ret3
    exact ⟨_, rfl, ⟨[], Recs.nil _ _⟩, BW.out⟩
end
end Go.Proofs.Ytiejndkchcljdaa
