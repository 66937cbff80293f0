/- Contract: the reference's ID: its loop. -/
import Derived.Test.YtgbjnndebdmijaaDoorNmRefId
import Derived.Deep.RegionWith
namespace Go.Proofs.YtgbjnndebdmijaaDoor
open Go.RowKit

theorem head_at : ∀ k : Fin 7, (ByteArray.mk #[115, 104, 97, 50, 53, 54, 58])[k.val]? = headL[k.val]? := by decide
theorem run_head (k : Nat) (x : UInt8) (hx : headL[k]? = some x) (w : World) : (Instr.index 9 (.string { data := #[115, 104, 97, 50, 53, 54, 58] }) (.int .i64 (k : Int))).run Tryd.prog w = .ok (.int .u8 (x.toNat : Int)) w := by
  have hk : k < 7 := by
    rcases Nat.lt_or_ge k 7 with h | h
    · exact h
    · rw [List.getElem?_eq_none (by show 7 ≤ k; exact h)] at hx; cases hx
  have h := head_at ⟨k, hk⟩
  simp only at h
  rw [hx] at h
  have h0 : ¬ (k : Int) < 0 := by omega
  simp [Instr.index, run_underlying Tryd.underlying9, asIntOf, h]

attribute [local irreducible] wpQuiet
set_option maxHeartbeats 8000000 in
set_option maxRecDepth 100000 in
theorem ref_id (s : ByteArray) (l : List UInt8) (hl : l = s.data.toList) (hs : s.size ≤ 1099511627776) (w : World) :
    Calls Tryd.prog 6 #[.string s] w fun e w' => e = .returned (.tuple #[.agg (bcells (idRes l).1), .agg (fcells (idRes l).2)]) ∧ Below w.heap.size w w' := by
  have hlen : l.length = s.size := by rw [hl]; rfl
  have HL := hid hl; have HLEN := hid hlen
  clear hl hlen
  have hz1 := (zero_of_info info26).1
  have hz2 := (zero_of_info infoFault).1
  have k2 := ((Blk.new w 23 (bcells (zeroB 32))).alloc (.cells #[.int .i64 0, .int .i64 0] 27)).alloc (.cells (bcells (zeroB 32)) 23)
  have k3 := (Blk.new (w.alloc (.cells (bcells (zeroB 32)) 23)) 27 #[.int .i64 0, .int .i64 0]).alloc (.cells (bcells (zeroB 32)) 23)
  have k4 := Blk.new ((w.alloc (.cells (bcells (zeroB 32)) 23)).alloc (.cells #[.int .i64 0, .int .i64 0] 27)) 23 (bcells (zeroB 32))
  have b4 : Below w.heap.size w (((w.alloc (.cells (bcells (zeroB 32)) 23)).alloc (.cells #[.int .i64 0, .int .i64 0] 27)).alloc (.cells (bcells (zeroB 32)) 23)) :=
    (((Below.refl _ _).alloc (Nat.le_refl _) _).alloc (by simp) _).alloc (by simp; omega) _
  rw [size_new] at k3
  rw [size_new, size_new] at k4
  have K2 := hid k2; have K3 := hid k3; have K4 := hid k4; have B := hid b4
  clear k2 k3 k4 b4
  go_enter Tryd.func6, Tryd.ntmps6
  go_wp2_with fail
  clear hz1 hz2
  generalize ((w.alloc (.cells (bcells (zeroB 32)) 23)).alloc (.cells #[.int .i64 0, .int .i64 0] 27)).alloc (.cells (bcells (zeroB 32)) 23) = w1 at K2 K3 K4 B ⊢
  generalize hgw : w.heap.size = G at K2 K3 K4 B ⊢
  have HGW := hid hgw; clear hgw
  have EF : Hid ((Tryd.prog.info? 27).map (·.size) = some 2) := (zero_of_info infoFault).2
  have EI : Hid ((Tryd.prog.info? 23).map (·.size) = some (bcells (zeroB 32)).size) := (zero_of_info info26).2
  have K4' : Hid (Blk w1 (G + 1 + 1) 23 (bcells (id2At l (0 - 7)))) := by rw [Hid, show id2At l (0 - 7) = zeroB 32 from id2At_none l]; exact K4.out
  go_loopw [6] (fun v6 wr => ∃ k : Nat, k ≤ 71 ∧ k ≤ s.size ∧ v6 = .int .i64 (k : Int) ∧ Hid (stopAt l = scan (l.drop k) k) ∧ Hid (Below G w wr) ∧ Hid (Blk wr G 23 (bcells (zeroB 32))) ∧ Hid (Blk wr (G + 1) 27 #[.int .i64 0, .int .i64 0]) ∧ Hid (Blk wr (G + 1 + 1) 23 (bcells (id2At l (k - 7))))) (fun v6 _ => 71 - (intOf v6).toNat)
  case atStart => exact ⟨0, by omega, by omega, rfl, rfl, B, K2, K3, K4'⟩
  case round =>
    clear B K2 K3 K4 K4'
    obtain ⟨k, hk, hks, rfl, HSC, B, K2, K3, K5⟩ := hrel
    have hk0 : (0 : Int) ≤ (k : Int) := by omega
    by_cases h71 : k < 71
    · have q71 : (k : Int) < 71 := by omega
      by_cases hkl : k < s.size
      · have qkl : ¬ (s.size : Int) ≤ (k : Int) := by omega
        have qkl2 : (k : Int) < (s.size : Int) := by omega
        have qd1 : decide (s.size ≤ k) = false := by simp; omega
        have hkl2 : k < l.length := by rw [HLEN.out]; exact hkl
        obtain ⟨nb, hnb⟩ : ∃ nb, (s[k]'hkl).toNat = nb := ⟨_, rfl⟩
        have hnb2 : (l[k]'hkl2).toNat = nb := by
          have := HL.out
          subst this
          exact hnb
        have hnlt : nb < 256 := by rw [← hnb]; exact (s[k]'hkl).toNat_lt
        have HNB := hid hnb2
        clear hnb2
        cases hg : goodB k (l[k]'hkl2) with
        | true =>
          have hsc := HSC.out
          rw [scan_good hkl2 hg] at hsc
          have HSC1 := hid hsc; clear hsc
          by_cases h7 : k < 7
          · have hx := good_head h7 hg
            have hix := run_head k _ hx
            have q7 : (k : Int) < 7 := by omega
            have q7b : ¬ (7 : Int) ≤ (k : Int) := by omega
            have qd2 : decide ((7 : Int) ≤ (k : Int)) = false := by simpa using q7b
            rw [HNB.out] at hix
            have hne : ((nb : Int) != (nb : Int)) = false := by simp
            have K5N : Hid (Blk wr.drew (G + 1 + 1) 23 (bcells (id2At l (k + 1 - 7)))) := by rw [Hid, show k + 1 - 7 = k - 7 by omega]; exact K5.out
            clear hx hg HSC
            go_wp2_with fail
            refine wp_region_class (fun w' => w' = wr.drew) (by kernel_rfl) (by kernel_rfl) rfl ?_
            intro S _ at_ hS hin
            have HhS := hid hS; have Hin := hid hin; clear hS hin
            iterate 32 (refine wpQuiet_step (fun K hK => ?_); go_simp; refine hK _ ?_; clear hK K)
            refine wpQuiet_nil ?_
            rintro w' rfl
            clear HhS Hin hix
            have K2 := hid K2.out.drew; have K3 := hid K3.out.drew; have B := hid B.out.drew
            generalize wr.drew = wq at K2 K3 B K5N ⊢
            go_wp2_with fail
            go_roundw
            case rel => exact ⟨k + 1, by omega, by omega, by go_num, HSC1, B, K2, K3, K5N⟩
            case measure => simp [intOf]; omega
          · obtain ⟨_, hd0⟩ := good_digit (by omega) hg
            have q7 : ¬ (k : Int) < 7 := by omega
            have q7b : (7 : Int) ≤ (k : Int) := by omega
            have qd2 : decide ((7 : Int) ≤ (k : Int)) = true := by simpa using q7b
            have qd3 : decide ((k : Int) < 7) = false := by simpa using q7
            rw [HNB.out] at hd0
            have hd15 := (hexv_le (nb : Int)).2
            have hxx := hx_of hkl2 (by omega)
            rw [HNB.out] at hxx
            have HD := hid (refDigit nb hnlt)
            generalize hexv (nb : Int) = d at hd0 hd15 HD hxx
            obtain ⟨n, rfl⟩ : ∃ n : Nat, d = (n : Int) := ⟨d.toNat, by omega⟩
            have hn0 : ¬ (n : Int) < 0 := by omega
            have hnd : decide ((n : Int) < 0) = false := by simp
            have HXX := hid hxx
            clear hg HSC hxx
            go_wp2_with fail
            refine wp_region_class (fun w' => w' = wr.drew) (by kernel_rfl) (by kernel_rfl) rfl ?_
            intro S _ at_ hS hin
            have HhS := hid hS; have Hin := hid hin; clear hS hin
            iterate 28 (refine wpQuiet_step (fun K hK => ?_); go_simp; refine hK _ ?_; clear hK K)
            (refine wpQuiet_step (fun K hK => ?_); (refine quiet_callK rfl 16 #[.int .u8 (nb : Int)] (fun w => by go_simp) (.int .i64 (n : Int)) (fun x => (HD.out _).mono fun e w' h => ⟨h.1, x, h.2.symm⟩) ?_); go_simp; refine hK _ ?_; clear hK K)
            iterate 3 (refine wpQuiet_step (fun K hK => ?_); go_simp; refine hK _ ?_; clear hK K)
            refine wpQuiet_nil ?_
            rintro w' rfl
            clear HhS Hin
            have K2 := hid K2.out.drew; have K3 := hid K3.out.drew; have B := hid B.out.drew; have K5 := hid K5.out.drew
            generalize wr.drew = wq at K2 K3 B K5 ⊢
            have hj : (k - 7) / 2 < 32 := by omega
            have hy := id2At_get l (k - 7) _ hj
            have hylow := nib2_low l (k - 7)
            have hset := id2At_set l (k - 7) (by omega)
            generalize nib2 l (k - 7) ((k - 7) / 2) = y at hy hylow hset
            obtain ⟨j, hjj⟩ : ∃ j, (k - 7) / 2 = j := ⟨_, rfl⟩
            rw [hjj] at hj hy hset
            have c5 := K5.out.cell j (show (bcells (id2At l (k - 7)))[j]? = some (.int .u8 (y.toNat : Int)) by simp [bcells, hy, bv])
            have f5 := K5.out.frozen j
            have hj0 : (0 : Int) ≤ (j : Int) := by omega
            have hj1 : (j : Int) < 32 := by omega
            obtain ⟨m, hm⟩ : ∃ m : Nat, (k : Int) - 7 = (m : Int) := ⟨k - 7, by omega⟩
            have hm0 : (0 : Int) ≤ (m : Int) := by omega
            have hdiv : (m : Int).tdiv 2 = (j : Int) := by rw [Int.tdiv_eq_ediv_of_nonneg (by omega)]; omega
            have hdiv2 : (m : Int) / 2 = (j : Int) := by omega
            have hwj : IntKind.i64.wrap (j : Int) = (j : Int) := IntWalk.i64_in _ (by omega)
            have v1 : IntKind.u8.wrap ((y.toNat : Int) * 16) = (y.toNat : Int) * 16 := by
              have h : ((y.toNat : Int) * 16) % 256 = (y.toNat : Int) * 16 := by omega
              exact h
            have v2 : IntKind.u8.wrap (n : Int) = (n : Int) := by
              have h : (n : Int) % 256 = (n : Int) := by omega
              exact h
            have v3 : IntKind.u8.wrap ((y.toNat : Int) * 16 + (n : Int)) = (y.toNat : Int) * 16 + (n : Int) := by
              have h : ((y.toNat : Int) * 16 + (n : Int)) % 256 = (y.toNat : Int) * 16 + (n : Int) := by omega
              exact h
            have HSET := hid hset; have HYL := hid hylow
            clear hset hy hjj hylow
            go_wp2_with fail
            go_region_with ((with_reducible (refine (HD.out _).mono ?_)); rintro e w1 ⟨rfl, rfl⟩)
            all_goals
              have hv : (y.toNat : Int) * 16 + (n : Int) = ((UInt8.ofNat (y.toNat * 16 + n)).toNat : Int) := by
                rw [UInt8.toNat_ofNat']
                have := HYL.out
                omega
              rw [hv]
              have k5 := (K5.out.set_ j (.int .u8 ((UInt8.ofNat (y.toNat * 16 + n)).toNat : Int))).drew
              have hbs : (bcells (id2At l (k - 7))).setIfInBounds j (.int .u8 ((UInt8.ofNat (y.toNat * 16 + n)).toNat : Int)) = bcells (id2At l (k + 1 - 7)) := by
                have h1 := HSET.out
                rw [HXX.out, Int.toNat_natCast, show k - 7 + 1 = k + 1 - 7 by omega] at h1
                rw [← h1]
                simp [bcells, List.map_set, bv]
              rw [hbs] at k5
              have K5N := hid k5
              have K2 := hid (K2.out.far (p := ⟨G + 1 + 1, j, none⟩) (by show ¬ G = G + 1 + 1; omega) (.int .u8 ((UInt8.ofNat (y.toNat * 16 + n)).toNat : Int))).drew
              have K3 := hid (K3.out.far (p := ⟨G + 1 + 1, j, none⟩) (by show ¬ G + 1 = G + 1 + 1; omega) (.int .u8 ((UInt8.ofNat (y.toNat * 16 + n)).toNat : Int))).drew
              have B := hid (B.out.setCell (p := ⟨G + 1 + 1, j, none⟩) (by show G ≤ G + 1 + 1; omega) (.int .u8 ((UInt8.ofNat (y.toNat * 16 + n)).toNat : Int))).drew
              generalize (wq.setCell ⟨G + 1 + 1, j, none⟩ (.int .u8 ((UInt8.ofNat (y.toNat * 16 + n)).toNat : Int))).drew = wz at K5N K2 K3 B ⊢
              clear hv hbs k5 v1 v2 v3 c5 f5 hdiv hdiv2 hwj
              go_wp2_with fail
              go_roundw
              case rel => exact ⟨k + 1, by omega, by omega, by go_num, HSC1, B, K2, K3, K5N⟩
              case measure => simp [intOf]; omega
        | false =>
          have hsc := HSC.out
          rw [scan_bad hkl2 hg] at hsc
          have HST := hid hsc; clear hsc
          by_cases h7 : k < 7
          · have hlt7 : k < headL.length := by show k < 7; exact h7
            have hx : headL[k]? = some headL[k] := List.getElem?_eq_getElem hlt7
            have hbh := bad_head h7 hg hx
            generalize headL[k] = x at hx hbh
            have hix := run_head k _ hx
            have q7 : (k : Int) < 7 := by omega
            have q7b : ¬ (7 : Int) ≤ (k : Int) := by omega
            have qd2 : decide ((7 : Int) ≤ (k : Int)) = false := by simpa using q7b
            have hnx : (nb : Int) ≠ (x.toNat : Int) := fun e => hbh (UInt8.toNat_inj.1 (by rw [HNB.out]; omega))
            have hne : ((nb : Int) != (x.toNat : Int)) = true := bne_iff_ne.2 hnx
            have hne2 : ((nb : Int) == (x.toNat : Int)) = false := beq_eq_false_iff_ne.2 hnx
            clear hx hg HSC hbh hnx
            go_wp2_with fail
            refine wp_region_class (fun w' => w' = wr.drew) (by kernel_rfl) (by kernel_rfl) rfl ?_
            intro S _ at_ hS hin
            have HhS := hid hS; have Hin := hid hin; clear hS hin
            iterate 32 (refine wpQuiet_step (fun K hK => ?_); go_simp; refine hK _ ?_; clear hK K)
            refine wpQuiet_nil ?_
            rintro w' rfl
            clear HhS Hin hix hne hne2
            have K2 := hid K2.out.drew; have K3 := hid K3.out.drew; have B := hid B.out.drew
            generalize wr.drew = wq at K2 K3 B ⊢
            have HRES := hid (show idRes l = (zeroB 32, 8, (k : Int)) from (by unfold idRes; rw [HST.out, if_neg (by omega)]))
            go_wp2_with fail
            refine (refEnds 8 (k : Int) _).mono ?_
            rintro _ w4 ⟨rfl, bx⟩
            have K24 := hid (K2.out.keep bx); have K34 := hid (K3.out.keep bx); have B4 := hid (B.out.trans (bx.mono (Nat.le_of_lt K2.out.lt)))
            clear bx
            have g5 := grown_setRow w4 G (bcells (zeroB 32))
            have K25 := hid (K24.out.setRow (bcells (zeroB 32)))
            have K35 := hid (K34.out.grown g5 (by simp))
            have B5 := hid (B4.out.trans (below_of_grown g5 (Nat.le_of_lt K24.out.lt) (fun g' e => by cases e; omega)))
            have g6 := grown_setRow (w4.setRow G (bcells (zeroB 32))) (G + 1) #[.int .i64 8, .int .i64 (k : Int)]
            have K26 := hid (K25.out.grown g6 (by simp))
            have K36 := hid (K35.out.setRow #[.int .i64 8, .int .i64 (k : Int)])
            have B6 := hid (B5.out.trans (below_of_grown g6 (Nat.le_of_lt K25.out.lt) (fun g' e => by cases e; omega)))
            clear g5 g6
            go_wp2_with (first
              | (refine wpList_store_blk rfl 23 _ _ rfl G (bcells (zeroB 32)) rfl rfl 23 _ K24.out EI.out rfl (bcells_oneCell _) ?_)
              | (refine wpList_store_blk rfl 27 _ _ rfl (G + 1) #[.int .i64 8, .int .i64 (k : Int)] rfl rfl 27 _ K35.out EF.out rfl (by rfl) ?_))
            refine bodyPost_ret (v := .tuple #[.agg (bcells (zeroB 32)), .agg #[.int .i64 8, .int .i64 (k : Int)]]) (results_cell_cell rfl _ _ G (G + 1) 23 27 _ _ _ _ rfl rfl K26.out K36.out Tryd.underlying23 rfl EI.out Tryd.underlying27 rfl EF.out) rfl ⟨by rw [HRES.out]; rfl, ?_⟩
            rw [HGW.out]
            exact B6.out
          · have hd0 := bad_digit (by omega) h71 hg
            have q7 : ¬ (k : Int) < 7 := by omega
            have q7b : (7 : Int) ≤ (k : Int) := by omega
            have qd2 : decide ((7 : Int) ≤ (k : Int)) = true := by simpa using q7b
            have qd3 : decide ((k : Int) < 7) = false := by simpa using q7
            rw [HNB.out] at hd0
            have HD := hid (refDigit nb hnlt)
            rw [hd0] at HD
            clear hg HSC hd0
            go_wp2_with fail
            refine wp_region_class (fun w' => w' = wr.drew) (by kernel_rfl) (by kernel_rfl) rfl ?_
            intro S _ at_ hS hin
            have HhS := hid hS; have Hin := hid hin; clear hS hin
            iterate 28 (refine wpQuiet_step (fun K hK => ?_); go_simp; refine hK _ ?_; clear hK K)
            (refine wpQuiet_step (fun K hK => ?_); (refine quiet_callK rfl 16 #[.int .u8 (nb : Int)] (fun w => by go_simp) (.int .i64 (-1)) (fun x => (HD.out _).mono fun e w' h => ⟨h.1, x, h.2.symm⟩) ?_); go_simp; refine hK _ ?_; clear hK K)
            iterate 3 (refine wpQuiet_step (fun K hK => ?_); go_simp; refine hK _ ?_; clear hK K)
            refine wpQuiet_nil ?_
            rintro w' rfl
            clear HhS Hin
            have K2 := hid K2.out.drew; have K3 := hid K3.out.drew; have B := hid B.out.drew
            generalize wr.drew = wq at K2 K3 B ⊢
            have HRES := hid (show idRes l = (zeroB 32, 8, (k : Int)) from (by unfold idRes; rw [HST.out, if_neg (by omega)]))
            go_wp2_with fail
            refine (refEnds 8 (k : Int) _).mono ?_
            rintro _ w4 ⟨rfl, bx⟩
            have K24 := hid (K2.out.keep bx); have K34 := hid (K3.out.keep bx); have B4 := hid (B.out.trans (bx.mono (Nat.le_of_lt K2.out.lt)))
            clear bx
            have g5 := grown_setRow w4 G (bcells (zeroB 32))
            have K25 := hid (K24.out.setRow (bcells (zeroB 32)))
            have K35 := hid (K34.out.grown g5 (by simp))
            have B5 := hid (B4.out.trans (below_of_grown g5 (Nat.le_of_lt K24.out.lt) (fun g' e => by cases e; omega)))
            have g6 := grown_setRow (w4.setRow G (bcells (zeroB 32))) (G + 1) #[.int .i64 8, .int .i64 (k : Int)]
            have K26 := hid (K25.out.grown g6 (by simp))
            have K36 := hid (K35.out.setRow #[.int .i64 8, .int .i64 (k : Int)])
            have B6 := hid (B5.out.trans (below_of_grown g6 (Nat.le_of_lt K25.out.lt) (fun g' e => by cases e; omega)))
            clear g5 g6
            go_wp2_with (first
              | (refine wpList_store_blk rfl 23 _ _ rfl G (bcells (zeroB 32)) rfl rfl 23 _ K24.out EI.out rfl (bcells_oneCell _) ?_)
              | (refine wpList_store_blk rfl 27 _ _ rfl (G + 1) #[.int .i64 8, .int .i64 (k : Int)] rfl rfl 27 _ K35.out EF.out rfl (by rfl) ?_))
            refine bodyPost_ret (v := .tuple #[.agg (bcells (zeroB 32)), .agg #[.int .i64 8, .int .i64 (k : Int)]]) (results_cell_cell rfl _ _ G (G + 1) 23 27 _ _ _ _ rfl rfl K26.out K36.out Tryd.underlying23 rfl EI.out Tryd.underlying27 rfl EF.out) rfl ⟨by rw [HRES.out]; rfl, ?_⟩
            rw [HGW.out]
            exact B6.out
      · have qkl : (s.size : Int) ≤ (k : Int) := by omega
        have qd1 : decide (s.size ≤ k) = true := by simp; omega
        have hkk : k = l.length := by rw [HLEN.out]; omega
        have hst : stopAt l = k := by have := HSC.out; rw [hkk, scan_end] at this; rw [this, hkk]
        have HST := hid hst
        clear hst hkk
        go_wp2_with fail
        refine wp_region_class (fun w' => w' = wr.drew) (by kernel_rfl) (by kernel_rfl) rfl ?_
        intro S _ at_ hS hin
        have HhS := hid hS; have Hin := hid hin; clear hS hin
        iterate 32 (refine wpQuiet_step (fun K hK => ?_); go_simp; refine hK _ ?_; clear hK K)
        refine wpQuiet_nil ?_
        rintro w' rfl
        clear HhS Hin
        have K2 := hid K2.out.drew; have K3 := hid K3.out.drew; have B := hid B.out.drew
        generalize wr.drew = wq at K2 K3 B ⊢
        have HRES := hid (show idRes l = (zeroB 32, 8, (k : Int)) from (by unfold idRes; rw [HST.out, if_neg (by omega)]))
        go_wp2_with fail
        refine (refEnds 8 (k : Int) _).mono ?_
        rintro _ w4 ⟨rfl, bx⟩
        have K24 := hid (K2.out.keep bx); have K34 := hid (K3.out.keep bx); have B4 := hid (B.out.trans (bx.mono (Nat.le_of_lt K2.out.lt)))
        clear bx
        have g5 := grown_setRow w4 G (bcells (zeroB 32))
        have K25 := hid (K24.out.setRow (bcells (zeroB 32)))
        have K35 := hid (K34.out.grown g5 (by simp))
        have B5 := hid (B4.out.trans (below_of_grown g5 (Nat.le_of_lt K24.out.lt) (fun g' e => by cases e; omega)))
        have g6 := grown_setRow (w4.setRow G (bcells (zeroB 32))) (G + 1) #[.int .i64 8, .int .i64 (k : Int)]
        have K26 := hid (K25.out.grown g6 (by simp))
        have K36 := hid (K35.out.setRow #[.int .i64 8, .int .i64 (k : Int)])
        have B6 := hid (B5.out.trans (below_of_grown g6 (Nat.le_of_lt K25.out.lt) (fun g' e => by cases e; omega)))
        clear g5 g6
        go_wp2_with (first
          | (refine wpList_store_blk rfl 23 _ _ rfl G (bcells (zeroB 32)) rfl rfl 23 _ K24.out EI.out rfl (bcells_oneCell _) ?_)
          | (refine wpList_store_blk rfl 27 _ _ rfl (G + 1) #[.int .i64 8, .int .i64 (k : Int)] rfl rfl 27 _ K35.out EF.out rfl (by rfl) ?_))
        refine bodyPost_ret (v := .tuple #[.agg (bcells (zeroB 32)), .agg #[.int .i64 8, .int .i64 (k : Int)]]) (results_cell_cell rfl _ _ G (G + 1) 23 27 _ _ _ _ rfl rfl K26.out K36.out Tryd.underlying23 rfl EI.out Tryd.underlying27 rfl EF.out) rfl ⟨by rw [HRES.out]; rfl, ?_⟩
        rw [HGW.out]
        exact B6.out
    · obtain rfl : k = 71 := by omega
      have hst : stopAt l = 71 := by
        have h := HSC.out
        by_cases h1 : 71 < l.length
        · rw [scan_bad h1 (by unfold goodB; rw [if_neg (by omega), decide_eq_false (by omega)]; rfl)] at h; exact h
        · have h2 := HLEN.out
          have h3 : l.length = 71 := by omega
          rw [List.drop_of_length_le (by omega), scan] at h
          exact h
      have HST := hid hst
      clear hst HSC h71
      by_cases hlong : 71 < s.size
      · have ql : (71 : Int) < (s.size : Int) := by omega
        have HRES := hid (show idRes l = (zeroB 32, 8, 71) from (by have h := HLEN.out; unfold idRes; rw [HST.out, if_neg (by omega)]; rfl))
        go_wp2_with fail
        refine (refEnds 8 71 _).mono ?_
        rintro _ w4 ⟨rfl, bx⟩
        have K24 := hid (K2.out.keep bx); have K34 := hid (K3.out.keep bx); have B4 := hid (B.out.trans (bx.mono (Nat.le_of_lt K2.out.lt)))
        clear bx
        have g5 := grown_setRow w4 G (bcells (zeroB 32))
        have K25 := hid (K24.out.setRow (bcells (zeroB 32)))
        have K35 := hid (K34.out.grown g5 (by simp))
        have B5 := hid (B4.out.trans (below_of_grown g5 (Nat.le_of_lt K24.out.lt) (fun g' e => by cases e; omega)))
        have g6 := grown_setRow (w4.setRow G (bcells (zeroB 32))) (G + 1) #[.int .i64 8, .int .i64 71]
        have K26 := hid (K25.out.grown g6 (by simp))
        have K36 := hid (K35.out.setRow #[.int .i64 8, .int .i64 71])
        have B6 := hid (B5.out.trans (below_of_grown g6 (Nat.le_of_lt K25.out.lt) (fun g' e => by cases e; omega)))
        clear g5 g6
        go_wp2_with (first
          | (refine wpList_store_blk rfl 23 _ _ rfl G (bcells (zeroB 32)) rfl rfl 23 _ K24.out EI.out rfl (bcells_oneCell _) ?_)
          | (refine wpList_store_blk rfl 27 _ _ rfl (G + 1) #[.int .i64 8, .int .i64 71] rfl rfl 27 _ K35.out EF.out rfl (by rfl) ?_))
        refine bodyPost_ret (v := .tuple #[.agg (bcells (zeroB 32)), .agg #[.int .i64 8, .int .i64 71]]) (results_cell_cell rfl _ _ G (G + 1) 23 27 _ _ _ _ rfl rfl K26.out K36.out Tryd.underlying23 rfl EI.out Tryd.underlying27 rfl EF.out) rfl ⟨by rw [HRES.out]; rfl, ?_⟩
        rw [HGW.out]
        exact B6.out
      · have ql : ¬ (71 : Int) < (s.size : Int) := by omega
        have hres : idRes l = (idAt l 64, 0, 0) := by have h := HLEN.out; unfold idRes; rw [if_pos ⟨HST.out, by omega⟩]
        rw [← id2At_all] at hres
        have HRES := hid hres
        clear hres
        have k5 := K5.out
        rw [show 71 - 7 = 64 from rfl] at k5
        have hll := id2At_length l 64
        generalize id2At l 64 = idl at k5 hll HRES
        have K5 := hid k5
        have EI2 : Hid ((Tryd.prog.info? 23).map (·.size) = some (bcells idl).size) := by rw [Hid, bcells_size, hll]; exact (zero_of_info info26).2
        have Hsz : Hid ((bcells (zeroB 32)).size = (bcells idl).size) := by rw [Hid, bcells_size, bcells_size, hll]; rfl
        have g4 := grown_setRow wr G (bcells idl)
        have K24 := hid (K2.out.setRow (bcells idl))
        have K34 := hid (K3.out.grown g4 (by simp))
        have B4 := hid (B.out.trans (below_of_grown g4 (Nat.le_of_lt K2.out.lt) (fun g' e => by cases e; omega)))
        have g5 := grown_setRow (wr.setRow G (bcells idl)) (G + 1) #[.int .i64 0, .int .i64 0]
        have K25 := hid (K24.out.grown g5 (by simp))
        have K35 := hid (K34.out.setRow #[.int .i64 0, .int .i64 0])
        have B5 := hid (B4.out.trans (below_of_grown g5 (Nat.le_of_lt K24.out.lt) (fun g' e => by cases e; omega)))
        clear g4 g5 hll k5
        go_wp2_with (first
          | (refine wpList_load_blk rfl 23 _ rfl (G + 1 + 1) rfl 23 _ K5.out _ _ Tryd.underlying23 EI2.out ?_)
          | (refine wpList_store_blk rfl 23 _ _ rfl G (bcells idl) rfl rfl 23 _ K2.out EI2.out Hsz.out (bcells_oneCell _) ?_)
          | (refine wpList_store_blk rfl 27 _ _ rfl (G + 1) #[.int .i64 0, .int .i64 0] rfl rfl 27 _ K34.out EF.out rfl (by rfl) ?_))
        refine bodyPost_ret (v := .tuple #[.agg (bcells idl), .agg #[.int .i64 0, .int .i64 0]]) (results_cell_cell rfl _ _ G (G + 1) 23 27 _ _ _ _ rfl rfl K25.out K35.out Tryd.underlying23 rfl EI2.out Tryd.underlying27 rfl EF.out) rfl ⟨by rw [HRES.out]; rfl, ?_⟩
        rw [HGW.out]
        exact B5.out
end Go.Proofs.YtgbjnndebdmijaaDoor
