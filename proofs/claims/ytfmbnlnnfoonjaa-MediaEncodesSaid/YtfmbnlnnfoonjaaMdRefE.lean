/- Contracts of the document's side: kinds. -/
import Derived.Test.YtfmbnlnnfoonjaaMdRefW
import Derived.Test.YtfmbnlnnfoonjaaMdEnc
namespace Go.Proofs.Ytfmbnlnnfoonjaa
open Go.RowKit

theorem negZ : negB zeroD = false := by decide
theorem wrongE_eq (m : MM) : wrongE m = if kindB m = false then 20 else if (descsL m).any negB = true then 3 else if 16 < m.l.length ∨ 8 < m.u.length then 4 else 0 := by
  unfold wrongE
  by_cases hk : kindB m = false
  · rw [if_pos hk, if_pos hk]
  · rw [if_neg hk, if_neg hk]
    have : (descsL m).any negB = (negB m.c || (m.l.any negB || m.u.any negB)) := by
      have hk' : kindB m = true := by simpa using hk
      unfold kindB at hk'
      unfold descsL
      by_cases h3 : m.k = 3
      · rw [if_pos h3]; simp
      · rw [if_neg h3] at hk' ⊢
        by_cases h4 : m.k = 4
        · rw [if_pos h4, Bool.and_eq_true, eqD_iff] at hk'
          rw [hk'.1, negZ]; simp
        · rw [if_neg h4] at hk'; cases hk'
    rw [this]
theorem any_step {ds : List DD} {k : Nat} {d : DD} (hd : ds[k]? = some d) (h : (ds.take k).any negB = false) : (ds.take (k + 1)).any negB = negB d := by
  rw [List.take_add_one, hd, List.any_append, h]; simp
theorem any_mem {ds : List DD} {k : Nat} {d : DD} (hd : ds[k]? = some d) (h : negB d = true) : ds.any negB = true := List.any_eq_true.2 ⟨d, List.mem_of_getElem? hd, h⟩
set_option maxRecDepth 20000 in
set_option maxHeartbeats 4000000 in
theorem refKinds_calls (B : Nat) (m : MM) (v1 v2 : Value) (w : World) (hi : MIn w B m v1 v2) (hB : B ≤ w.heap.size) (hl1 : m.l.length ≤ 100000) (hl2 : m.u.length ≤ 100000) :
    Calls Try.prog 36 #[.agg (mcs m v1 v2).toArray] w fun e w' => e = .returned (.int .i64 (wrongE m)) ∧ Below w.heap.size w w' := by
  have hb := below_new w (.cells (mcs m v1 v2).toArray 28)
  have hk := Blk.new w 28 (mcs m v1 v2).toArray
  have h32 := hi.1
  have HSM := hid (size_man (m := m) h32 v1 v2)
  have HDS := hid (fun W (hb : Below w.heap.size w W) => refDescs_calls B m v1 v2 W (hi.keep hb) (Nat.le_trans hB hb.size) hl1 hl2)
  have H33 := hid (show ∀ d ∈ descsL m, d.id.length = 32 from by
    obtain ⟨-, A, c, A2, c2, -, -, s1, s2, -, -⟩ := hi
    intro d hd
    unfold descsL at hd
    split at hd
    · rcases List.mem_cons.1 hd with rfl | hd
      · exact h32
      · rcases List.mem_append.1 hd with hd | hd
        · exact s1.2.1 d hd
        · exact s2.2.1 d hd
    · rcases List.mem_append.1 hd with hd | hd
      · exact s1.2.1 d hd
      · exact s2.2.1 d hd)
  have HDL := hid (show (descsL m).length ≤ 300000 from by
    unfold descsL
    split
    · simp; omega
    · simp; omega)
  obtain ⟨-, A, c, A2, c2, e1, e2, -, -, -, -⟩ := hi
  have HEQ := hid (fun W => run_eq_desc m.c zeroD h32 zeroD_id W)
  have HC := hid (fun W (hW : Below (w.alloc (.cells (mcs m v1 v2).toArray 28)).heap.size (w.alloc (.cells (mcs m v1 v2).toArray 28)) W) => (⟨(hk.keep hW).cell 0 (by rw [List.getElem?_toArray]; exact mcs_0 m v1 v2), (hk.keep hW).cell 37 (by rw [List.getElem?_toArray, ← e1]; exact mcs_37 h32 v1 v2), (hk.keep hW).cell 38 (by rw [List.getElem?_toArray, ← e2]; exact mcs_38 h32 v1 v2), run_loadVar_row W w.heap.size _ _ _ (0, 0) _ (hk.keep hW) Try.underlying28 rfl HSM.out, by
    have hk2 := hk.keep hW
    rw [mcs_part] at hk2
    exact part_load hk2 (P := Try.prog) 25 (off := 2) rfl Try.underlying25 rfl (size_desc h32)⟩ : W.cell? ⟨w.heap.size, 0, none⟩ = some (.int .i64 m.k) ∧ W.cell? ⟨w.heap.size, 37, none⟩ = some (.slice A m.l.length c) ∧ W.cell? ⟨w.heap.size, 38, none⟩ = some (.slice A2 m.u.length c2) ∧ (loadVar 28 ⟨w.heap.size, 0, none⟩).run Try.prog W = .ok (.agg (mcs m v1 v2).toArray) W ∧ (loadVar 25 ⟨w.heap.size, 2, none⟩).run Try.prog W = .ok (.agg (dcs m.c).toArray) W))
  have HB := hid hb
  clear hb hk HSM h32 e1 e2
  generalize (mcs m v1 v2).toArray = cm at HC HB HDS ⊢
  have HE := hid (wrongE_eq m)
  have HKB := hid (show kindB m = if m.k = 3 then decide (m.u.length = 0) else if m.k = 4 then eqD m.c zeroD && decide (m.l.length = 0) else false from rfl)
  generalize wrongE m = E at HE ⊢
  generalize kindB m = kb at HE HKB
  generalize descsL m = ds at HE HDS H33 HDL
  generalize m.l.length = n1 at HC HE HKB hl1
  generalize m.u.length = n2 at HC HE HKB hl2
  generalize m.k = k at HC HKB
  generalize (dcs m.c).toArray = cc at HC HEQ
  generalize eqD m.c zeroD = eb at HEQ HKB
  generalize hw1 : w.alloc (.cells cm 28) = w1 at HC HB
  obtain ⟨d0, d37, d38, -, -⟩ := HC.out w1 (Below.refl _ _)
  have HRUN := hid (HC.out w1.drew (Below.refl _ _).drew).2.2.2.2
  have HLM := hid (HC.out w1.drew (Below.refl _ _).drew).2.2.2.1
  have HBD := hid HB.out.drew
  by_cases h3 : k = 3
  · subst h3
    cases eb with
    | true =>
      by_cases hu : n2 = 0
      · have hu' : ¬ (0 : Int) < (n2 : Int) := by omega
        have HE2 := hid (show E = if ds.any negB = true then 3 else if 16 < n1 ∨ 8 < n2 then 4 else 0 from by rw [HE.out, if_neg (by rw [HKB.out]; simp [*])])
        go_enter Try.func36, Try.ntmps36
        go_wp2_with fail
        go_region
        go_wp2_with (first | (refine wpList_load_run rfl 25 _ rfl _ _ rfl HRUN.out ?_) | (refine wpList_eql_agg rfl 25 _ _ _ rfl _ _ rfl rfl (by kernel_rfl) (HEQ.out _) ?_) | (refine wpList_load_run rfl 28 _ rfl _ _ rfl HLM.out ?_))
        refine (HDS.out w1.drew HBD.out).mono ?_
        rintro _ w2 ⟨v, rfl, ho, hb2⟩
        obtain ⟨Al, cl, rfl, -, hsd⟩ := ho.sds H33.out
        have HSD := hid hsd
        have HB2 := hid (show Below w1.drew.heap.size w1.drew w2 from hb2)
        have HW2 := hid (show Below w1.heap.size w1 w2 from ((Below.refl _ _).drew).trans (hb2.mono (Nat.le_refl _)))
        clear ho hb2 hsd d0 d37 d38 HRUN HLM HBD HDS hw1
        have HDN := hid (show ∀ (W : World) (k : Nat), Below w2.heap.size w2 W → k < ds.length → ∃ b off d, Al = some ⟨b, off, none⟩ ∧ ds[k]? = some d ∧ W.cell? ⟨b, off + k * 35, none⟩ = some (.int .i64 d.m) ∧ W.cell? ⟨b, off + k * 35 + 33, none⟩ = some (.int .i64 d.s) from fun W k hW hk => by
          obtain ⟨b, off, d, e, -, hd, -, h32, hc⟩ := (HSD.out.keep hW).at_ hk
          exact ⟨b, off, d, e, hd, hc 0 _ (dcs_0 d), hc 33 _ (dcs_33 h32)⟩)
        have HDLL := hid (show ds.take ds.length = ds from List.take_length)
        have hnd := HDL.out
        generalize hnn : ds.length = nd at hnd HDN HDLL HSD
        clear HSD hnn
        go_wp2_with fail
        go_loopw [7] (fun i wr => ∃ k : Nat, i = .int .i64 (k : Int) ∧ k ≤ nd ∧ Hid ((ds.take k).any negB = false) ∧ Hid (Below w2.heap.size w2 wr)) (fun i _ => nd - (intOf i).toNat)
        case atStart => exact ⟨0, rfl, Nat.zero_le _, hid (by simp), hid (Below.refl _ _)⟩
        case round =>
          obtain ⟨j, rfl, hj, HA, HW⟩ := hrel
          have HWW := hid (HB.out.trans (((HW2.out).trans (HW.out.mono HW2.out.size)).mono HB.out.size))
          by_cases hlt : j < nd
          · have hlt' : (j : Int) < (nd : Int) := by omega
            obtain ⟨b, off, d, rfl, hd, c0, c33⟩ := HDN.out _ j HW.out hlt
            have HD := hid hd
            clear hd
            by_cases hm : d.m < 0
            · obtain rfl : E = 3 := by rw [HE2.out, if_pos (any_mem HD.out (by simp [negB, hm]))]
              generalize d.m = z at hm c0
              generalize d.s = z2 at c33
              clear HE2 HD HA
              go_wp2_with fail
              go_ret
              exact ⟨rfl, HWW.out⟩
            · by_cases hs : d.s < 0
              · obtain rfl : E = 3 := by rw [HE2.out, if_pos (any_mem HD.out (by simp [negB, hs]))]
                generalize d.m = z at hm c0
                generalize d.s = z2 at hs c33
                clear HE2 HD HA
                go_wp2_with fail
                go_ret
                exact ⟨rfl, HWW.out⟩
              · have HX := hid (show (ds.take (j + 1)).any negB = false from by rw [any_step HD.out HA.out]; simp [negB, hm, hs])
                generalize d.m = z at hm c0
                generalize d.s = z2 at hs c33
                go_wp2_with fail
                go_roundw
                case rel => exact ⟨j + 1, by go_num, by omega, HX, HW⟩
                case measure => simp [intOf]; omega
          · obtain rfl : j = nd := by omega
            have hany : ds.any negB = false := by rw [← HDLL.out]; exact HA.out
            obtain ⟨-, d37, d38, -, -⟩ := HC.out _ (HW2.out.trans (HW.out.mono HW2.out.size))
            have HE3 := hid (show E = if 16 < n1 ∨ 8 < n2 then 4 else 0 from by rw [HE2.out, if_neg (by rw [hany]; simp)])
            clear hany HE2 HDN HDLL
            by_cases q1 : (16 : Int) < (n1 : Int)
            · obtain rfl : E = 4 := by rw [HE3.out, if_pos (.inl (by omega))]
              go_wp2_with fail
              go_ret
              exact ⟨rfl, HWW.out⟩
            · by_cases q2 : (8 : Int) < (n2 : Int)
              · exact absurd q2 (by omega)
              · obtain rfl : E = 0 := by rw [HE3.out, if_neg (by omega)]
                go_wp2_with fail
                go_ret
                exact ⟨rfl, HWW.out⟩
      · have hu' : (0 : Int) < (n2 : Int) := by omega
        obtain rfl : E = 20 := by rw [HE.out, if_pos (by rw [HKB.out]; simp [*])]
        go_enter Try.func36, Try.ntmps36
        go_wp2_with fail
        go_region
        go_wp2_with (first | (refine wpList_load_run rfl 25 _ rfl _ _ rfl HRUN.out ?_) | (refine wpList_eql_agg rfl 25 _ _ _ rfl _ _ rfl rfl (by kernel_rfl) (HEQ.out _) ?_) | (refine wpList_load_run rfl 28 _ rfl _ _ rfl HLM.out ?_))
        go_ret
        exact ⟨rfl, HBD.out⟩
    | false =>
      by_cases hu : n2 = 0
      · have hu' : ¬ (0 : Int) < (n2 : Int) := by omega
        have HE2 := hid (show E = if ds.any negB = true then 3 else if 16 < n1 ∨ 8 < n2 then 4 else 0 from by rw [HE.out, if_neg (by rw [HKB.out]; simp [*])])
        go_enter Try.func36, Try.ntmps36
        go_wp2_with fail
        go_region
        go_wp2_with (first | (refine wpList_load_run rfl 25 _ rfl _ _ rfl HRUN.out ?_) | (refine wpList_eql_agg rfl 25 _ _ _ rfl _ _ rfl rfl (by kernel_rfl) (HEQ.out _) ?_) | (refine wpList_load_run rfl 28 _ rfl _ _ rfl HLM.out ?_))
        refine (HDS.out w1.drew HBD.out).mono ?_
        rintro _ w2 ⟨v, rfl, ho, hb2⟩
        obtain ⟨Al, cl, rfl, -, hsd⟩ := ho.sds H33.out
        have HSD := hid hsd
        have HB2 := hid (show Below w1.drew.heap.size w1.drew w2 from hb2)
        have HW2 := hid (show Below w1.heap.size w1 w2 from ((Below.refl _ _).drew).trans (hb2.mono (Nat.le_refl _)))
        clear ho hb2 hsd d0 d37 d38 HRUN HLM HBD HDS hw1
        have HDN := hid (show ∀ (W : World) (k : Nat), Below w2.heap.size w2 W → k < ds.length → ∃ b off d, Al = some ⟨b, off, none⟩ ∧ ds[k]? = some d ∧ W.cell? ⟨b, off + k * 35, none⟩ = some (.int .i64 d.m) ∧ W.cell? ⟨b, off + k * 35 + 33, none⟩ = some (.int .i64 d.s) from fun W k hW hk => by
          obtain ⟨b, off, d, e, -, hd, -, h32, hc⟩ := (HSD.out.keep hW).at_ hk
          exact ⟨b, off, d, e, hd, hc 0 _ (dcs_0 d), hc 33 _ (dcs_33 h32)⟩)
        have HDLL := hid (show ds.take ds.length = ds from List.take_length)
        have hnd := HDL.out
        generalize hnn : ds.length = nd at hnd HDN HDLL HSD
        clear HSD hnn
        go_wp2_with fail
        go_loopw [7] (fun i wr => ∃ k : Nat, i = .int .i64 (k : Int) ∧ k ≤ nd ∧ Hid ((ds.take k).any negB = false) ∧ Hid (Below w2.heap.size w2 wr)) (fun i _ => nd - (intOf i).toNat)
        case atStart => exact ⟨0, rfl, Nat.zero_le _, hid (by simp), hid (Below.refl _ _)⟩
        case round =>
          obtain ⟨j, rfl, hj, HA, HW⟩ := hrel
          have HWW := hid (HB.out.trans (((HW2.out).trans (HW.out.mono HW2.out.size)).mono HB.out.size))
          by_cases hlt : j < nd
          · have hlt' : (j : Int) < (nd : Int) := by omega
            obtain ⟨b, off, d, rfl, hd, c0, c33⟩ := HDN.out _ j HW.out hlt
            have HD := hid hd
            clear hd
            by_cases hm : d.m < 0
            · obtain rfl : E = 3 := by rw [HE2.out, if_pos (any_mem HD.out (by simp [negB, hm]))]
              generalize d.m = z at hm c0
              generalize d.s = z2 at c33
              clear HE2 HD HA
              go_wp2_with fail
              go_ret
              exact ⟨rfl, HWW.out⟩
            · by_cases hs : d.s < 0
              · obtain rfl : E = 3 := by rw [HE2.out, if_pos (any_mem HD.out (by simp [negB, hs]))]
                generalize d.m = z at hm c0
                generalize d.s = z2 at hs c33
                clear HE2 HD HA
                go_wp2_with fail
                go_ret
                exact ⟨rfl, HWW.out⟩
              · have HX := hid (show (ds.take (j + 1)).any negB = false from by rw [any_step HD.out HA.out]; simp [negB, hm, hs])
                generalize d.m = z at hm c0
                generalize d.s = z2 at hs c33
                go_wp2_with fail
                go_roundw
                case rel => exact ⟨j + 1, by go_num, by omega, HX, HW⟩
                case measure => simp [intOf]; omega
          · obtain rfl : j = nd := by omega
            have hany : ds.any negB = false := by rw [← HDLL.out]; exact HA.out
            obtain ⟨-, d37, d38, -, -⟩ := HC.out _ (HW2.out.trans (HW.out.mono HW2.out.size))
            have HE3 := hid (show E = if 16 < n1 ∨ 8 < n2 then 4 else 0 from by rw [HE2.out, if_neg (by rw [hany]; simp)])
            clear hany HE2 HDN HDLL
            by_cases q1 : (16 : Int) < (n1 : Int)
            · obtain rfl : E = 4 := by rw [HE3.out, if_pos (.inl (by omega))]
              go_wp2_with fail
              go_ret
              exact ⟨rfl, HWW.out⟩
            · by_cases q2 : (8 : Int) < (n2 : Int)
              · exact absurd q2 (by omega)
              · obtain rfl : E = 0 := by rw [HE3.out, if_neg (by omega)]
                go_wp2_with fail
                go_ret
                exact ⟨rfl, HWW.out⟩
      · have hu' : (0 : Int) < (n2 : Int) := by omega
        obtain rfl : E = 20 := by rw [HE.out, if_pos (by rw [HKB.out]; simp [*])]
        go_enter Try.func36, Try.ntmps36
        go_wp2_with fail
        go_region
        go_wp2_with (first | (refine wpList_load_run rfl 25 _ rfl _ _ rfl HRUN.out ?_) | (refine wpList_eql_agg rfl 25 _ _ _ rfl _ _ rfl rfl (by kernel_rfl) (HEQ.out _) ?_) | (refine wpList_load_run rfl 28 _ rfl _ _ rfl HLM.out ?_))
        go_ret
        exact ⟨rfl, HBD.out⟩
  · by_cases h4 : k = 4
    · subst h4
      cases eb with
      | true =>
        by_cases hl : n1 = 0
        · have hl' : (n1 : Int) = 0 := by omega
          have HE2 := hid (show E = if ds.any negB = true then 3 else if 16 < n1 ∨ 8 < n2 then 4 else 0 from by rw [HE.out, if_neg (by rw [HKB.out]; simp [*])])
          go_enter Try.func36, Try.ntmps36
          go_wp2_with fail
          go_region
          go_wp2_with (first | (refine wpList_load_run rfl 25 _ rfl _ _ rfl HRUN.out ?_) | (refine wpList_eql_agg rfl 25 _ _ _ rfl _ _ rfl rfl (by kernel_rfl) (HEQ.out _) ?_) | (refine wpList_load_run rfl 28 _ rfl _ _ rfl HLM.out ?_))
          refine (HDS.out w1.drew HBD.out).mono ?_
          rintro _ w2 ⟨v, rfl, ho, hb2⟩
          obtain ⟨Al, cl, rfl, -, hsd⟩ := ho.sds H33.out
          have HSD := hid hsd
          have HB2 := hid (show Below w1.drew.heap.size w1.drew w2 from hb2)
          have HW2 := hid (show Below w1.heap.size w1 w2 from ((Below.refl _ _).drew).trans (hb2.mono (Nat.le_refl _)))
          clear ho hb2 hsd d0 d37 d38 HRUN HLM HBD HDS hw1
          have HDN := hid (show ∀ (W : World) (k : Nat), Below w2.heap.size w2 W → k < ds.length → ∃ b off d, Al = some ⟨b, off, none⟩ ∧ ds[k]? = some d ∧ W.cell? ⟨b, off + k * 35, none⟩ = some (.int .i64 d.m) ∧ W.cell? ⟨b, off + k * 35 + 33, none⟩ = some (.int .i64 d.s) from fun W k hW hk => by
            obtain ⟨b, off, d, e, -, hd, -, h32, hc⟩ := (HSD.out.keep hW).at_ hk
            exact ⟨b, off, d, e, hd, hc 0 _ (dcs_0 d), hc 33 _ (dcs_33 h32)⟩)
          have HDLL := hid (show ds.take ds.length = ds from List.take_length)
          have hnd := HDL.out
          generalize hnn : ds.length = nd at hnd HDN HDLL HSD
          clear HSD hnn
          go_wp2_with fail
          go_loopw [7] (fun i wr => ∃ k : Nat, i = .int .i64 (k : Int) ∧ k ≤ nd ∧ Hid ((ds.take k).any negB = false) ∧ Hid (Below w2.heap.size w2 wr)) (fun i _ => nd - (intOf i).toNat)
          case atStart => exact ⟨0, rfl, Nat.zero_le _, hid (by simp), hid (Below.refl _ _)⟩
          case round =>
            obtain ⟨j, rfl, hj, HA, HW⟩ := hrel
            have HWW := hid (HB.out.trans (((HW2.out).trans (HW.out.mono HW2.out.size)).mono HB.out.size))
            by_cases hlt : j < nd
            · have hlt' : (j : Int) < (nd : Int) := by omega
              obtain ⟨b, off, d, rfl, hd, c0, c33⟩ := HDN.out _ j HW.out hlt
              have HD := hid hd
              clear hd
              by_cases hm : d.m < 0
              · obtain rfl : E = 3 := by rw [HE2.out, if_pos (any_mem HD.out (by simp [negB, hm]))]
                generalize d.m = z at hm c0
                generalize d.s = z2 at c33
                clear HE2 HD HA
                go_wp2_with fail
                go_ret
                exact ⟨rfl, HWW.out⟩
              · by_cases hs : d.s < 0
                · obtain rfl : E = 3 := by rw [HE2.out, if_pos (any_mem HD.out (by simp [negB, hs]))]
                  generalize d.m = z at hm c0
                  generalize d.s = z2 at hs c33
                  clear HE2 HD HA
                  go_wp2_with fail
                  go_ret
                  exact ⟨rfl, HWW.out⟩
                · have HX := hid (show (ds.take (j + 1)).any negB = false from by rw [any_step HD.out HA.out]; simp [negB, hm, hs])
                  generalize d.m = z at hm c0
                  generalize d.s = z2 at hs c33
                  go_wp2_with fail
                  go_roundw
                  case rel => exact ⟨j + 1, by go_num, by omega, HX, HW⟩
                  case measure => simp [intOf]; omega
            · obtain rfl : j = nd := by omega
              have hany : ds.any negB = false := by rw [← HDLL.out]; exact HA.out
              obtain ⟨-, d37, d38, -, -⟩ := HC.out _ (HW2.out.trans (HW.out.mono HW2.out.size))
              have HE3 := hid (show E = if 16 < n1 ∨ 8 < n2 then 4 else 0 from by rw [HE2.out, if_neg (by rw [hany]; simp)])
              clear hany HE2 HDN HDLL
              by_cases q1 : (16 : Int) < (n1 : Int)
              · exact absurd q1 (by omega)
              · by_cases q2 : (8 : Int) < (n2 : Int)
                · obtain rfl : E = 4 := by rw [HE3.out, if_pos (.inr (by omega))]
                  go_wp2_with fail
                  go_ret
                  exact ⟨rfl, HWW.out⟩
                · obtain rfl : E = 0 := by rw [HE3.out, if_neg (by omega)]
                  go_wp2_with fail
                  go_ret
                  exact ⟨rfl, HWW.out⟩
        · have hl' : ¬ (n1 : Int) = 0 := by omega
          have hlb : ((n1 : Int) == 0) = false := by simpa using hl
          obtain rfl : E = 20 := by rw [HE.out, if_pos (by rw [HKB.out]; simp [*])]
          go_enter Try.func36, Try.ntmps36
          go_wp2_with fail
          go_region
          go_wp2_with (first | (refine wpList_load_run rfl 25 _ rfl _ _ rfl HRUN.out ?_) | (refine wpList_eql_agg rfl 25 _ _ _ rfl _ _ rfl rfl (by kernel_rfl) (HEQ.out _) ?_) | (refine wpList_load_run rfl 28 _ rfl _ _ rfl HLM.out ?_))
          go_ret
          exact ⟨rfl, HBD.out⟩
      | false =>
        obtain rfl : E = 20 := by rw [HE.out, if_pos (by rw [HKB.out]; simp [*])]
        go_enter Try.func36, Try.ntmps36
        go_wp2_with fail
        go_region
        go_wp2_with (first | (refine wpList_load_run rfl 25 _ rfl _ _ rfl HRUN.out ?_) | (refine wpList_eql_agg rfl 25 _ _ _ rfl _ _ rfl rfl (by kernel_rfl) (HEQ.out _) ?_) | (refine wpList_load_run rfl 28 _ rfl _ _ rfl HLM.out ?_))
        go_ret
        exact ⟨rfl, HBD.out⟩
    · cases eb with
      | true =>
        obtain rfl : E = 20 := by rw [HE.out, if_pos (by rw [HKB.out]; simp [*])]
        go_enter Try.func36, Try.ntmps36
        go_wp2_with fail
        go_region
        go_wp2_with (first | (refine wpList_load_run rfl 25 _ rfl _ _ rfl HRUN.out ?_) | (refine wpList_eql_agg rfl 25 _ _ _ rfl _ _ rfl rfl (by kernel_rfl) (HEQ.out _) ?_) | (refine wpList_load_run rfl 28 _ rfl _ _ rfl HLM.out ?_))
        go_ret
        exact ⟨rfl, HBD.out⟩
      | false =>
        obtain rfl : E = 20 := by rw [HE.out, if_pos (by rw [HKB.out]; simp [*])]
        go_enter Try.func36, Try.ntmps36
        go_wp2_with fail
        go_region
        go_wp2_with (first | (refine wpList_load_run rfl 25 _ rfl _ _ rfl HRUN.out ?_) | (refine wpList_eql_agg rfl 25 _ _ _ rfl _ _ rfl rfl (by kernel_rfl) (HEQ.out _) ?_) | (refine wpList_load_run rfl 28 _ rfl _ _ rfl HLM.out ?_))
        go_ret
        exact ⟨rfl, HBD.out⟩
end Go.Proofs.Ytfmbnlnnfoonjaa
/- Contracts of the document's side: Encode. -/
namespace Go.Proofs.Ytfmbnlnnfoonjaa
open Go.RowKit

/-- a manifest that is gone through -/
structure SM (m : MM) : Prop where
  ok : MOK m
  t : m.t.length ≤ 100000
  c : m.c.p.length ≤ 100000
  l : ∀ d ∈ m.l, d.p.length ≤ 100000
  u : ∀ d ∈ m.u, d.p.length ≤ 100000
  nl : m.l.length ≤ 100000
  nu : m.u.length ≤ 100000
def listW (ds : List DD) (s : WS) : WS := (ds.flatMap descG).foldl (putW 4096) s
theorem listW_step {ds : List DD} {k : Nat} {d : DD} (hd : ds[k]? = some d) (s : WS) : listW (ds.take (k + 1)) s = descW 4096 (listW (ds.take k) s) d := by
  unfold listW descW
  rw [List.take_add_one, hd, List.flatMap_append, List.foldl_append]
  simp
def s3W (m : MM) : WS := putW 4096 (putW 4096 (putW 4096 ⟨[], 0⟩ [numI 77]) [numI m.k]) [numI m.t.length, some m.t]
theorem encS_image (m : MM) (h : m.k = 3) : encS m = listW m.l (putW 4096 (descW 4096 (s3W m) m.c) [numI m.l.length]) := by
  unfold encS manG bodyG
  rw [if_neg (by omega)]
  unfold listG listW descW s3W
  simp only [List.foldl_cons, List.foldl_append]
theorem encS_index (m : MM) (h : m.k = 4) : encS m = listW m.u (putW 4096 (s3W m) [numI m.u.length]) := by
  unfold encS manG bodyG
  rw [if_pos h]
  unfold listG listW s3W
  simp only [List.foldl_cons]
theorem wrong_kind {m : MM} (h : wrongE m = 0) : m.k = 3 ∨ m.k = 4 := by
  have hk : kindB m = true := by
    cases hk : kindB m with
    | true => rfl
    | false => unfold wrongE at h; rw [if_pos hk] at h; cases h
  unfold kindB at hk
  by_cases h3 : m.k = 3
  · exact .inl h3
  · rw [if_neg h3] at hk
    by_cases h4 : m.k = 4
    · exact .inr h4
    · rw [if_neg h4] at hk; cases hk
theorem WrtS.go {w W W' : World} {base g lim D : Nat} {t : TypeId} {cd : Array Value} {s s' : WS} {r0 r : Option Nat} {e : Ending} (h : WrtS w base g lim D t cd s r0 r W) (hp : RwPost W base g r lim s' e W') : ∃ r', WrtS w base g lim D t cd s' r0 r' W' := by
  obtain ⟨-, r', h1, h2, h3⟩ := hp
  exact ⟨r', h.step h1 h2 h3⟩
theorem WrtS.go2 {w W W' : World} {base g lim D : Nat} {t : TypeId} {cd : Array Value} {s s' : WS} {r0 r : Option Nat} {e : Ending} (h : WrtS w base g lim D t cd s r0 r W) (hp : RwEnd W base g r lim s' e W') : ∃ r', WrtS w base g lim D t cd s' r0 r' W' := by
  obtain ⟨-, r', h1, h2, h3⟩ := hp
  exact ⟨r', h.step h1 h2 h3⟩
set_option maxRecDepth 20000 in
set_option maxHeartbeats 4000000 in
theorem refEncode_calls (B : Nat) (m : MM) (v1 v2 : Value) (w : World) (hm : SM m) (hi : MIn w B m v1 v2) (hB : B ≤ w.heap.size) :
    Calls Try.prog 12 #[.agg (mcs m v1 v2).toArray] w (EncP w (encE m) (encB m)) := by
  have hb := below_new w (.cells (mcs m v1 v2).toArray 28)
  have hk := Blk.new w 28 (mcs m v1 v2).toArray
  have hsz := size_new w (.cells (mcs m v1 v2).toArray 28)
  have h32 := hi.1
  have HSM := hid (size_man (m := m) h32 v1 v2)
  have HKD := hid (refKinds_calls B m v1 v2 (w.alloc (.cells (mcs m v1 v2).toArray 28)) (hi.keep hb) (Nat.le_trans hB hb.size) hm.nl hm.nu)
  obtain ⟨-, A, c, A2, c2, e1, e2, hs1, hs2, -, -⟩ := hi
  have HS1 := hid (hs1.keep hb); have HS2 := hid (hs2.keep hb)
  have HC := hid (fun W (hk : Blk W w.heap.size 28 (mcs m v1 v2).toArray) => (⟨hk.cell 0 (by rw [List.getElem?_toArray]; exact mcs_0 m v1 v2), hk.cell 1 (by rw [List.getElem?_toArray]; exact mcs_1 m v1 v2), hk.cell 37 (by rw [List.getElem?_toArray, ← e1]; exact mcs_37 h32 v1 v2), hk.cell 38 (by rw [List.getElem?_toArray, ← e2]; exact mcs_38 h32 v1 v2), by
    have hk2 := hk
    rw [mcs_part] at hk2
    exact part_load hk2 (P := Try.prog) 25 (off := 2) rfl Try.underlying25 rfl (size_desc h32)⟩ : W.cell? ⟨w.heap.size, 0, none⟩ = some (.int .i64 m.k) ∧ W.cell? ⟨w.heap.size, 1, none⟩ = some (.string (strB m.t)) ∧ W.cell? ⟨w.heap.size, 37, none⟩ = some (.slice A m.l.length c) ∧ W.cell? ⟨w.heap.size, 38, none⟩ = some (.slice A2 m.u.length c2) ∧ (loadVar 25 ⟨w.heap.size, 2, none⟩).run Try.prog W = .ok (.agg (dcs m.c).toArray) W))
  have HLM := hid (run_loadVar_row (P := Try.prog) _ w.heap.size _ 28 _ (0, 0) _ hk Try.underlying28 rfl HSM.out)
  have HB := hid hb; have HBK := hid hk; have HSZ := hid hsz; have H32 := hid h32; have HM := hid hm; have HBW := hid hB
  clear hb hk h32 e1 e2 hs1 hs2 hsz hm hB HSM
  generalize (mcs m v1 v2).toArray = cm at HKD HC HLM HB HBK HSZ HS1 HS2 ⊢
  generalize hw1 : w.alloc (.cells cm 28) = w1 at HKD HLM HB HBK HSZ HS1 HS2
  by_cases hE : wrongE m = 0
  · have HE := hid (show encE m = ((encS m).e : Int) from if_neg (by rw [hE]; simp))
    have HBB := hid (show encB m = if encE m = 0 then (encS m).bs else [] from rfl)
    have HKK := hid (wrong_kind hE)
    rw [hE] at HKD
    clear hE
    go_enter Try.func12, Try.ntmps12
    go_wp2_with (first | (refine wpList_load_run rfl 28 _ rfl _ _ rfl HLM.out ?_))
    refine HKD.out.mono ?_
    rintro _ w2 ⟨rfl, hb2⟩
    have HB2 := hid hb2
    clear hb2 HKD HLM hw1
    go_wp2_with fail
    refine (refNew_calls 4096 w2 (by omega)).mono ?_
    rintro _ w3 ⟨g, rfl, hw3, hb3⟩
    have HG := hid (show w2.heap.size ≤ g from (hw3.fp_lt g (by rw [mem_fp]; exact .inl rfl)).1)
    have HB13 := hid (HB2.out.trans (hb3.mono HB2.out.size))
    have T0 := hid (show WrtS w3 w2.heap.size g 4096 w.heap.size 28 cm ⟨[], 0⟩ none none w3 from ⟨hw3, HBK.out.keep HB13.out, (fun hm => by
      rw [mem_fp] at hm
      rcases hm with e | e
      · have := HG.out; have := HB2.out.size; have := HSZ.out; omega
      · cases e), Chg.refl _ _, Moved.refl _ _⟩)
    have HBE := hid (HB.out.trans (HB13.out.mono HB.out.size))
    have HSK1 := hid (fun W (hc : Chg (fp g none) w3 W) => (HS1.out.keep HB13.out).chg hc (fun b hb => by
      rw [mem_fp] at hb
      rcases hb with e | e
      · have := HG.out; have := HB2.out.size; have := HBW.out; have := HSZ.out; omega
      · cases e))
    have HSK2 := hid (fun W (hc : Chg (fp g none) w3 W) => (HS2.out.keep HB13.out).chg hc (fun b hb => by
      rw [mem_fp] at hb
      rcases hb with e | e
      · have := HG.out; have := HB2.out.size; have := HBW.out; have := HSZ.out; omega
      · cases e))
    have HBF := hid (fun W (hc : Chg (fp g none) w3 W) => (show Below w.heap.size w W from HBE.out.trans (hc.below (fun b hb => by
      rw [mem_fp] at hb
      rcases hb with e | e
      · have := HG.out; have := HB2.out.size; have := HSZ.out; omega
      · cases e) HBE.out.size)))
    clear hw3 hb3 HB2 HB13 HBK HS1 HS2 HB HBE
    go_wp2_with fail
    refine (refWNum_calls _ g none 4096 _ w3 77 (by omega) T0.out.rw).mono ?_
    rintro _ w4 hp
    obtain rfl := hp.ret
    obtain ⟨r1, t1⟩ := T0.out.go hp
    have T1 := hid t1
    clear hp t1 T0
    obtain ⟨b0, -, -, -, -⟩ := HC.out w4 T1.out.blk
    go_wp2_with fail
    refine (refWNum_calls _ g r1 4096 _ w4 m.k HM.out.ok.2.2.2.2.1 T1.out.rw).mono ?_
    rintro _ w5 hp
    obtain rfl := hp.ret
    obtain ⟨r2, t2⟩ := T1.out.go hp
    have T2 := hid t2
    clear hp t2 T1 b0
    obtain ⟨-, b1, -, -, -⟩ := HC.out w5 T2.out.blk
    go_wp2_with fail
    refine (refWText_calls _ g r2 4096 _ w5 m.t (by have := HM.out.t; omega) T2.out.rw).mono ?_
    rintro _ w6 hp
    obtain rfl := hp.ret
    obtain ⟨r3, t3⟩ := T2.out.go hp
    have T3 := hid (show WrtS w3 w2.heap.size g 4096 w.heap.size 28 cm (s3W m) none r3 w6 from t3)
    clear hp t3 T2 b1
    obtain ⟨b0, -, b37, b38, hrd⟩ := HC.out w6 T3.out.blk
    have HRD := hid hrd
    have HES : Hid (∀ S, S = encS m → encE m = (S.e : Int) ∧ encB m = if S.e = 0 then S.bs else []) := hid (by
      rintro _ rfl
      refine ⟨HE.out, ?_⟩
      rw [HBB.out, HE.out]
      by_cases h0 : (encS m).e = 0
      · rw [if_pos h0, if_pos (by omega)]
      · rw [if_neg h0, if_neg (by omega)])
    have HGDL := hid (show ∀ d ∈ m.l, DOK d ∧ d.p.length ≤ 100000 from fun d hd => ⟨HM.out.ok.2.2.2.2.2.1 d hd, HM.out.l d hd⟩)
    have HGDU := hid (show ∀ d ∈ m.u, DOK d ∧ d.p.length ≤ 100000 from fun d hd => ⟨HM.out.ok.2.2.2.2.2.2 d hd, HM.out.u d hd⟩)
    have HNLU := hid (show m.l.length ≤ 100000 ∧ m.u.length ≤ 100000 from ⟨HM.out.nl, HM.out.nu⟩)
    clear hrd HE HBB
    by_cases h3 : m.k = 3
    · rw [h3] at b0
      have HS := hid (encS_image m h3)
      have hc0 := HM.out.ok.1
      have hc1 := HM.out.c
      go_wp2_with (first | (refine wpList_load_run rfl 25 _ rfl _ _ rfl HRD.out ?_))
      refine (refWrites_calls _ g r3 4096 _ m.c w6 T3.out.rw hc0 hc1).mono ?_
      rintro _ w7 hp
      obtain rfl := hp.1
      obtain ⟨r4, t4⟩ := T3.out.go2 hp
      have T4 := hid t4
      clear hp t4 T3 b0 b37 b38 HRD hc0 hc1
      obtain ⟨-, -, b37, -, -⟩ := HC.out w7 T4.out.blk
      have HLN := hid (show m.l.take m.l.length = m.l from List.take_length)
      have hnl := HNLU.out.1
      generalize hds : m.l = ds at b37 HS HGDL HSK1 HLN hnl HC
      generalize hnn : ds.length = nd at b37 HS HSK1 HLN hnl HC
      have HNN := hid hnn
      clear hnn hds
      go_wp2_with fail
      refine (refWNum_calls _ g r4 4096 _ w7 (nd : Int) (by omega) T4.out.rw).mono ?_
      rintro _ w8 hp
      obtain rfl := hp.ret
      obtain ⟨r5, t5⟩ := T4.out.go hp
      have T5 := hid t5
      clear hp t5 T4 b37
      generalize hs5 : putW 4096 (descW 4096 (s3W m) m.c) [numI (nd : Int)] = s5 at T5 HS ⊢
      clear hs5
      generalize (s5.e : Int) = e5
      go_wp2_with fail
      go_loopw [8] (fun i wr => ∃ (k : Nat) (r : Option Nat), i = .int .i64 (k : Int) ∧ k ≤ nd ∧ Hid (WrtS w3 w2.heap.size g 4096 w.heap.size 28 cm (listW (ds.take k) s5) none r wr)) (fun i _ => nd - (intOf i).toNat)
      case atStart => exact ⟨0, r5, rfl, Nat.zero_le _, T5⟩
      case round =>
        clear T5
        obtain ⟨j, r, rfl, hj, TK⟩ := hrel
        by_cases hlt : j < nd
        · have hlt' : (j : Int) < (nd : Int) := by omega
          obtain ⟨b, off, d, hA, -, hd, hdm, h32d, hcc⟩ := (HSK1.out _ TK.out.chg).at_ hlt
          subst hA
          obtain ⟨gd1, gd2⟩ := HGDL.out d hdm
          have HRL := hid (show (loadVar 25 ⟨b, off + j * 35, none⟩).run Try.prog wr = .ok (.agg (dcs d).toArray) wr from run_load_desc h32d hcc)
          have HWR := hid (refWrites_calls _ g r 4096 _ d wr TK.out.rw gd1 gd2)
          have HST := hid (listW_step hd s5)
          clear hd hdm h32d hcc gd1 gd2
          generalize (dcs d).toArray = cd at HRL HWR
          go_wp2_with (first | (refine wpList_load_run rfl 25 _ rfl _ _ rfl HRL.out ?_))
          refine HWR.out.mono ?_
          rintro _ w9 hp
          obtain rfl := hp.1
          obtain ⟨r6, t6⟩ := TK.out.go2 hp
          have T6 := hid (show WrtS w3 w2.heap.size g 4096 w.heap.size 28 cm (listW (ds.take (j + 1)) s5) none r6 w9 from by rw [HST.out]; exact t6)
          clear hp t6 TK HRL HWR
          go_wp2_with fail
          go_roundw
          case rel => exact ⟨j + 1, r6, by go_num, by omega, T6⟩
          case measure => simp [intOf]; omega
        · obtain rfl : j = nd := by omega
          rw [HLN.out] at TK
          obtain ⟨q1, q2⟩ := HES.out _ HS.out.symm
          have HQ1 := hid q1; have HQ2 := hid q2
          have HFIN := hid (HBF.out _ TK.out.chg)
          clear q1 q2 HES HS HC HSK1 HBF
          generalize listW ds s5 = S at TK HQ1 HQ2
          by_cases h0 : S.e = 0
          · rw [h0] at HQ1 HQ2
            rw [if_pos rfl] at HQ2
            go_wp2_with fail
            refine (refDone_open _ g r 4096 S _ TK.out.rw h0).mono ?_
            rintro _ w9 ⟨v, rfl, ho, hb9⟩
            have HO := hid (Own.lower ho HFIN.out.size)
            have HB9 := hid (HFIN.out.trans (hb9.mono HFIN.out.size))
            clear ho hb9 TK
            go_wp2_with fail
            go_ret2
            exact ⟨v, by rw [HQ1.out]; rfl, by rw [HQ2.out]; exact HO.out, HB9.out⟩
          · rw [if_neg h0] at HQ2
            have h0' : ¬ (S.e : Int) = 0 := by omega
            have HDN := hid (refDone_failed _ g r 4096 S _ TK.out.rw h0)
            generalize (S.e : Int) = se at HQ1 HDN
            go_wp2_with fail
            refine HDN.out.mono ?_
            rintro _ w9 ⟨rfl, hb9⟩
            have HB9 := hid (HFIN.out.trans (hb9.mono HFIN.out.size))
            clear hb9 TK HDN
            go_wp2_with fail
            go_ret2
            exact ⟨.slice none 0 0, by rw [HQ1.out]; rfl, by rw [HQ2.out]; exact Own.nil _ _ _, HB9.out⟩
    · have h4 : m.k = 4 := by rcases HKK.out with e | e; exact absurd e h3; exact e
      rw [h4] at b0
      have HS := hid (encS_index m h4)
      have T4 := T3
      have HLN := hid (show m.u.take m.u.length = m.u from List.take_length)
      have hnl := HNLU.out.2
      have HGDL := HGDU
      have HSK1 := HSK2
      clear h3 HRD T3 HGDU HSK2
      generalize hds : m.u = ds at b38 HS HGDL HSK1 HLN hnl HC
      generalize hnn : ds.length = nd at b38 HS HSK1 HLN hnl HC
      have HNN := hid hnn
      clear hnn hds
      go_wp2_with fail
      refine (refWNum_calls _ g r3 4096 _ w6 (nd : Int) (by omega) T4.out.rw).mono ?_
      rintro _ w8 hp
      obtain rfl := hp.ret
      obtain ⟨r5, t5⟩ := T4.out.go hp
      have T5 := hid t5
      clear hp t5 T4 b37 b38 b0
      generalize hs5 : putW 4096 (s3W m) [numI (nd : Int)] = s5 at T5 HS ⊢
      clear hs5
      generalize (s5.e : Int) = e5
      go_wp2_with fail
      go_loopw [8] (fun i wr => ∃ (k : Nat) (r : Option Nat), i = .int .i64 (k : Int) ∧ k ≤ nd ∧ Hid (WrtS w3 w2.heap.size g 4096 w.heap.size 28 cm (listW (ds.take k) s5) none r wr)) (fun i _ => nd - (intOf i).toNat)
      case atStart => exact ⟨0, r5, rfl, Nat.zero_le _, T5⟩
      case round =>
        clear T5
        obtain ⟨j, r, rfl, hj, TK⟩ := hrel
        by_cases hlt : j < nd
        · have hlt' : (j : Int) < (nd : Int) := by omega
          obtain ⟨b, off, d, hA, -, hd, hdm, h32d, hcc⟩ := (HSK1.out _ TK.out.chg).at_ hlt
          subst hA
          obtain ⟨gd1, gd2⟩ := HGDL.out d hdm
          have HRL := hid (show (loadVar 25 ⟨b, off + j * 35, none⟩).run Try.prog wr = .ok (.agg (dcs d).toArray) wr from run_load_desc h32d hcc)
          have HWR := hid (refWrites_calls _ g r 4096 _ d wr TK.out.rw gd1 gd2)
          have HST := hid (listW_step hd s5)
          clear hd hdm h32d hcc gd1 gd2
          generalize (dcs d).toArray = cd at HRL HWR
          go_wp2_with (first | (refine wpList_load_run rfl 25 _ rfl _ _ rfl HRL.out ?_))
          refine HWR.out.mono ?_
          rintro _ w9 hp
          obtain rfl := hp.1
          obtain ⟨r6, t6⟩ := TK.out.go2 hp
          have T6 := hid (show WrtS w3 w2.heap.size g 4096 w.heap.size 28 cm (listW (ds.take (j + 1)) s5) none r6 w9 from by rw [HST.out]; exact t6)
          clear hp t6 TK HRL HWR
          go_wp2_with fail
          go_roundw
          case rel => exact ⟨j + 1, r6, by go_num, by omega, T6⟩
          case measure => simp [intOf]; omega
        · obtain rfl : j = nd := by omega
          rw [HLN.out] at TK
          obtain ⟨q1, q2⟩ := HES.out _ HS.out.symm
          have HQ1 := hid q1; have HQ2 := hid q2
          have HFIN := hid (HBF.out _ TK.out.chg)
          clear q1 q2 HES HS HC HSK1 HBF
          generalize listW ds s5 = S at TK HQ1 HQ2
          by_cases h0 : S.e = 0
          · rw [h0] at HQ1 HQ2
            rw [if_pos rfl] at HQ2
            go_wp2_with fail
            refine (refDone_open _ g r 4096 S _ TK.out.rw h0).mono ?_
            rintro _ w9 ⟨v, rfl, ho, hb9⟩
            have HO := hid (Own.lower ho HFIN.out.size)
            have HB9 := hid (HFIN.out.trans (hb9.mono HFIN.out.size))
            clear ho hb9 TK
            go_wp2_with fail
            go_ret2
            exact ⟨v, by rw [HQ1.out]; rfl, by rw [HQ2.out]; exact HO.out, HB9.out⟩
          · rw [if_neg h0] at HQ2
            have h0' : ¬ (S.e : Int) = 0 := by omega
            have HDN := hid (refDone_failed _ g r 4096 S _ TK.out.rw h0)
            generalize (S.e : Int) = se at HQ1 HDN
            go_wp2_with fail
            refine HDN.out.mono ?_
            rintro _ w9 ⟨rfl, hb9⟩
            have HB9 := hid (HFIN.out.trans (hb9.mono HFIN.out.size))
            clear hb9 TK HDN
            go_wp2_with fail
            go_ret2
            exact ⟨.slice none 0 0, by rw [HQ1.out]; rfl, by rw [HQ2.out]; exact Own.nil _ _ _, HB9.out⟩
  · have HE := hid (show encE m = wrongE m from if_pos hE)
    have HBB := hid (show encB m = [] from if_neg (by rw [HE.out]; exact hE))
    generalize wrongE m = E at HKD HE hE
    clear HC HS1 HS2 HM
    go_enter Try.func12, Try.ntmps12
    go_wp2_with (first | (refine wpList_load_run rfl 28 _ rfl _ _ rfl HLM.out ?_))
    refine HKD.out.mono ?_
    rintro _ w2 ⟨rfl, hb2⟩
    have HB2 := hid (HB.out.trans (hb2.mono HB.out.size))
    clear hb2 HKD HLM hw1
    go_wp2_with fail
    go_ret2
    exact ⟨.slice none 0 0, by rw [HE.out]; rfl, by rw [HBB.out]; exact Own.nil _ _ _, HB2.out⟩
end Go.Proofs.Ytfmbnlnnfoonjaa
