/- The law DeviceFlush, walked. -/
import Derived.Test.YtjenafbkalokoaaDvTri
namespace Go.Proofs.Ytjenafbkalokoaa
open Go.RowKit

theorem DevB.lower {w : World} {base base' g : Nat} {F : List Nat} {s : DS} (h : DevB w base F g s) (hle : base' ≤ base) : DevB w base' F g s := by
  obtain ⟨a, m, A, c, q, h, h2, h3, h4⟩ := h
  exact ⟨a, m, A, c, q, { hd := h.hd, now := h.now, img := h.img, row := row_lower h.row hle, fz := h.fz, ga := h.ga, gm := h.gm, am := h.am, rs := h.rs, qs := fun f hf => by have := h.qs f hf; exact ⟨this.1, this.2.1, this.2.2.1, Nat.le_trans hle this.2.2.2.1, this.2.2.2.2⟩, hg := Nat.le_trans hle h.hg, ha := Nat.le_trans hle h.ha, hm := Nat.le_trans hle h.hm }, h2, h3, fun b hb => ⟨Nat.le_trans hle (h4 b hb).1, (h4 b hb).2⟩⟩
theorem cB_val (k : Int) (h0 : 0 ≤ k) (h : k < 256) : Value.int .u8 k = .int .u8 ((cB k.toNat).toNat : Int) := by
  have : ((cB k.toNat).toNat : Int) = k := by
    simp [cB, UInt8.toNat_ofNat']
    omega
  rw [this]
/-- a row of truth values of the law's own -/
def OB (w : World) (base : Nat) (ab n : Nat) (bs : List Bool) : Prop := w.ownsRow base 4 1 (.slice (some ⟨ab, 0, none⟩) n n) n (bs.map Value.bool)
theorem OB.of_block {w w' : World} {base ab n : Nat} {bs : List Bool} (h : OB w base ab n bs) (hw : w'.heap[ab]? = w.heap[ab]?) : OB w' base ab n bs := by
  rcases h with ⟨h1, ⟨h2, -⟩ | ⟨g', cap, cur, hv, hb, hlt, r⟩⟩
  · cases h2
  · have e1 : g' = ab := by injection hv with h _ _; injection h with h; injection h with h; exact h.symm
    subst e1
    exact ⟨h1, .inr ⟨g', cap, cur, hv, hb, hw.trans hlt, r⟩⟩
theorem OB.kb {w : World} {base ab n : Nat} {bs : List Bool} (h : OB w base ab n bs) : KB w (some ⟨ab, 0, none⟩) n bs :=
  ⟨by have := h.1; simpa using this, fun _ => ⟨ab, 0, rfl, fun j x hj => by
    have := World.ownsRow.cells h (g := ab) rfl j (.bool x) (by simp [hj])
    simpa [Addr.add_lit] using this⟩⟩
def allB (n k : Nat) : List Bool := List.replicate k true ++ List.replicate (n - k) false
theorem allB_next (n k : Nat) (h : k < n) : (allB n k).set k true = allB n (k + 1) := by
  have e : List.replicate (n - k) false = false :: List.replicate (n - (k + 1)) false := by rw [show n - k = (n - (k + 1)) + 1 by omega, List.replicate_succ]
  simp only [allB, e]
  rw [List.set_append_right _ _ (by simp)]
  simp only [List.length_replicate, Nat.sub_self, List.set_cons_zero]
  rw [List.replicate_succ', List.append_assoc]; rfl
theorem infoB : (Try.prog.info? 4).map (fun i => (i.zero, i.size, i.bytes)) = some (some (.bool false), 1, 1) := by kernel_rfl
set_option maxRecDepth 20000 in
theorem flush_long (z : Int) (A1 : Option Addr) (n1 c1 : Nat) (w : World) (h : 30 < n1) :
    Calls Try.prog 7 #[.slice A1 n1 c1, .int .i64 z] w fun e w' => e = .returned (.bool true) ∧ Below w.heap.size w w' := by
  go_enter Try.func7, Try.ntmps7
  go_wp2_with fail
  refine (known_calls w).mono ?_
  rintro _ w1 ⟨rfl, hb⟩
  have HB := hid hb
  clear hb
  go_wp2_with fail
  go_ret
  exact ⟨rfl, HB.out⟩
set_option maxHeartbeats 8000000 in
set_option maxRecDepth 20000 in
theorem flush_short (z : Int) (A1 : Option Addr) (n1 c1 : Nat) (since : List Int) (w : World) (h1 : n1 ≤ 30) (hsi : SI w A1 n1 since) :
    Calls Try.prog 7 #[.slice A1 n1 c1, .int .i64 z] w fun e w' => e = .returned (.bool true) ∧ Below w.heap.size w w' := by
  have z1 := Int.emod_nonneg z (show (40 : Int) ≠ 0 by omega)
  have z2 := Int.emod_lt_of_pos z (show (0 : Int) < 40 by omega)
  obtain ⟨f, hm⟩ : ∃ m : Nat, z % 40 = (m : Int) := ⟨(z % 40).toNat, by omega⟩
  have hf : f < 40 := by omega
  have HM := hid hm
  have HSI := hid hsi
  clear hm z1 z2 hsi
  have n30 : ¬ 30 < n1 := by omega
  go_enter Try.func7, Try.ntmps7
  go_wp2_with fail
  refine (known_calls w).mono ?_
  rintro _ w1 ⟨rfl, hb⟩
  have HB := hid hb
  clear hb
  go_wp2_with fail
  refine (pick_calls z 40 w1 (by omega) (by omega)).mono ?_
  rintro _ _ ⟨rfl, rfl⟩
  rw [HM.out]
  go_wp2_with fail
  refine (new_calls 6 w1 (by omega) (by omega)).mono ?_
  rintro _ w2 ⟨ga, Fa, rfl, hd, hb⟩
  have HA := hid (hd.lower HB.out.size); have HB2 := hid (HB.out.trans (hb.mono HB.out.size))
  have SA := hid (fun x (hx : x ∈ Fa) => (hd.lt x hx).2)
  clear hd hb HB
  go_wp2_with fail
  refine (new_calls 6 w2 (by omega) (by omega)).mono ?_
  rintro _ w3 ⟨gb, Fb, rfl, hd, hb⟩
  have HA3 := hid (HA.out.keep hb); have HBd := hid (hd.lower HB2.out.size); have HB3 := hid (HB2.out.trans (hb.mono HB2.out.size))
  have SB1 := hid (fun x (hx : x ∈ Fb) => hd.lt x hx)
  have Z23 := hid hb.size
  clear hd hb HB2 HA
  go_wp2_with fail
  refine (new_calls 6 w3 (by omega) (by omega)).mono ?_
  rintro _ w4 ⟨gc, Fc, rfl, hd, hb⟩
  have HA4 := hid (HA3.out.keep hb); have HB4 := hid (HBd.out.keep hb); have HC4 := hid (hd.lower HB3.out.size); have HW4 := hid (HB3.out.trans (hb.mono HB3.out.size))
  have SC := hid (fun x (hx : x ∈ Fc) => hd.lt x hx)
  have Z34 := hid hb.size
  clear hd hb HB3 HA3 HBd
  go_wp2_with fail
  have HFE := hid (show ((fuseE (startS 6) (f : Int) : Nat) : Int) = 0 from by unfold fuseE; rw [if_neg (by simp [startS]), if_neg (by omega)]; rfl)
  refine (dFuse_calls w.heap.size gc Fc (startS 6) w4 (f : Int) HW4.out.size HC4.out).mono ?_
  rintro _ w5 ⟨rfl, Fc', hd, hc, hn⟩
  rw [HFE.out]
  have HA5 := hid (HA4.out.chg hc (fun x hx hm => by have := SA.out x hx; have := (SC.out x hm).1; have := Z23.out; omega))
  have HB5 := hid (HB4.out.chg hc (fun x hx hm => by have := (SB1.out x hx).2; have := (SC.out x hm).1; omega))
  have HC5 := hid hd
  have HW5 := hid (HW4.out.trans (hc.below (fun x hx => by have := (HC4.out.lt x hx).1; exact this) HW4.out.size))
  have SC5 := hid (fun x (hx : x ∈ Fc') => show w3.heap.size ≤ x from by
    rcases hn x hx with h | h
    · exact (SC.out x h).1
    · have := Z34.out; omega)
  have HQC := hid (qc_start f (by omega))
  generalize fuseS (startS 6) (f : Int) = sc0 at HC5 HQC
  clear hd hc hn HA4 HB4 HC4 HW4 SC Z34 HFE
  obtain ⟨ib, hib, hzb, hsb, hbb⟩ := info_parts infoB
  go_wp2_with (at_make; refine Held.go ?_)
  refine wpList_make_full w5 rfl _ _ 33 rfl w.heap.size 4 ib (.bool false) 1 (by kernel_rfl) hib hzb hsb .i64 .i64 (n1 : Int) (n1 : Int) n1 rfl rfl rfl rfl (by rw [hbb]; omega) (by simp [maxLen]; omega) HW5.out.size ?_
  intro w6 ho hg
  have hb6 := below_of_grown hg (Nat.le_refl _) (fun g e => by cases e)
  have hlt6 := (World.ownsRow.lt ho w5.heap.size rfl).2
  have HO := hid (show OB w6 w.heap.size w5.heap.size n1 (allB n1 0) from by
    have : (madeCells (Value.bool false).cells (n1 * 1)).toList = (allB n1 0).map Value.bool := by
      rw [show (Value.bool false).cells = #[Value.bool false] from rfl, toList_madeCells_one, Nat.mul_one]
      simp [allB]
    rw [this] at ho
    exact ho)
  have HT := hid (show Tri w w6 w5.heap.size ga (startS 6) gb (startS 6) gc sc0 from
    ⟨HW5.out.trans (hb6.mono HW5.out.size), hlt6, HW5.out.size, Fa, Fb, Fc', ⟨HA5.out.keep hb6, HB5.out.keep hb6, HC5.out.keep hb6⟩, fun x hx hm => by have := SA.out x hx; have := (SB1.out x hm).1; omega, fun x hx hm => by have := (SB1.out x hx).2; have := SC5.out x hm; omega, fun x hx hm => by have := SC5.out x hx; have := SA.out x hm; have := Z23.out; omega,
      fun hm => by have := (HA5.out.lt _ hm).2; omega, fun hm => by have := (HB5.out.lt _ hm).2; omega, fun hm => by have := (HC5.out.lt _ hm).2; omega⟩)
  generalize w5.heap.size = ab at HO HT ⊢
  clear ho hg hb6 hlt6 hib hzb hsb hbb HA5 HB5 HC5 HW5 SA SB1 SC5 Z23 n30
  have HQA := hid qa_start
  go_wp2_with fail
  go_loopw [13, 14] (fun i _ wr => ∃ (k : Nat) (s sc : DS), k ≤ n1 ∧ i = .int .i64 (k : Int) ∧ Hid (QA k s) ∧ Hid (QC f k sc) ∧ Hid (Tri w wr ab ga s gb s gc sc) ∧ Hid (OB wr w.heap.size ab n1 (allB n1 k))) (fun i _ _ => n1 - (intOf i).toNat)
  case atStart => exact ⟨0, _, _, Nat.zero_le _, rfl, HQA, HQC, HT, HO⟩
  case round =>
    clear HQA HQC HT HO
    obtain ⟨k, s, sc, hk, rfl, HQA, HQC, HT, HO⟩ := hrel
    by_cases hlt : k < n1
    · obtain ⟨b1, o1, z1, rfl, hz, hcell⟩ := (HSI.out.keep HT.out.1).at_ hlt
      obtain ⟨at_, hat⟩ : ∃ a : Nat, a = (z1 % 6).toNat := ⟨_, rfl⟩
      have hm0 := Int.emod_nonneg z1 (show (6 : Int) ≠ 0 by omega)
      have hm1 := Int.emod_lt_of_pos z1 (show (0 : Int) < 6 by omega)
      have ha6 : at_ < 6 := by omega
      have HAT := hid (show z1 % 6 = (at_ : Int) from by omega)
      obtain ⟨q1, q2⟩ := qa_next HQA.out ha6 (cB (k + 1))
      obtain ⟨r1, r2⟩ := qc_next HQC.out ha6 (cB (k + 1))
      have HEA := hid (show okB (writeE s at_ 64) = true from by rw [q2]; rfl)
      have HQA2 := hid q1; have HQC2 := hid r1; have HECD := hid r2
      have HF := hid (HQA.out.plain.ok (by rw [HQA.out.len]; omega))
      have HFC := hid (show fuseOK sc from ⟨fun x hx => by have := HQC.out.fz x hx; omega, by have := HQC.out.len; omega⟩)
      have HW := hid (cB_val ((k : Int) + 1) (by omega) (by omega))
      have HKE := hid (show cB ((k : Int) + 1).toNat = cB (k + 1) from by congr 1)
      rw [HKE.out] at HW
      have hix : ∀ W, (Instr.indexAt 33 (.slice (some ⟨ab, 0, none⟩) n1 n1) (.int .i64 (k : Int))).run Try.prog W = .ok (.pointer (some ⟨ab, k, none⟩)) W := fun W => by
        have := ix_bool ab 0 n1 n1 k hlt W
        rwa [Nat.zero_add] at this
      have hcw := World.ownsRow.cellAt HO.out k (by omega)
      obtain ⟨ov, hov⟩ : ∃ ov, ((allB n1 k).map Value.bool)[k]? = some ov := ⟨_, List.getElem?_eq_getElem (by simp [allB]; omega)⟩
      rw [hov] at hcw
      have hfw := World.ownsRow.frozenAt HO.out k
      have hst := hid (World.ownsRow.stored HO.out k (.bool true))
      clear hz hat hm0 hm1 q1 q2 r1 r2 HKE hov HQA HQC
      by_cases hkf : k < f
      · have HEC := hid (show okB (writeE sc at_ 64) = true from by rw [HECD.out]; simp [hkf])
        go_wp2_with fail
        refine (pick_calls z1 6 wr (by omega) (by omega)).mono ?_
        rintro _ _ ⟨rfl, rfl⟩
        rw [HAT.out]
        go_wp2_with fail
        generalize hwx : wr.setCell ⟨ab, k, none⟩ (.bool true) = wx
        have HTx := hid (show Tri w wx ab ga s gb s gc sc from hwx ▸ HT.out.setw k _)
        have HOx := hid (show OB wx w.heap.size ab n1 (allB n1 (k + 1)) from by
          have := hst.out.1
          rw [← List.map_set, allB_next n1 k hlt] at this
          exact hwx ▸ this)
        clear hwx hcw hfw hcell hst HT HO hix
        rw [HW.out]
        refine (tri_step HTx.out (fun F hd _ hle => puts_calls w.heap.size ga F s wx (at_ : Int) (cB (k + 1)) hd hle HF.out.1 HF.out.2)).mono ?_
        rintro _ wy ⟨rfl, hd, hbl⟩
        rw [HEA.out]
        have HTy := hid hd.rot; have HOy := hid (HOx.out.of_block hbl)
        clear hd hbl HTx HOx
        go_wp2_with fail
        rw [HW.out]
        refine (tri_step HTy.out (fun F hd _ hle => puts_calls w.heap.size gb F s wy (at_ : Int) (cB (k + 1)) hd hle HF.out.1 HF.out.2)).mono ?_
        rintro _ wz ⟨rfl, hd, hbl⟩
        rw [HEA.out]
        have HTz := hid hd.rot; have HOz := hid (HOy.out.of_block hbl)
        clear hd hbl HTy HOy
        go_wp2_with fail
        rw [HW.out]
        refine (tri_step HTz.out (fun F hd _ hle => puts_calls w.heap.size gc F sc wz (at_ : Int) (cB (k + 1)) hd hle HFC.out.1 HFC.out.2)).mono ?_
        rintro _ wv ⟨rfl, hd, hbl⟩
        rw [HEC.out]
        have HTv := hid hd.rot; have HOv := hid (HOz.out.of_block hbl)
        clear hd hbl HTz HOz
        go_wp2_with fail
        go_roundw
        case rel => exact ⟨k + 1, _, _, by omega, by go_num, HQA2, HQC2, HTv, HOv⟩
        case measure => simp [intOf]; omega
      · have HEC := hid (show okB (writeE sc at_ 64) = false from by rw [HECD.out]; simp [hkf])
        go_wp2_with fail
        refine (pick_calls z1 6 wr (by omega) (by omega)).mono ?_
        rintro _ _ ⟨rfl, rfl⟩
        rw [HAT.out]
        go_wp2_with fail
        generalize hwx : wr.setCell ⟨ab, k, none⟩ (.bool true) = wx
        have HTx := hid (show Tri w wx ab ga s gb s gc sc from hwx ▸ HT.out.setw k _)
        have HOx := hid (show OB wx w.heap.size ab n1 (allB n1 (k + 1)) from by
          have := hst.out.1
          rw [← List.map_set, allB_next n1 k hlt] at this
          exact hwx ▸ this)
        clear hwx hcw hfw hcell hst HT HO hix
        rw [HW.out]
        refine (tri_step HTx.out (fun F hd _ hle => puts_calls w.heap.size ga F s wx (at_ : Int) (cB (k + 1)) hd hle HF.out.1 HF.out.2)).mono ?_
        rintro _ wy ⟨rfl, hd, hbl⟩
        rw [HEA.out]
        have HTy := hid hd.rot; have HOy := hid (HOx.out.of_block hbl)
        clear hd hbl HTx HOx
        go_wp2_with fail
        rw [HW.out]
        refine (tri_step HTy.out (fun F hd _ hle => puts_calls w.heap.size gb F s wy (at_ : Int) (cB (k + 1)) hd hle HF.out.1 HF.out.2)).mono ?_
        rintro _ wz ⟨rfl, hd, hbl⟩
        rw [HEA.out]
        have HTz := hid hd.rot; have HOz := hid (HOy.out.of_block hbl)
        clear hd hbl HTy HOy
        go_wp2_with fail
        rw [HW.out]
        refine (tri_step HTz.out (fun F hd _ hle => puts_calls w.heap.size gc F sc wz (at_ : Int) (cB (k + 1)) hd hle HFC.out.1 HFC.out.2)).mono ?_
        rintro _ wv ⟨rfl, hd, hbl⟩
        rw [HEC.out]
        have HTv := hid hd.rot; have HOv := hid (HOz.out.of_block hbl)
        clear hd hbl HTz HOz
        go_wp2_with fail
        go_roundw
        case rel => exact ⟨k + 1, _, _, by omega, by go_num, HQA2, HQC2, HTv, HOv⟩
        case measure => simp [intOf]; omega
    · obtain rfl : n1 = k := by omega
      clear hlt hk
      have HEND := hid (fun i hi => qa_end HQA.out i hi)
      have HCEND := hid (qc_end HQC.out)
      have HE1 := hid (show ((flushE s : Nat) : Int) = 0 from by rw [(HEND.out 0 (by omega)).1]; rfl)
      have HF := hid (HQA.out.plain.ok (by rw [HQA.out.len]; omega))
      have HFC := hid (show fuseOK sc from ⟨fun x hx => by have := HQC.out.fz x hx; omega, by have := HQC.out.len; omega⟩)
      have HE2 := hid (show ((crashE 0 : Nat) : Int) = 0 from rfl)
      rw [show allB n1 n1 = List.replicate n1 true from by simp [allB]] at HO
      clear HQA HQC
      go_wp2_with fail
      refine (tri_step HT.out (fun F hd _ hle => dFlush_calls w.heap.size ga F s wr hd HF.out.1 HF.out.2)).mono ?_
      rintro _ wx ⟨rfl, hd, hbl⟩
      rw [HE1.out]
      have HTx := hid hd.rot; have HOx := hid (HO.out.of_block hbl)
      clear hd hbl HT HO
      go_wp2_with fail
      refine (tri_step HTx.out (fun F hd hab hle => dCrash_calls w.heap.size gb F s wx n1 n1 (some ⟨ab, 0, none⟩) (List.replicate n1 true) 0 hd HF.out.2 HOx.out.kb (fun _ b off e => by cases e; exact hab) (by omega))).mono ?_
      rintro _ wy ⟨rfl, hd, hbl⟩
      rw [HE2.out]
      have HTy := hid hd.rot
      clear hd hbl HTx HOx
      go_wp2_with fail
      refine (d1_out HTy.out.one).mono ?_
      rintro _ _ ⟨rfl, rfl⟩
      rw [HCEND.out.1]
      go_wp2_with fail
      refine (tri_step HTy.out (fun F hd hab hle => dCrash_calls w.heap.size gc F sc wy 0 0 none [] 0 hd HFC.out.2 (kb_nil _) (fun h => absurd h (by omega)) (by omega))).mono ?_
      rintro _ wz ⟨rfl, hd, hbl⟩
      rw [HE2.out]
      have HTz := hid hd.rot
      have HCE2 := hid HCEND.out.2
      clear hd hbl HTy HCEND HF HFC HE1 HE2
      generalize crashD s (List.replicate n1 true) 0 = sb at HTz HEND
      generalize flushD s = sa at HTz HEND
      generalize crashD sc [] 0 = sd at HTz HCE2
      go_wp2_with fail
      go_loopw [15, 16, 17, 18, 19] (fun i _ _ _ _ wr => ∃ k : Nat, k ≤ 6 ∧ i = .int .i64 (k : Int) ∧ Hid (Tri w wr ab ga sa gb sb gc sd)) (fun i _ _ _ _ _ => 6 - (intOf i).toNat)
      case atStart => exact ⟨0, Nat.zero_le _, rfl, HTz⟩
      case round =>
        clear HTz
        obtain ⟨k, hk, rfl, HT⟩ := hrel
        by_cases hlt : k < 6
        · obtain ⟨-, e1, e2, e3⟩ := HEND.out k hlt
          obtain ⟨e4, e5⟩ := HCE2.out k hlt
          have HI1 := hid (show ((imageE sa k : Nat) : Int) = 0 from by rw [e1]; rfl)
          have HI2 := hid (show ((imageE sb k : Nat) : Int) = 0 from by rw [e2]; rfl)
          have HI3 := hid (show (imageB sa k == imageB sb k) = true from by rw [e3]; simp)
          have HI4 := hid (show (okB (imageE sd k) && (imageB sd k == twoB 0 64 0)) = true from by rw [e4, e5]; simp [okB])
          clear e1 e2 e3 e4 e5
          have q0 : (k : Int) < 6 := by omega
          have HDA := hid HT.out.one
          have HDB := hid HT.out.rot.one
          have HDC := hid HT.out.rot.rot.one
          go_wp2_with fail
          refine (show Calls Try.prog 21 #[.pointer (some ⟨ga, 0, none⟩), .int .i64 (k : Int)] _ _ from by obtain ⟨_, F, hd⟩ := HDA.out; exact dImage_calls w.heap.size ga F sa _ (k : Int) hd).mono ?_
          rintro _ wx ⟨v1, rfl, ho, hb⟩
          obtain ⟨B1, d1, rfl, _, hs1, _⟩ := ho.sb
          rw [HI1.out]
          have HS1 := hid hs1; have HTx := hid (HT.out.keep hb); have HDBx := hid (HDB.out.keep hb); have HDCx := hid (HDC.out.keep hb)
          clear ho hb hs1 HT HDA HDB HDC
          go_wp2_with fail
          refine (show Calls Try.prog 21 #[.pointer (some ⟨gb, 0, none⟩), .int .i64 (k : Int)] _ _ from by obtain ⟨_, F, hd⟩ := HDBx.out; exact dImage_calls w.heap.size gb F sb _ (k : Int) hd).mono ?_
          rintro _ wy ⟨v2, rfl, ho, hb⟩
          obtain ⟨B2, d2, rfl, _, hs2, _⟩ := ho.sb
          rw [HI2.out]
          have HS2 := hid hs2; have HS1y := hid (HS1.out.keep hb); have HTy := hid (HTx.out.keep hb); have HDCy := hid (HDCx.out.keep hb)
          clear ho hb hs2 HTx HDBx HDCx HS1
          go_wp2_with fail
          refine (sameBytes_calls _ _ d1 _ _ d2 B1 B2 _ _ wy HS1y.out HS2.out).mono ?_
          rintro _ _ ⟨rfl, rfl⟩
          rw [HI3.out]
          go_wp2_with fail
          refine (d3_image (k : Int) 0 64 0 (by omega) HDCy.out).mono ?_
          rintro _ wz2 ⟨rfl, hd, hb⟩
          rw [HI4.out]
          have HTz := hid (HTy.out.keep hb)
          clear hd hb HTy HDCy HS1y HS2
          go_wp2_with fail
          go_roundw
          case rel => exact ⟨k + 1, by omega, by go_num, HTz⟩
          case measure => simp [intOf]; omega
        · obtain rfl : k = 6 := by omega
          have HB := hid HT.out.1
          clear hlt hk HT
          go_wp2_with fail
          go_ret
          exact ⟨rfl, HB.out⟩
end Go.Proofs.Ytjenafbkalokoaa
