/- The law WireOne, walked. -/
import Derived.Test.YtmlahlnjfoapaaaWrOneK
namespace Go.Proofs.Ytmlahlnjfoapaaa
open Go.RowKit

set_option maxRecDepth 20000 in
theorem one_long (n c m c2 : Nat) (A A2 : Option Addr) (w : World) (hn : 200 < n ∨ n ≤ 200 ∧ 20 < m) :
    Calls Try.prog 8 #[.slice A n c, .slice A2 m c2] w fun e w' => e = .returned (.bool true) ∧ Below w.heap.size w w' := by
  rcases hn with hn | ⟨hn, hm⟩
  · have hn' : (200 : Int) < (n : Int) := by omega
    go_enter Try.func8, Try.ntmps8
    go_wp2_with fail
    refine (known_calls w).mono ?_
    rintro _ w1 ⟨rfl, b1⟩
    go_wp2_with fail
    go_ret
    exact ⟨rfl, b1⟩
  · have hn' : ¬ (200 : Int) < (n : Int) := by omega
    have hm' : (20 : Int) < (m : Int) := by omega
    go_enter Try.func8, Try.ntmps8
    go_wp2_with fail
    refine (known_calls w).mono ?_
    rintro _ w1 ⟨rfl, b1⟩
    go_wp2_with fail
    go_ret
    exact ⟨rfl, b1⟩
/-- what holds at each turn -/
def OneInv (w : World) (bs : List UInt8) (g f : Nat) (rr : Option Nat) (g2 f2 : Nat) (a : Nat) (r : Option Nat) (wr : World) : Prop :=
  RdB wr w.heap.size g f rr bs (.ok a) ∧ WrB wr w.heap.size g2 f2 r 1000 ⟨bs.take a, 0⟩ ∧ (∀ b ∈ fpw g f rr, b ∉ fpw g2 f2 r) ∧ Below w.heap.size w wr
set_option maxHeartbeats 8000000 in
set_option maxRecDepth 40000 in
theorem one_short (n c m c2 : Nat) (A A2 : Option Addr) (bs : List UInt8) (zs : List Int) (w : World) (hs : SB w w.heap.size A n bs) (hc : n ≤ c) (hi : SI w A2 m zs) (_hc2 : m ≤ c2) (hn : n ≤ 200) (hm : m ≤ 20) :
    Calls Try.prog 8 #[.slice A n c, .slice A2 m c2] w fun e w' => e = .returned (.bool true) ∧ Below w.heap.size w w' := by
  have hn' : ¬ (200 : Int) < (n : Int) := by omega
  have hm' : ¬ (20 : Int) < (m : Int) := by omega
  have HS := hid hs; have HI := hid hi
  have HBL := hid hs.1
  clear hs hi
  go_enter Try.func8, Try.ntmps8
  go_wp2_with fail
  refine (known_calls w).mono ?_
  rintro _ w1 ⟨rfl, b1⟩
  have B := hid b1
  clear b1
  go_wp2_with fail
  refine (newReader_calls w.heap.size n c A bs w1 (HS.out.keep B.out) (by omega)).mono ?_
  rintro _ w2 ⟨g, f, rr, rfl, hr, b2⟩
  have HR := hid (hr.lower B.out.size)
  have HR0 := hid hr
  have B := hid (B.out.trans (b2.mono B.out.size))
  clear hr b2
  go_wp2_with fail
  refine (newWriter_calls 1000 w2 (by omega)).mono ?_
  rintro _ w3 ⟨g2, f2, rfl, hw, -, -, b3⟩
  have hI : OneInv w bs g f rr g2 f2 0 none w3 := by
    refine ⟨HR.out.keep b3, hw _ B.out.size, fun b hb hm => ?_, B.out.trans (b3.mono B.out.size)⟩
    have h1 := (HR.out.fp_lt b hb).2
    have h2 := ((hw w2.heap.size (Nat.le_refl _)).fp_lt b hm).1
    omega
  have HINV := hid hI
  clear hI hw b3 HR HR0 B
  go_wp2_with fail
  go_loopw [9, 10, 11, 12] (fun i _ _ _ wr => ∃ (k a : Nat) (r : Option Nat), k ≤ m ∧ i = .int .i64 (k : Int) ∧ Hid (OneInv w bs g f rr g2 f2 a r wr)) (fun i _ _ _ _ => m - (intOf i).toNat)
  case atStart => exact ⟨0, 0, none, by omega, rfl, HINV⟩
  case round =>
    clear HINV
    obtain ⟨k, a, r, hk, rfl, HINV⟩ := hrel
    by_cases hlt : k < m
    · have q0 : (k : Int) < (m : Int) := by omega
      obtain ⟨ib, io, z, rfl, -, hcell⟩ := (HI.out.keep HINV.out.2.2.2).at_ hlt
      have hz := (zero_of_info infoTh).1
      go_wp2_with fail
      refine (pick_calls z 7 wr (by omega) (by omega)).mono ?_
      rintro _ _ ⟨rfl, rfl⟩
      have hk0 := Int.emod_nonneg z (show (7 : Int) ≠ 0 by omega)
      have hk1 := Int.emod_lt_of_pos z (show (0 : Int) < 7 by omega)
      generalize z % 7 = kk at hk0 hk1 ⊢
      have HBT := hid (build_th kk)
      have K0 := hid (Blk.new wr 38 (TV (th0 0)))
      have ES : Hid ((Try.prog.info? 38).map (·.size) = some (TV (th0 kk)).size) := by rw [Hid, TV_size rfl]; exact (zero_of_info infoTh).2
      have HZ0 : Hid ((TV (th0 0)).size = (TV (th0 kk)).size) := by rw [Hid, TV_size rfl, TV_size rfl]
      go_wp2_with (first | (refine wpList_build rfl 38 0 (.tmp 52) rfl (.int .i64 kk) _ rfl HBT.out ?_) | ((refine wpList_store_blk rfl 38 _ _ rfl wr.heap.size _ rfl rfl 38 _ K0.out ES.out HZ0.out (TV_oneCell _) ?_); refine Held.go ?_))
      obtain ⟨b4, k4⟩ := new_set wr 38 (TV (th0 0)) (TV (th0 kk))
      generalize (wr.alloc (.cells (TV (th0 0)) 38)).setRow wr.heap.size (TV (th0 kk)) = w4 at b4 k4 ⊢
      have M := hid (show OneMid w bs g f rr g2 f2 a r wr.heap.size (th0 kk) (.ok a) w4 from by
        obtain ⟨h1, h2, h3, h5⟩ := HINV.out
        exact ⟨k4, th0_ok _ _, h1.keep b4, h2.keep b4, h3, h5.trans (b4.mono h5.size), fun hm => by have := (h1.fp_lt _ hm).2; omega, fun hm => by have := (h2.fp_lt _ hm).2; omega, (fun b off e => by cases e), (fun b off e => by cases e), h5.size, h1.good⟩)
      have HMD := hid (show ∀ b, r = some b → b < wr.heap.size from fun b hb => (HINV.out.2.1.fp_lt b (by rw [mem_fpw]; exact .inr (.inr hb))).2)
      clear b4 k4 HBT K0 ES HZ0 HINV hz hcell
      unfold Held
      go_wp2_with fail
      refine (rest_calls w.heap.size g f rr bs (.ok a) w4 M.out.rd).mono ?_
      rintro _ w5 ⟨rfl, b5, -⟩
      rw [show restS bs (.ok a) = bs.length - a from rfl]
      have M := hid (M.out.keep b5)
      clear b5
      have c0 := M.out.blk.cell 0 (TV_head (t := th0 kk) (i := 0) rfl)
      by_cases h0 : kk = 0
      · subst h0
        go_wp2_with fail
        refine (rNum_calls w.heap.size g f rr bs (.ok a) w5 M.out.rd).mono ?_
        rintro _ w6 ⟨rfl, hp⟩
        have HRD := hid (show Reads bs a (thItems { th0 0 with n := ((numS bs maxI 0 (.ok a)).1 : Int) }) (numS bs maxI 0 (.ok a)).2 from fun a' e => by
          rw [show thItems { th0 0 with n := ((numS bs maxI 0 (.ok a)).1 : Int) } = [numI ((numS bs maxI 0 (.ok a)).1 : Int)] from if_pos rfl, numI_nat]
          obtain ⟨h1, h2, _, _⟩ := numS_span (bs := bs) (a := a) (n := (numS bs maxI 0 (.ok a)).1) (by rw [← e])
          exact ⟨by simp [anyNeg], by simpa [flat] using h1, h2⟩)
        have hlt63 : lt63 ((numS bs maxI 0 (.ok a)).1 : Int) := by have := numS_lt bs maxI 0 (.ok a); unfold lt63; omega
        generalize (numS bs maxI 0 (.ok a)).1 = nn at HRD hlt63 ⊢
        generalize (numS bs maxI 0 (.ok a)).2 = s' at HRD hp
        have M := hid (M.out.read (th0_ok w6 0) hp)
        have c1 := M.out.blk.cell 1 (TV_head (t := th0 0) (i := 1) rfl)
        have f1 := M.out.blk.frozen 1
        have M1 := hid (M.out.thing (t' := { th0 0 with n := (nn : Int) }) (grown_setCell w6 wr.heap.size 1 (.int .i64 (nn : Int))) (TV_set1 (th0 0) nn ▸ M.out.blk.set_ 1 _) ⟨rfl, SB.nil _ _ _, ⟨rfl, fun h => absurd h (Nat.lt_irrefl 0)⟩, Nat.zero_le _, Nat.zero_le _, Nat.le_refl _, Nat.le_refl _, hlt63, by simp [lt63, th0], by simp [lt63, th0], by simp [th0]⟩ (fun b off e => by cases e) (fun b off e => by cases e))
        clear hp c0 hlt63
        go_wp2_with fail
        generalize w6.setCell ⟨wr.heap.size, 1, none⟩ (.int .i64 (nn : Int)) = w66 at M1 ⊢
        have M := hid M1.out
        clear M1 c1 f1
        refine (rEnd_calls w.heap.size g f rr bs s' w66 M.out.rd).mono ?_
        rintro _ w7 ⟨rfl, b7⟩
        have M := hid (M.out.keep b7)
        clear b7
        have hgd := M.out.rd.good
        rcases hs' : s' with a' | ⟨e, p⟩
        · -- it was read
          subst hs'
          have ha' : a' ≤ bs.length := hgd
          obtain ⟨-, -, haa⟩ := HRD.out a' rfl
          have HPW := hid (putW_reads M.out.al HRD.out (show bs.length ≤ 1000 from by rw [HBL.out]; omega))
          have qr : ((bs.length - a' : Nat) : Int) < ((bs.length - a : Nat) : Int) := by omega
          have qr2 : ¬ ((bs.length - a : Nat) : Int) ≤ ((bs.length - a' : Nat) : Int) := by omega
          have qn : bs.length - a' < bs.length - a := by omega
          by_cases hl : a' < bs.length
          · rw [show endS bs (.ok a') = (4, a') from if_pos hl]
            have qz : ¬ ((bs.length - a' : Nat) : Int) = 0 := by omega
            have b8 := below_new w7 (.cells #[.int .i64 4, .int .i64 (a' : Int)] 61)
            have k8 := Blk.new w7 61 #[.int .i64 4, .int .i64 (a' : Int)]
            have M := hid (M.out.keep b8)
            have F0 := hid k8
            have g0 := k8.cell 0 rfl
            have g1 := k8.cell 1 rfl
            clear b8 k8
            go_wp2_with fail
            generalize w7.alloc (.cells #[.int .i64 4, .int .i64 (a' : Int)] 61) = w8 at F0 M g0 g1 ⊢
            refine (rest_calls w.heap.size g f rr bs (.ok a') w8 M.out.rd).mono ?_
            rintro _ w9 ⟨rfl, b9, -⟩
            rw [show restS bs (.ok a') = bs.length - a' from rfl]
            have M := hid (M.out.keep b9)
            clear b9 g0 g1 F0
            generalize hR1 : bs.length - a' = R1 at qr qr2 qz qn ⊢
            have HR1 := hid hR1
            clear hR1
            generalize bs.length - a = R0 at qr qr2 qn ⊢
            go_wp2_with fail
            rename_i Kx hKx
            refine (rest_calls w.heap.size g f rr bs (.ok a') w9 M.out.rd).mono ?_
            rintro _ w10 ⟨rfl, b10, -⟩
            rw [show restS bs (.ok a') = R1 from HR1.out]
            have M := hid (M.out.keep b10)
            clear b10
            refine hKx _ _ ?_
            clear hKx
            ((refine wpList_step fun K hK => ?_); go_simp; (refine hK _ _ ?_); clear hK K)
            ((refine wpList_step fun K hK => ?_); go_simp; (refine hK _ _ ?_); clear hK K)
            ((refine wpList_step fun K hK => ?_); go_simp; (refine hK _ _ ?_); clear hK K)
            ((refine wpList_step fun K hK => ?_); go_simp; (refine hK _ _ ?_); clear hK K)
            refine wpList_load_th_g ?_ (.tmp 10) ?_ wr.heap.size ?_ _ M.out.blk M.out.tok.1 ?_
            · go_simp
            · exact rfl
            · exact rfl
            go_wp2_with fail
            refine (writes_calls w.heap.size g2 f2 r 1000 ⟨bs.take a, 0⟩ ({ th0 0 with n := (nn : Int) }) w10 rfl M.out.wr M.out.tok (fun b off e _ => M.out.rowA b off e) (fun _ b off e => M.out.rowV b off e)).mono ?_
            rintro _ w11 ⟨rfl, r', h11, k11, m11⟩
            rw [HPW.out] at h11 ⊢
            have I11 := hid (show OneInv w bs g f rr g2 f2 a' r' w11 from ⟨M.out.rd.chg k11 M.out.sep, h11, fpw_sep (fun b hb => ⟨(M.out.rd.fp_lt b hb).2, M.out.sep b hb⟩) m11, M.out.bel.trans (k11.below (fun b hb => (M.out.wr.fp_lt b hb).1) M.out.bel.size)⟩)
            clear h11 k11 m11
            go_wp2_with fail
            go_roundw
            case rel => exact ⟨k + 1, a', r', by omega, by go_num, I11⟩
            case measure => simp [intOf]; omega
          · rw [show endS bs (.ok a') = (0, 0) from if_neg hl]
            have b8 := below_new w7 (.cells #[.int .i64 0, .int .i64 0] 61)
            have k8 := Blk.new w7 61 #[.int .i64 0, .int .i64 0]
            have M := hid (M.out.keep b8)
            have F0 := hid k8
            have g0 := k8.cell 0 rfl
            have g1 := k8.cell 1 rfl
            clear b8 k8
            have qn0 : 0 < bs.length - a := by omega
            clear qr qr2 qn
            generalize hR0 : bs.length - a = R0 at qn0 ⊢
            have qr2 : ¬ (R0 : Int) ≤ 0 := by omega
            have qn1 : ¬ R0 = 0 := by omega
            go_wp2_with fail
            rename_i Kx hKx
            generalize w7.alloc (.cells #[.int .i64 0, .int .i64 0] 61) = w9 at F0 M g0 g1 ⊢
            clear F0 g0 g1
            refine (rest_calls w.heap.size g f rr bs (.ok a') w9 M.out.rd).mono ?_
            rintro _ w10 ⟨rfl, b10, -⟩
            rw [show restS bs (.ok a') = 0 from by show bs.length - a' = 0; omega]
            have M := hid (M.out.keep b10)
            clear b10
            refine hKx _ _ ?_
            clear hKx
            ((refine wpList_step fun K hK => ?_); go_simp; (refine hK _ _ ?_); clear hK K)
            ((refine wpList_step fun K hK => ?_); go_simp; (refine hK _ _ ?_); clear hK K)
            ((refine wpList_step fun K hK => ?_); go_simp; (refine hK _ _ ?_); clear hK K)
            ((refine wpList_step fun K hK => ?_); go_simp; (refine hK _ _ ?_); clear hK K)
            refine wpList_load_th_g ?_ (.tmp 10) ?_ wr.heap.size ?_ _ M.out.blk M.out.tok.1 ?_
            · go_simp
            · exact rfl
            · exact rfl
            go_wp2_with fail
            refine (writes_calls w.heap.size g2 f2 r 1000 ⟨bs.take a, 0⟩ ({ th0 0 with n := (nn : Int) }) w10 rfl M.out.wr M.out.tok (fun b off e _ => M.out.rowA b off e) (fun _ b off e => M.out.rowV b off e)).mono ?_
            rintro _ w11 ⟨rfl, r', h11, k11, m11⟩
            rw [HPW.out] at h11 ⊢
            have I11 := hid (show OneInv w bs g f rr g2 f2 a' r' w11 from ⟨M.out.rd.chg k11 M.out.sep, h11, fpw_sep (fun b hb => ⟨(M.out.rd.fp_lt b hb).2, M.out.sep b hb⟩) m11, M.out.bel.trans (k11.below (fun b hb => (M.out.wr.fp_lt b hb).1) M.out.bel.size)⟩)
            clear h11 k11 m11
            go_wp2_with fail
            go_roundw
            case rel => exact ⟨k + 1, a', r', by omega, by go_num, I11⟩
            case measure => simp [intOf]; omega
        · -- a fault
          subst hs'
          rw [show endS bs (.bad e p) = (e, p) from rfl]
          have qe : ¬ (e : Int) = 0 := by have := hgd.1; omega
          have qp : (p : Int) ≤ (n : Int) := by have := hgd.2; have := HBL.out; omega
          have qp0 : (0 : Int) ≤ (p : Int) := by omega
          clear hgd
          by_cases h4 : e = 4
          · subst h4
            have b8 := below_new w7 (.cells #[.int .i64 4, .int .i64 (p : Int)] 61)
            have k8 := Blk.new w7 61 #[.int .i64 4, .int .i64 (p : Int)]
            have M := hid (M.out.keep b8)
            have F0 := hid k8
            have g0 := k8.cell 0 rfl
            have g1 := k8.cell 1 rfl
            clear b8 k8
            go_wp2_with fail
            generalize w7.alloc (.cells #[.int .i64 4, .int .i64 (p : Int)] 61) = w8 at F0 M g0 g1 ⊢
            refine (rest_calls w.heap.size g f rr bs _ w8 M.out.rd).mono ?_
            rintro _ w9 ⟨rfl, b9, -⟩
            rw [show ∀ e, restS bs (.bad e p) = 0 from fun _ => rfl]
            have M := hid (M.out.keep b9)
            have F1 := hid (F0.out.keep b9)
            have g1 := F1.out.cell 1 rfl
            clear b9
            go_wp2_with fail
            refine (rest_calls w.heap.size g f rr bs _ w9 M.out.rd).mono ?_
            rintro _ w10 ⟨rfl, b10, -⟩
            rw [show ∀ e, restS bs (.bad e p) = 0 from fun _ => rfl]
            have M := hid (M.out.keep b10)
            clear b10
            go_wp2_with fail
            go_ret
            exact ⟨rfl, M.out.bel⟩
          · have q4 : ¬ (e : Int) = 4 := by omega
            have b8 := below_new w7 (.cells #[.int .i64 (e : Int), .int .i64 (p : Int)] 61)
            have k8 := Blk.new w7 61 #[.int .i64 (e : Int), .int .i64 (p : Int)]
            have M := hid (M.out.keep b8)
            have F0 := hid k8
            have g0 := k8.cell 0 rfl
            have g1 := k8.cell 1 rfl
            clear b8 k8
            go_wp2_with fail
            generalize w7.alloc (.cells #[.int .i64 (e : Int), .int .i64 (p : Int)] 61) = w8 at F0 M g0 g1 ⊢
            refine (rest_calls w.heap.size g f rr bs _ w8 M.out.rd).mono ?_
            rintro _ w9 ⟨rfl, b9, -⟩
            rw [show restS bs (.bad e p) = 0 from rfl]
            have M := hid (M.out.keep b9)
            clear b9
            go_wp2_with fail
            go_ret
            exact ⟨rfl, M.out.bel⟩
      by_cases h1 : kk = 1
      · subst h1
        go_wp2_with fail
        refine (rText_calls w.heap.size g f rr bs (.ok a) w5 200 M.out.rd).mono ?_
        rintro _ w6 ⟨rfl, hp⟩
        have HRD0 := reads_text (bs := bs) (most := 200) (a := a) 1 (.inl rfl)
        have hlen := sizedS_len bs 200 (.ok a)
        rw [HBL.out] at hlen
        generalize (sizedS bs 200 (.ok a)).1 = q1 at HRD0 hlen ⊢
        generalize (sizedS bs 200 (.ok a)).2 = s' at HRD0 hp
        have M := hid (M.out.read (th0_ok w6 1) hp)
        have hGl := M.out.blk.lt
        clear hp c0
        go_wp2_with ((refine wpList_conv_text rfl 9 31 5 _ rfl Try.underlying9 Try.underlying31 Try.underlying5 q1 rfl ?_); refine Held.go ?_)
        unfold Held
        intro wc cc hb7 _ hsb hcc
        have M := hid (M.out.keep hb7)
        have c2 := M.out.blk.cell 2 (TV_head (t := th0 1) (i := 2) rfl)
        have f2 := M.out.blk.frozen 2
        have ht := th0_text (w := wc) 1 hsb (by omega) hcc
        have M1 := hid (M.out.thing (t' := { th0 1 with A := some ⟨w6.heap.size, 0, none⟩, c := cc, cs := q1 }) (grown_setCell wc wr.heap.size 2 (.slice (some ⟨w6.heap.size, 0, none⟩) q1.length cc)) (TV_set2 (th0 1) (some ⟨w6.heap.size, 0, none⟩) cc q1 ▸ M.out.blk.set_ 2 _) (ht.set (grown_setCell wc wr.heap.size 2 _) (fun b off e => by cases e; omega) (fun b off e => by cases e)) (fun b off e hr => by cases e; have := HMD.out _ hr; omega) (fun b off e => by cases e))
        have HRD := hid (HRD0 (some ⟨w6.heap.size, 0, none⟩) cc)
        clear HRD0 hb7 hsb ht hlen hGl
        go_wp2_with fail
        generalize wc.setCell ⟨wr.heap.size, 2, none⟩ (.slice (some ⟨w6.heap.size, 0, none⟩) q1.length cc) = w66 at M1 ⊢
        have M := hid M1.out
        clear M1 c2 f2
        refine (rEnd_calls w.heap.size g f rr bs s' w66 M.out.rd).mono ?_
        rintro _ w7 ⟨rfl, b7⟩
        have M := hid (M.out.keep b7)
        clear b7
        have hgd := M.out.rd.good
        rcases hs' : s' with a' | ⟨e, p⟩
        · -- it was read
          subst hs'
          have ha' : a' ≤ bs.length := hgd
          obtain ⟨-, -, haa⟩ := HRD.out a' rfl
          have HPW := hid (putW_reads M.out.al HRD.out (show bs.length ≤ 1000 from by rw [HBL.out]; omega))
          have qr : ((bs.length - a' : Nat) : Int) < ((bs.length - a : Nat) : Int) := by omega
          have qr2 : ¬ ((bs.length - a : Nat) : Int) ≤ ((bs.length - a' : Nat) : Int) := by omega
          have qn : bs.length - a' < bs.length - a := by omega
          by_cases hl : a' < bs.length
          · rw [show endS bs (.ok a') = (4, a') from if_pos hl]
            have qz : ¬ ((bs.length - a' : Nat) : Int) = 0 := by omega
            have b8 := below_new w7 (.cells #[.int .i64 4, .int .i64 (a' : Int)] 61)
            have k8 := Blk.new w7 61 #[.int .i64 4, .int .i64 (a' : Int)]
            have M := hid (M.out.keep b8)
            have F0 := hid k8
            have g0 := k8.cell 0 rfl
            have g1 := k8.cell 1 rfl
            clear b8 k8
            go_wp2_with fail
            generalize w7.alloc (.cells #[.int .i64 4, .int .i64 (a' : Int)] 61) = w8 at F0 M g0 g1 ⊢
            refine (rest_calls w.heap.size g f rr bs (.ok a') w8 M.out.rd).mono ?_
            rintro _ w9 ⟨rfl, b9, -⟩
            rw [show restS bs (.ok a') = bs.length - a' from rfl]
            have M := hid (M.out.keep b9)
            clear b9 g0 g1 F0
            generalize hR1 : bs.length - a' = R1 at qr qr2 qz qn ⊢
            have HR1 := hid hR1
            clear hR1
            generalize bs.length - a = R0 at qr qr2 qn ⊢
            go_wp2_with fail
            rename_i Kx hKx
            refine (rest_calls w.heap.size g f rr bs (.ok a') w9 M.out.rd).mono ?_
            rintro _ w10 ⟨rfl, b10, -⟩
            rw [show restS bs (.ok a') = R1 from HR1.out]
            have M := hid (M.out.keep b10)
            clear b10
            refine hKx _ _ ?_
            clear hKx
            ((refine wpList_step fun K hK => ?_); go_simp; (refine hK _ _ ?_); clear hK K)
            ((refine wpList_step fun K hK => ?_); go_simp; (refine hK _ _ ?_); clear hK K)
            ((refine wpList_step fun K hK => ?_); go_simp; (refine hK _ _ ?_); clear hK K)
            ((refine wpList_step fun K hK => ?_); go_simp; (refine hK _ _ ?_); clear hK K)
            refine wpList_load_th_g ?_ (.tmp 10) ?_ wr.heap.size ?_ _ M.out.blk M.out.tok.1 ?_
            · go_simp
            · exact rfl
            · exact rfl
            go_wp2_with fail
            refine (writes_calls w.heap.size g2 f2 r 1000 ⟨bs.take a, 0⟩ ({ th0 1 with A := some ⟨w6.heap.size, 0, none⟩, c := cc, cs := q1 }) w10 rfl M.out.wr M.out.tok (fun b off e _ => M.out.rowA b off e) (fun _ b off e => M.out.rowV b off e)).mono ?_
            rintro _ w11 ⟨rfl, r', h11, k11, m11⟩
            rw [HPW.out] at h11 ⊢
            have I11 := hid (show OneInv w bs g f rr g2 f2 a' r' w11 from ⟨M.out.rd.chg k11 M.out.sep, h11, fpw_sep (fun b hb => ⟨(M.out.rd.fp_lt b hb).2, M.out.sep b hb⟩) m11, M.out.bel.trans (k11.below (fun b hb => (M.out.wr.fp_lt b hb).1) M.out.bel.size)⟩)
            clear h11 k11 m11
            go_wp2_with fail
            go_roundw
            case rel => exact ⟨k + 1, a', r', by omega, by go_num, I11⟩
            case measure => simp [intOf]; omega
          · rw [show endS bs (.ok a') = (0, 0) from if_neg hl]
            have b8 := below_new w7 (.cells #[.int .i64 0, .int .i64 0] 61)
            have k8 := Blk.new w7 61 #[.int .i64 0, .int .i64 0]
            have M := hid (M.out.keep b8)
            have F0 := hid k8
            have g0 := k8.cell 0 rfl
            have g1 := k8.cell 1 rfl
            clear b8 k8
            have qn0 : 0 < bs.length - a := by omega
            clear qr qr2 qn
            generalize hR0 : bs.length - a = R0 at qn0 ⊢
            have qr2 : ¬ (R0 : Int) ≤ 0 := by omega
            have qn1 : ¬ R0 = 0 := by omega
            go_wp2_with fail
            rename_i Kx hKx
            generalize w7.alloc (.cells #[.int .i64 0, .int .i64 0] 61) = w9 at F0 M g0 g1 ⊢
            clear F0 g0 g1
            refine (rest_calls w.heap.size g f rr bs (.ok a') w9 M.out.rd).mono ?_
            rintro _ w10 ⟨rfl, b10, -⟩
            rw [show restS bs (.ok a') = 0 from by show bs.length - a' = 0; omega]
            have M := hid (M.out.keep b10)
            clear b10
            refine hKx _ _ ?_
            clear hKx
            ((refine wpList_step fun K hK => ?_); go_simp; (refine hK _ _ ?_); clear hK K)
            ((refine wpList_step fun K hK => ?_); go_simp; (refine hK _ _ ?_); clear hK K)
            ((refine wpList_step fun K hK => ?_); go_simp; (refine hK _ _ ?_); clear hK K)
            ((refine wpList_step fun K hK => ?_); go_simp; (refine hK _ _ ?_); clear hK K)
            refine wpList_load_th_g ?_ (.tmp 10) ?_ wr.heap.size ?_ _ M.out.blk M.out.tok.1 ?_
            · go_simp
            · exact rfl
            · exact rfl
            go_wp2_with fail
            refine (writes_calls w.heap.size g2 f2 r 1000 ⟨bs.take a, 0⟩ ({ th0 1 with A := some ⟨w6.heap.size, 0, none⟩, c := cc, cs := q1 }) w10 rfl M.out.wr M.out.tok (fun b off e _ => M.out.rowA b off e) (fun _ b off e => M.out.rowV b off e)).mono ?_
            rintro _ w11 ⟨rfl, r', h11, k11, m11⟩
            rw [HPW.out] at h11 ⊢
            have I11 := hid (show OneInv w bs g f rr g2 f2 a' r' w11 from ⟨M.out.rd.chg k11 M.out.sep, h11, fpw_sep (fun b hb => ⟨(M.out.rd.fp_lt b hb).2, M.out.sep b hb⟩) m11, M.out.bel.trans (k11.below (fun b hb => (M.out.wr.fp_lt b hb).1) M.out.bel.size)⟩)
            clear h11 k11 m11
            go_wp2_with fail
            go_roundw
            case rel => exact ⟨k + 1, a', r', by omega, by go_num, I11⟩
            case measure => simp [intOf]; omega
        · -- a fault
          subst hs'
          rw [show endS bs (.bad e p) = (e, p) from rfl]
          have qe : ¬ (e : Int) = 0 := by have := hgd.1; omega
          have qp : (p : Int) ≤ (n : Int) := by have := hgd.2; have := HBL.out; omega
          have qp0 : (0 : Int) ≤ (p : Int) := by omega
          clear hgd
          by_cases h4 : e = 4
          · subst h4
            have b8 := below_new w7 (.cells #[.int .i64 4, .int .i64 (p : Int)] 61)
            have k8 := Blk.new w7 61 #[.int .i64 4, .int .i64 (p : Int)]
            have M := hid (M.out.keep b8)
            have F0 := hid k8
            have g0 := k8.cell 0 rfl
            have g1 := k8.cell 1 rfl
            clear b8 k8
            go_wp2_with fail
            generalize w7.alloc (.cells #[.int .i64 4, .int .i64 (p : Int)] 61) = w8 at F0 M g0 g1 ⊢
            refine (rest_calls w.heap.size g f rr bs _ w8 M.out.rd).mono ?_
            rintro _ w9 ⟨rfl, b9, -⟩
            rw [show ∀ e, restS bs (.bad e p) = 0 from fun _ => rfl]
            have M := hid (M.out.keep b9)
            have F1 := hid (F0.out.keep b9)
            have g1 := F1.out.cell 1 rfl
            clear b9
            go_wp2_with fail
            refine (rest_calls w.heap.size g f rr bs _ w9 M.out.rd).mono ?_
            rintro _ w10 ⟨rfl, b10, -⟩
            rw [show ∀ e, restS bs (.bad e p) = 0 from fun _ => rfl]
            have M := hid (M.out.keep b10)
            clear b10
            go_wp2_with fail
            go_ret
            exact ⟨rfl, M.out.bel⟩
          · have q4 : ¬ (e : Int) = 4 := by omega
            have b8 := below_new w7 (.cells #[.int .i64 (e : Int), .int .i64 (p : Int)] 61)
            have k8 := Blk.new w7 61 #[.int .i64 (e : Int), .int .i64 (p : Int)]
            have M := hid (M.out.keep b8)
            have F0 := hid k8
            have g0 := k8.cell 0 rfl
            have g1 := k8.cell 1 rfl
            clear b8 k8
            go_wp2_with fail
            generalize w7.alloc (.cells #[.int .i64 (e : Int), .int .i64 (p : Int)] 61) = w8 at F0 M g0 g1 ⊢
            refine (rest_calls w.heap.size g f rr bs _ w8 M.out.rd).mono ?_
            rintro _ w9 ⟨rfl, b9, -⟩
            rw [show restS bs (.bad e p) = 0 from rfl]
            have M := hid (M.out.keep b9)
            clear b9
            go_wp2_with fail
            go_ret
            exact ⟨rfl, M.out.bel⟩
      by_cases h2 : kk = 2
      · subst h2
        go_wp2_with fail
        refine (rBytes_calls w.heap.size g f rr bs (.ok a) w5 (by rw [HBL.out]; omega) 200 M.out.rd).mono ?_
        rintro _ w6 ⟨v6, rfl, ho, hp⟩
        have HRD0 := reads_text (bs := bs) (most := 200) (a := a) 2 (.inr rfl)
        have hlen := sizedS_len bs 200 (.ok a)
        rw [HBL.out] at hlen
        generalize (sizedS bs 200 (.ok a)).1 = q1 at HRD0 hlen ho
        generalize (sizedS bs 200 (.ok a)).2 = s' at HRD0 hp
        have hGl := M.out.blk.lt
        have M := hid (M.out.read (th0_ok w6 2) hp)
        obtain ⟨A7, cc, rfl, hcc, hsb, hbk⟩ := ho.sb
        have hrow : ∀ b off, A7 = some ⟨b, off, none⟩ → wr.heap.size < b := fun b off e => by subst e; have := (hbk b rfl).1; omega
        clear hp c0 ho hbk
        have c2 := M.out.blk.cell 2 (TV_head (t := th0 2) (i := 2) rfl)
        have f2 := M.out.blk.frozen 2
        have ht := th0_text (w := w6) 2 hsb (by omega) hcc
        have M1 := hid (M.out.thing (t' := { th0 2 with A := A7, c := cc, cs := q1 }) (grown_setCell w6 wr.heap.size 2 (.slice A7 q1.length cc)) (TV_set2 (th0 2) A7 cc q1 ▸ M.out.blk.set_ 2 _) (ht.set (grown_setCell w6 wr.heap.size 2 _) (fun b off e => by have := hrow b off e; omega) (fun b off e => by cases e)) (fun b off e hr => by have := HMD.out _ hr; have := hrow b off e; omega) (fun b off e => by cases e))
        have HRD := hid (HRD0 A7 cc)
        clear HRD0 hsb ht hlen hGl hrow
        go_wp2_with fail
        generalize w6.setCell ⟨wr.heap.size, 2, none⟩ (.slice A7 q1.length cc) = w66 at M1 ⊢
        have M := hid M1.out
        clear M1 c2 f2
        refine (rEnd_calls w.heap.size g f rr bs s' w66 M.out.rd).mono ?_
        rintro _ w7 ⟨rfl, b7⟩
        have M := hid (M.out.keep b7)
        clear b7
        have hgd := M.out.rd.good
        rcases hs' : s' with a' | ⟨e, p⟩
        · -- it was read
          subst hs'
          have ha' : a' ≤ bs.length := hgd
          obtain ⟨-, -, haa⟩ := HRD.out a' rfl
          have HPW := hid (putW_reads M.out.al HRD.out (show bs.length ≤ 1000 from by rw [HBL.out]; omega))
          have qr : ((bs.length - a' : Nat) : Int) < ((bs.length - a : Nat) : Int) := by omega
          have qr2 : ¬ ((bs.length - a : Nat) : Int) ≤ ((bs.length - a' : Nat) : Int) := by omega
          have qn : bs.length - a' < bs.length - a := by omega
          by_cases hl : a' < bs.length
          · rw [show endS bs (.ok a') = (4, a') from if_pos hl]
            have qz : ¬ ((bs.length - a' : Nat) : Int) = 0 := by omega
            have b8 := below_new w7 (.cells #[.int .i64 4, .int .i64 (a' : Int)] 61)
            have k8 := Blk.new w7 61 #[.int .i64 4, .int .i64 (a' : Int)]
            have M := hid (M.out.keep b8)
            have F0 := hid k8
            have g0 := k8.cell 0 rfl
            have g1 := k8.cell 1 rfl
            clear b8 k8
            go_wp2_with fail
            generalize w7.alloc (.cells #[.int .i64 4, .int .i64 (a' : Int)] 61) = w8 at F0 M g0 g1 ⊢
            refine (rest_calls w.heap.size g f rr bs (.ok a') w8 M.out.rd).mono ?_
            rintro _ w9 ⟨rfl, b9, -⟩
            rw [show restS bs (.ok a') = bs.length - a' from rfl]
            have M := hid (M.out.keep b9)
            clear b9 g0 g1 F0
            generalize hR1 : bs.length - a' = R1 at qr qr2 qz qn ⊢
            have HR1 := hid hR1
            clear hR1
            generalize bs.length - a = R0 at qr qr2 qn ⊢
            go_wp2_with fail
            rename_i Kx hKx
            refine (rest_calls w.heap.size g f rr bs (.ok a') w9 M.out.rd).mono ?_
            rintro _ w10 ⟨rfl, b10, -⟩
            rw [show restS bs (.ok a') = R1 from HR1.out]
            have M := hid (M.out.keep b10)
            clear b10
            refine hKx _ _ ?_
            clear hKx
            ((refine wpList_step fun K hK => ?_); go_simp; (refine hK _ _ ?_); clear hK K)
            ((refine wpList_step fun K hK => ?_); go_simp; (refine hK _ _ ?_); clear hK K)
            ((refine wpList_step fun K hK => ?_); go_simp; (refine hK _ _ ?_); clear hK K)
            ((refine wpList_step fun K hK => ?_); go_simp; (refine hK _ _ ?_); clear hK K)
            refine wpList_load_th_g ?_ (.tmp 10) ?_ wr.heap.size ?_ _ M.out.blk M.out.tok.1 ?_
            · go_simp
            · exact rfl
            · exact rfl
            go_wp2_with fail
            refine (writes_calls w.heap.size g2 f2 r 1000 ⟨bs.take a, 0⟩ ({ th0 2 with A := A7, c := cc, cs := q1 }) w10 rfl M.out.wr M.out.tok (fun b off e _ => M.out.rowA b off e) (fun _ b off e => M.out.rowV b off e)).mono ?_
            rintro _ w11 ⟨rfl, r', h11, k11, m11⟩
            rw [HPW.out] at h11 ⊢
            have I11 := hid (show OneInv w bs g f rr g2 f2 a' r' w11 from ⟨M.out.rd.chg k11 M.out.sep, h11, fpw_sep (fun b hb => ⟨(M.out.rd.fp_lt b hb).2, M.out.sep b hb⟩) m11, M.out.bel.trans (k11.below (fun b hb => (M.out.wr.fp_lt b hb).1) M.out.bel.size)⟩)
            clear h11 k11 m11
            go_wp2_with fail
            go_roundw
            case rel => exact ⟨k + 1, a', r', by omega, by go_num, I11⟩
            case measure => simp [intOf]; omega
          · rw [show endS bs (.ok a') = (0, 0) from if_neg hl]
            have b8 := below_new w7 (.cells #[.int .i64 0, .int .i64 0] 61)
            have k8 := Blk.new w7 61 #[.int .i64 0, .int .i64 0]
            have M := hid (M.out.keep b8)
            have F0 := hid k8
            have g0 := k8.cell 0 rfl
            have g1 := k8.cell 1 rfl
            clear b8 k8
            have qn0 : 0 < bs.length - a := by omega
            clear qr qr2 qn
            generalize hR0 : bs.length - a = R0 at qn0 ⊢
            have qr2 : ¬ (R0 : Int) ≤ 0 := by omega
            have qn1 : ¬ R0 = 0 := by omega
            go_wp2_with fail
            rename_i Kx hKx
            generalize w7.alloc (.cells #[.int .i64 0, .int .i64 0] 61) = w9 at F0 M g0 g1 ⊢
            clear F0 g0 g1
            refine (rest_calls w.heap.size g f rr bs (.ok a') w9 M.out.rd).mono ?_
            rintro _ w10 ⟨rfl, b10, -⟩
            rw [show restS bs (.ok a') = 0 from by show bs.length - a' = 0; omega]
            have M := hid (M.out.keep b10)
            clear b10
            refine hKx _ _ ?_
            clear hKx
            ((refine wpList_step fun K hK => ?_); go_simp; (refine hK _ _ ?_); clear hK K)
            ((refine wpList_step fun K hK => ?_); go_simp; (refine hK _ _ ?_); clear hK K)
            ((refine wpList_step fun K hK => ?_); go_simp; (refine hK _ _ ?_); clear hK K)
            ((refine wpList_step fun K hK => ?_); go_simp; (refine hK _ _ ?_); clear hK K)
            refine wpList_load_th_g ?_ (.tmp 10) ?_ wr.heap.size ?_ _ M.out.blk M.out.tok.1 ?_
            · go_simp
            · exact rfl
            · exact rfl
            go_wp2_with fail
            refine (writes_calls w.heap.size g2 f2 r 1000 ⟨bs.take a, 0⟩ ({ th0 2 with A := A7, c := cc, cs := q1 }) w10 rfl M.out.wr M.out.tok (fun b off e _ => M.out.rowA b off e) (fun _ b off e => M.out.rowV b off e)).mono ?_
            rintro _ w11 ⟨rfl, r', h11, k11, m11⟩
            rw [HPW.out] at h11 ⊢
            have I11 := hid (show OneInv w bs g f rr g2 f2 a' r' w11 from ⟨M.out.rd.chg k11 M.out.sep, h11, fpw_sep (fun b hb => ⟨(M.out.rd.fp_lt b hb).2, M.out.sep b hb⟩) m11, M.out.bel.trans (k11.below (fun b hb => (M.out.wr.fp_lt b hb).1) M.out.bel.size)⟩)
            clear h11 k11 m11
            go_wp2_with fail
            go_roundw
            case rel => exact ⟨k + 1, a', r', by omega, by go_num, I11⟩
            case measure => simp [intOf]; omega
        · -- a fault
          subst hs'
          rw [show endS bs (.bad e p) = (e, p) from rfl]
          have qe : ¬ (e : Int) = 0 := by have := hgd.1; omega
          have qp : (p : Int) ≤ (n : Int) := by have := hgd.2; have := HBL.out; omega
          have qp0 : (0 : Int) ≤ (p : Int) := by omega
          clear hgd
          by_cases h4 : e = 4
          · subst h4
            have b8 := below_new w7 (.cells #[.int .i64 4, .int .i64 (p : Int)] 61)
            have k8 := Blk.new w7 61 #[.int .i64 4, .int .i64 (p : Int)]
            have M := hid (M.out.keep b8)
            have F0 := hid k8
            have g0 := k8.cell 0 rfl
            have g1 := k8.cell 1 rfl
            clear b8 k8
            go_wp2_with fail
            generalize w7.alloc (.cells #[.int .i64 4, .int .i64 (p : Int)] 61) = w8 at F0 M g0 g1 ⊢
            refine (rest_calls w.heap.size g f rr bs _ w8 M.out.rd).mono ?_
            rintro _ w9 ⟨rfl, b9, -⟩
            rw [show ∀ e, restS bs (.bad e p) = 0 from fun _ => rfl]
            have M := hid (M.out.keep b9)
            have F1 := hid (F0.out.keep b9)
            have g1 := F1.out.cell 1 rfl
            clear b9
            go_wp2_with fail
            refine (rest_calls w.heap.size g f rr bs _ w9 M.out.rd).mono ?_
            rintro _ w10 ⟨rfl, b10, -⟩
            rw [show ∀ e, restS bs (.bad e p) = 0 from fun _ => rfl]
            have M := hid (M.out.keep b10)
            clear b10
            go_wp2_with fail
            go_ret
            exact ⟨rfl, M.out.bel⟩
          · have q4 : ¬ (e : Int) = 4 := by omega
            have b8 := below_new w7 (.cells #[.int .i64 (e : Int), .int .i64 (p : Int)] 61)
            have k8 := Blk.new w7 61 #[.int .i64 (e : Int), .int .i64 (p : Int)]
            have M := hid (M.out.keep b8)
            have F0 := hid k8
            have g0 := k8.cell 0 rfl
            have g1 := k8.cell 1 rfl
            clear b8 k8
            go_wp2_with fail
            generalize w7.alloc (.cells #[.int .i64 (e : Int), .int .i64 (p : Int)] 61) = w8 at F0 M g0 g1 ⊢
            refine (rest_calls w.heap.size g f rr bs _ w8 M.out.rd).mono ?_
            rintro _ w9 ⟨rfl, b9, -⟩
            rw [show restS bs (.bad e p) = 0 from rfl]
            have M := hid (M.out.keep b9)
            clear b9
            go_wp2_with fail
            go_ret
            exact ⟨rfl, M.out.bel⟩
      by_cases h3 : kk = 3
      · subst h3
        go_wp2_with fail
        refine (rID_calls w.heap.size g f rr bs (.ok a) w5 M.out.rd).mono ?_
        rintro _ w6 ⟨rfl, hp⟩
        have HRD := hid (reads_id (bs := bs) (a := a) M.out.al)
        have hl32 : (idS bs (.ok a)).1.length = 32 := fill32_length _
        generalize (idS bs (.ok a)).1 = l at HRD hl32 ⊢
        generalize (idS bs (.ok a)).2 = s' at HRD hp
        have M := hid (M.out.read (th0_ok w6 3) hp)
        clear hp c0
        have HSZ := hid (show (Try.prog.info? 33).map (·.size) = some (l.map bv).length from by rw [List.length_map, hl32]; kernel_rfl)
        have HLN := hid (show (l.map bv).length = ((th0 3).id.map bv).length from by rw [List.length_map, hl32]; rfl)
        have HONE := hid (oneCell_bytes l)
        have M1 := hid (M.out.thing (t' := { th0 3 with id := l }) (grown_setRow w6 wr.heap.size (TV { th0 3 with id := l })) (M.out.blk.setRow _) (th0_id _ 3 l hl32) (fun b off e => by cases e) (fun b off e => by cases e))
        clear hl32
        unfold bcells
        go_wp2_with ((refine wpList_store_part rfl 33 _ _ rfl wr.heap.size 3 (l.map bv) rfl rfl (show Blk w6 wr.heap.size 38 (part (thHead (th0 3)) ((th0 3).id.map bv) (thTail (th0 3))) from M.out.blk) rfl HSZ.out HLN.out HONE.out ?_); refine Held.go ?_)
        change Held (wpList _ _ _ _ _ (w6.setRow wr.heap.size (TV { th0 3 with id := l })))
        generalize w6.setRow wr.heap.size (TV { th0 3 with id := l }) = w66 at M1 ⊢
        have M := hid M1.out
        clear M1
        unfold Held
        go_wp2_with fail
        refine (rEnd_calls w.heap.size g f rr bs s' w66 M.out.rd).mono ?_
        rintro _ w7 ⟨rfl, b7⟩
        have M := hid (M.out.keep b7)
        clear b7
        have hgd := M.out.rd.good
        rcases hs' : s' with a' | ⟨e, p⟩
        · -- it was read
          subst hs'
          have ha' : a' ≤ bs.length := hgd
          obtain ⟨-, -, haa⟩ := HRD.out a' rfl
          have HPW := hid (putW_reads M.out.al HRD.out (show bs.length ≤ 1000 from by rw [HBL.out]; omega))
          have qr : ((bs.length - a' : Nat) : Int) < ((bs.length - a : Nat) : Int) := by omega
          have qr2 : ¬ ((bs.length - a : Nat) : Int) ≤ ((bs.length - a' : Nat) : Int) := by omega
          have qn : bs.length - a' < bs.length - a := by omega
          by_cases hl : a' < bs.length
          · rw [show endS bs (.ok a') = (4, a') from if_pos hl]
            have qz : ¬ ((bs.length - a' : Nat) : Int) = 0 := by omega
            have b8 := below_new w7 (.cells #[.int .i64 4, .int .i64 (a' : Int)] 61)
            have k8 := Blk.new w7 61 #[.int .i64 4, .int .i64 (a' : Int)]
            have M := hid (M.out.keep b8)
            have F0 := hid k8
            have g0 := k8.cell 0 rfl
            have g1 := k8.cell 1 rfl
            clear b8 k8
            go_wp2_with fail
            generalize w7.alloc (.cells #[.int .i64 4, .int .i64 (a' : Int)] 61) = w8 at F0 M g0 g1 ⊢
            refine (rest_calls w.heap.size g f rr bs (.ok a') w8 M.out.rd).mono ?_
            rintro _ w9 ⟨rfl, b9, -⟩
            rw [show restS bs (.ok a') = bs.length - a' from rfl]
            have M := hid (M.out.keep b9)
            clear b9 g0 g1 F0
            generalize hR1 : bs.length - a' = R1 at qr qr2 qz qn ⊢
            have HR1 := hid hR1
            clear hR1
            generalize bs.length - a = R0 at qr qr2 qn ⊢
            go_wp2_with fail
            rename_i Kx hKx
            refine (rest_calls w.heap.size g f rr bs (.ok a') w9 M.out.rd).mono ?_
            rintro _ w10 ⟨rfl, b10, -⟩
            rw [show restS bs (.ok a') = R1 from HR1.out]
            have M := hid (M.out.keep b10)
            clear b10
            refine hKx _ _ ?_
            clear hKx
            ((refine wpList_step fun K hK => ?_); go_simp; (refine hK _ _ ?_); clear hK K)
            ((refine wpList_step fun K hK => ?_); go_simp; (refine hK _ _ ?_); clear hK K)
            ((refine wpList_step fun K hK => ?_); go_simp; (refine hK _ _ ?_); clear hK K)
            ((refine wpList_step fun K hK => ?_); go_simp; (refine hK _ _ ?_); clear hK K)
            refine wpList_load_th_g ?_ (.tmp 10) ?_ wr.heap.size ?_ _ M.out.blk M.out.tok.1 ?_
            · go_simp
            · exact rfl
            · exact rfl
            go_wp2_with fail
            refine (writes_calls w.heap.size g2 f2 r 1000 ⟨bs.take a, 0⟩ ({ th0 3 with id := l }) w10 rfl M.out.wr M.out.tok (fun b off e _ => M.out.rowA b off e) (fun _ b off e => M.out.rowV b off e)).mono ?_
            rintro _ w11 ⟨rfl, r', h11, k11, m11⟩
            rw [HPW.out] at h11 ⊢
            have I11 := hid (show OneInv w bs g f rr g2 f2 a' r' w11 from ⟨M.out.rd.chg k11 M.out.sep, h11, fpw_sep (fun b hb => ⟨(M.out.rd.fp_lt b hb).2, M.out.sep b hb⟩) m11, M.out.bel.trans (k11.below (fun b hb => (M.out.wr.fp_lt b hb).1) M.out.bel.size)⟩)
            clear h11 k11 m11
            go_wp2_with fail
            go_roundw
            case rel => exact ⟨k + 1, a', r', by omega, by go_num, I11⟩
            case measure => simp [intOf]; omega
          · rw [show endS bs (.ok a') = (0, 0) from if_neg hl]
            have b8 := below_new w7 (.cells #[.int .i64 0, .int .i64 0] 61)
            have k8 := Blk.new w7 61 #[.int .i64 0, .int .i64 0]
            have M := hid (M.out.keep b8)
            have F0 := hid k8
            have g0 := k8.cell 0 rfl
            have g1 := k8.cell 1 rfl
            clear b8 k8
            have qn0 : 0 < bs.length - a := by omega
            clear qr qr2 qn
            generalize hR0 : bs.length - a = R0 at qn0 ⊢
            have qr2 : ¬ (R0 : Int) ≤ 0 := by omega
            have qn1 : ¬ R0 = 0 := by omega
            go_wp2_with fail
            rename_i Kx hKx
            generalize w7.alloc (.cells #[.int .i64 0, .int .i64 0] 61) = w9 at F0 M g0 g1 ⊢
            clear F0 g0 g1
            refine (rest_calls w.heap.size g f rr bs (.ok a') w9 M.out.rd).mono ?_
            rintro _ w10 ⟨rfl, b10, -⟩
            rw [show restS bs (.ok a') = 0 from by show bs.length - a' = 0; omega]
            have M := hid (M.out.keep b10)
            clear b10
            refine hKx _ _ ?_
            clear hKx
            ((refine wpList_step fun K hK => ?_); go_simp; (refine hK _ _ ?_); clear hK K)
            ((refine wpList_step fun K hK => ?_); go_simp; (refine hK _ _ ?_); clear hK K)
            ((refine wpList_step fun K hK => ?_); go_simp; (refine hK _ _ ?_); clear hK K)
            ((refine wpList_step fun K hK => ?_); go_simp; (refine hK _ _ ?_); clear hK K)
            refine wpList_load_th_g ?_ (.tmp 10) ?_ wr.heap.size ?_ _ M.out.blk M.out.tok.1 ?_
            · go_simp
            · exact rfl
            · exact rfl
            go_wp2_with fail
            refine (writes_calls w.heap.size g2 f2 r 1000 ⟨bs.take a, 0⟩ ({ th0 3 with id := l }) w10 rfl M.out.wr M.out.tok (fun b off e _ => M.out.rowA b off e) (fun _ b off e => M.out.rowV b off e)).mono ?_
            rintro _ w11 ⟨rfl, r', h11, k11, m11⟩
            rw [HPW.out] at h11 ⊢
            have I11 := hid (show OneInv w bs g f rr g2 f2 a' r' w11 from ⟨M.out.rd.chg k11 M.out.sep, h11, fpw_sep (fun b hb => ⟨(M.out.rd.fp_lt b hb).2, M.out.sep b hb⟩) m11, M.out.bel.trans (k11.below (fun b hb => (M.out.wr.fp_lt b hb).1) M.out.bel.size)⟩)
            clear h11 k11 m11
            go_wp2_with fail
            go_roundw
            case rel => exact ⟨k + 1, a', r', by omega, by go_num, I11⟩
            case measure => simp [intOf]; omega
        · -- a fault
          subst hs'
          rw [show endS bs (.bad e p) = (e, p) from rfl]
          have qe : ¬ (e : Int) = 0 := by have := hgd.1; omega
          have qp : (p : Int) ≤ (n : Int) := by have := hgd.2; have := HBL.out; omega
          have qp0 : (0 : Int) ≤ (p : Int) := by omega
          clear hgd
          by_cases h4 : e = 4
          · subst h4
            have b8 := below_new w7 (.cells #[.int .i64 4, .int .i64 (p : Int)] 61)
            have k8 := Blk.new w7 61 #[.int .i64 4, .int .i64 (p : Int)]
            have M := hid (M.out.keep b8)
            have F0 := hid k8
            have g0 := k8.cell 0 rfl
            have g1 := k8.cell 1 rfl
            clear b8 k8
            go_wp2_with fail
            generalize w7.alloc (.cells #[.int .i64 4, .int .i64 (p : Int)] 61) = w8 at F0 M g0 g1 ⊢
            refine (rest_calls w.heap.size g f rr bs _ w8 M.out.rd).mono ?_
            rintro _ w9 ⟨rfl, b9, -⟩
            rw [show ∀ e, restS bs (.bad e p) = 0 from fun _ => rfl]
            have M := hid (M.out.keep b9)
            have F1 := hid (F0.out.keep b9)
            have g1 := F1.out.cell 1 rfl
            clear b9
            go_wp2_with fail
            refine (rest_calls w.heap.size g f rr bs _ w9 M.out.rd).mono ?_
            rintro _ w10 ⟨rfl, b10, -⟩
            rw [show ∀ e, restS bs (.bad e p) = 0 from fun _ => rfl]
            have M := hid (M.out.keep b10)
            clear b10
            go_wp2_with fail
            go_ret
            exact ⟨rfl, M.out.bel⟩
          · have q4 : ¬ (e : Int) = 4 := by omega
            have b8 := below_new w7 (.cells #[.int .i64 (e : Int), .int .i64 (p : Int)] 61)
            have k8 := Blk.new w7 61 #[.int .i64 (e : Int), .int .i64 (p : Int)]
            have M := hid (M.out.keep b8)
            have F0 := hid k8
            have g0 := k8.cell 0 rfl
            have g1 := k8.cell 1 rfl
            clear b8 k8
            go_wp2_with fail
            generalize w7.alloc (.cells #[.int .i64 (e : Int), .int .i64 (p : Int)] 61) = w8 at F0 M g0 g1 ⊢
            refine (rest_calls w.heap.size g f rr bs _ w8 M.out.rd).mono ?_
            rintro _ w9 ⟨rfl, b9, -⟩
            rw [show restS bs (.bad e p) = 0 from rfl]
            have M := hid (M.out.keep b9)
            clear b9
            go_wp2_with fail
            go_ret
            exact ⟨rfl, M.out.bel⟩
      by_cases h4 : kk = 4
      · subst h4
        go_wp2_with fail
        refine (rDot_calls w.heap.size g f rr bs (.ok a) w5 M.out.rd).mono ?_
        rintro _ w6 ⟨rfl, hp⟩
        have HRD := hid (reads_dot (bs := bs) (a := a))
        have hx : lt63 ((dotS bs (.ok a)).1.1 : Int) := by have := (dotS_lt bs (.ok a)).1; unfold lt63; omega
        have hy : lt63 ((dotS bs (.ok a)).1.2 : Int) := by have := (dotS_lt bs (.ok a)).2; unfold lt63; omega
        generalize (dotS bs (.ok a)).1.1 = x at HRD hx ⊢
        generalize (dotS bs (.ok a)).1.2 = y at HRD hy ⊢
        generalize (dotS bs (.ok a)).2 = s' at HRD hp
        have M := hid (M.out.read (th0_ok w6 4) hp)
        clear hp c0
        have c5 := M.out.blk.cell 35 (TV_tail (t := th0 4) rfl (i := 0) rfl)
        have f5 := M.out.blk.frozen 35
        have c6 := M.out.blk.cell 36 (TV_tail (t := th0 4) rfl (i := 1) rfl)
        have f6 := M.out.blk.frozen 36
        have M1 := hid (M.out.thing (t' := { th0 4 with x := (x : Int), y := (y : Int) }) (World.grownBy.trans (grown_setCell w6 wr.heap.size 35 (.int .i64 (x : Int))) (grown_setCell _ wr.heap.size 36 (.int .i64 (y : Int)))) (TV_setY { th0 4 with x := (x : Int) } rfl (y : Int) ▸ (Blk.set_ (TV_setX (th0 4) rfl (x : Int) ▸ M.out.blk.set_ 35 (.int .i64 (x : Int))) 36 (.int .i64 (y : Int)))) (th0_dot _ 4 x y hx hy) (fun b off e => by cases e) (fun b off e => by cases e))
        clear hx hy
        go_wp2_with fail
        generalize (w6.setCell ⟨wr.heap.size, 35, none⟩ (.int .i64 (x : Int))).setCell ⟨wr.heap.size, 36, none⟩ (.int .i64 (y : Int)) = w66 at M1 ⊢
        have M := hid M1.out
        clear M1 c5 f5 c6 f6
        refine (rEnd_calls w.heap.size g f rr bs s' w66 M.out.rd).mono ?_
        rintro _ w7 ⟨rfl, b7⟩
        have M := hid (M.out.keep b7)
        clear b7
        have hgd := M.out.rd.good
        rcases hs' : s' with a' | ⟨e, p⟩
        · -- it was read
          subst hs'
          have ha' : a' ≤ bs.length := hgd
          obtain ⟨-, -, haa⟩ := HRD.out a' rfl
          have HPW := hid (putW_reads M.out.al HRD.out (show bs.length ≤ 1000 from by rw [HBL.out]; omega))
          have qr : ((bs.length - a' : Nat) : Int) < ((bs.length - a : Nat) : Int) := by omega
          have qr2 : ¬ ((bs.length - a : Nat) : Int) ≤ ((bs.length - a' : Nat) : Int) := by omega
          have qn : bs.length - a' < bs.length - a := by omega
          by_cases hl : a' < bs.length
          · rw [show endS bs (.ok a') = (4, a') from if_pos hl]
            have qz : ¬ ((bs.length - a' : Nat) : Int) = 0 := by omega
            have b8 := below_new w7 (.cells #[.int .i64 4, .int .i64 (a' : Int)] 61)
            have k8 := Blk.new w7 61 #[.int .i64 4, .int .i64 (a' : Int)]
            have M := hid (M.out.keep b8)
            have F0 := hid k8
            have g0 := k8.cell 0 rfl
            have g1 := k8.cell 1 rfl
            clear b8 k8
            go_wp2_with fail
            generalize w7.alloc (.cells #[.int .i64 4, .int .i64 (a' : Int)] 61) = w8 at F0 M g0 g1 ⊢
            refine (rest_calls w.heap.size g f rr bs (.ok a') w8 M.out.rd).mono ?_
            rintro _ w9 ⟨rfl, b9, -⟩
            rw [show restS bs (.ok a') = bs.length - a' from rfl]
            have M := hid (M.out.keep b9)
            clear b9 g0 g1 F0
            generalize hR1 : bs.length - a' = R1 at qr qr2 qz qn ⊢
            have HR1 := hid hR1
            clear hR1
            generalize bs.length - a = R0 at qr qr2 qn ⊢
            go_wp2_with fail
            rename_i Kx hKx
            refine (rest_calls w.heap.size g f rr bs (.ok a') w9 M.out.rd).mono ?_
            rintro _ w10 ⟨rfl, b10, -⟩
            rw [show restS bs (.ok a') = R1 from HR1.out]
            have M := hid (M.out.keep b10)
            clear b10
            refine hKx _ _ ?_
            clear hKx
            ((refine wpList_step fun K hK => ?_); go_simp; (refine hK _ _ ?_); clear hK K)
            ((refine wpList_step fun K hK => ?_); go_simp; (refine hK _ _ ?_); clear hK K)
            ((refine wpList_step fun K hK => ?_); go_simp; (refine hK _ _ ?_); clear hK K)
            ((refine wpList_step fun K hK => ?_); go_simp; (refine hK _ _ ?_); clear hK K)
            refine wpList_load_th_g ?_ (.tmp 10) ?_ wr.heap.size ?_ _ M.out.blk M.out.tok.1 ?_
            · go_simp
            · exact rfl
            · exact rfl
            go_wp2_with fail
            refine (writes_calls w.heap.size g2 f2 r 1000 ⟨bs.take a, 0⟩ ({ th0 4 with x := (x : Int), y := (y : Int) }) w10 rfl M.out.wr M.out.tok (fun b off e _ => M.out.rowA b off e) (fun _ b off e => M.out.rowV b off e)).mono ?_
            rintro _ w11 ⟨rfl, r', h11, k11, m11⟩
            rw [HPW.out] at h11 ⊢
            have I11 := hid (show OneInv w bs g f rr g2 f2 a' r' w11 from ⟨M.out.rd.chg k11 M.out.sep, h11, fpw_sep (fun b hb => ⟨(M.out.rd.fp_lt b hb).2, M.out.sep b hb⟩) m11, M.out.bel.trans (k11.below (fun b hb => (M.out.wr.fp_lt b hb).1) M.out.bel.size)⟩)
            clear h11 k11 m11
            go_wp2_with fail
            go_roundw
            case rel => exact ⟨k + 1, a', r', by omega, by go_num, I11⟩
            case measure => simp [intOf]; omega
          · rw [show endS bs (.ok a') = (0, 0) from if_neg hl]
            have b8 := below_new w7 (.cells #[.int .i64 0, .int .i64 0] 61)
            have k8 := Blk.new w7 61 #[.int .i64 0, .int .i64 0]
            have M := hid (M.out.keep b8)
            have F0 := hid k8
            have g0 := k8.cell 0 rfl
            have g1 := k8.cell 1 rfl
            clear b8 k8
            have qn0 : 0 < bs.length - a := by omega
            clear qr qr2 qn
            generalize hR0 : bs.length - a = R0 at qn0 ⊢
            have qr2 : ¬ (R0 : Int) ≤ 0 := by omega
            have qn1 : ¬ R0 = 0 := by omega
            go_wp2_with fail
            rename_i Kx hKx
            generalize w7.alloc (.cells #[.int .i64 0, .int .i64 0] 61) = w9 at F0 M g0 g1 ⊢
            clear F0 g0 g1
            refine (rest_calls w.heap.size g f rr bs (.ok a') w9 M.out.rd).mono ?_
            rintro _ w10 ⟨rfl, b10, -⟩
            rw [show restS bs (.ok a') = 0 from by show bs.length - a' = 0; omega]
            have M := hid (M.out.keep b10)
            clear b10
            refine hKx _ _ ?_
            clear hKx
            ((refine wpList_step fun K hK => ?_); go_simp; (refine hK _ _ ?_); clear hK K)
            ((refine wpList_step fun K hK => ?_); go_simp; (refine hK _ _ ?_); clear hK K)
            ((refine wpList_step fun K hK => ?_); go_simp; (refine hK _ _ ?_); clear hK K)
            ((refine wpList_step fun K hK => ?_); go_simp; (refine hK _ _ ?_); clear hK K)
            refine wpList_load_th_g ?_ (.tmp 10) ?_ wr.heap.size ?_ _ M.out.blk M.out.tok.1 ?_
            · go_simp
            · exact rfl
            · exact rfl
            go_wp2_with fail
            refine (writes_calls w.heap.size g2 f2 r 1000 ⟨bs.take a, 0⟩ ({ th0 4 with x := (x : Int), y := (y : Int) }) w10 rfl M.out.wr M.out.tok (fun b off e _ => M.out.rowA b off e) (fun _ b off e => M.out.rowV b off e)).mono ?_
            rintro _ w11 ⟨rfl, r', h11, k11, m11⟩
            rw [HPW.out] at h11 ⊢
            have I11 := hid (show OneInv w bs g f rr g2 f2 a' r' w11 from ⟨M.out.rd.chg k11 M.out.sep, h11, fpw_sep (fun b hb => ⟨(M.out.rd.fp_lt b hb).2, M.out.sep b hb⟩) m11, M.out.bel.trans (k11.below (fun b hb => (M.out.wr.fp_lt b hb).1) M.out.bel.size)⟩)
            clear h11 k11 m11
            go_wp2_with fail
            go_roundw
            case rel => exact ⟨k + 1, a', r', by omega, by go_num, I11⟩
            case measure => simp [intOf]; omega
        · -- a fault
          subst hs'
          rw [show endS bs (.bad e p) = (e, p) from rfl]
          have qe : ¬ (e : Int) = 0 := by have := hgd.1; omega
          have qp : (p : Int) ≤ (n : Int) := by have := hgd.2; have := HBL.out; omega
          have qp0 : (0 : Int) ≤ (p : Int) := by omega
          clear hgd
          by_cases h4 : e = 4
          · subst h4
            have b8 := below_new w7 (.cells #[.int .i64 4, .int .i64 (p : Int)] 61)
            have k8 := Blk.new w7 61 #[.int .i64 4, .int .i64 (p : Int)]
            have M := hid (M.out.keep b8)
            have F0 := hid k8
            have g0 := k8.cell 0 rfl
            have g1 := k8.cell 1 rfl
            clear b8 k8
            go_wp2_with fail
            generalize w7.alloc (.cells #[.int .i64 4, .int .i64 (p : Int)] 61) = w8 at F0 M g0 g1 ⊢
            refine (rest_calls w.heap.size g f rr bs _ w8 M.out.rd).mono ?_
            rintro _ w9 ⟨rfl, b9, -⟩
            rw [show ∀ e, restS bs (.bad e p) = 0 from fun _ => rfl]
            have M := hid (M.out.keep b9)
            have F1 := hid (F0.out.keep b9)
            have g1 := F1.out.cell 1 rfl
            clear b9
            go_wp2_with fail
            refine (rest_calls w.heap.size g f rr bs _ w9 M.out.rd).mono ?_
            rintro _ w10 ⟨rfl, b10, -⟩
            rw [show ∀ e, restS bs (.bad e p) = 0 from fun _ => rfl]
            have M := hid (M.out.keep b10)
            clear b10
            go_wp2_with fail
            go_ret
            exact ⟨rfl, M.out.bel⟩
          · have q4 : ¬ (e : Int) = 4 := by omega
            have b8 := below_new w7 (.cells #[.int .i64 (e : Int), .int .i64 (p : Int)] 61)
            have k8 := Blk.new w7 61 #[.int .i64 (e : Int), .int .i64 (p : Int)]
            have M := hid (M.out.keep b8)
            have F0 := hid k8
            have g0 := k8.cell 0 rfl
            have g1 := k8.cell 1 rfl
            clear b8 k8
            go_wp2_with fail
            generalize w7.alloc (.cells #[.int .i64 (e : Int), .int .i64 (p : Int)] 61) = w8 at F0 M g0 g1 ⊢
            refine (rest_calls w.heap.size g f rr bs _ w8 M.out.rd).mono ?_
            rintro _ w9 ⟨rfl, b9, -⟩
            rw [show restS bs (.bad e p) = 0 from rfl]
            have M := hid (M.out.keep b9)
            clear b9
            go_wp2_with fail
            go_ret
            exact ⟨rfl, M.out.bel⟩
      by_cases h5 : kk = 5
      · subst h5
        go_wp2_with fail
        refine (rVec_calls w.heap.size g f rr bs (.ok a) 200 w5 M.out.rd).mono ?_
        rintro _ w6 ⟨v6, rfl, ho, hp⟩
        have HRD0 := reads_vec (bs := bs) (most := 200) (a := a)
        have hlen : (vecS bs 200 (.ok a)).1.length ≤ 200 := by
          have h1 := vecLoop_len bs (numS bs 200 4 (.ok a)).1 [] (numS bs 200 4 (.ok a)).2
          have h2 := numS_le bs 200 4 (.ok a) (by omega)
          have h3 : vecS bs 200 (.ok a) = vecLoop bs (numS bs 200 4 (.ok a)).1 [] (numS bs 200 4 (.ok a)).2 := rfl
          rw [← h3] at h1
          simp at h1
          omega
        have hzl : ∀ z ∈ (vecS bs 200 (.ok a)).1, lt63 z := vecLoop_lt bs _ _ _ (by simp)
        generalize (vecS bs 200 (.ok a)).1 = q1 at HRD0 hlen hzl ho
        generalize (vecS bs 200 (.ok a)).2 = s' at HRD0 hp
        have hGl := M.out.blk.lt
        have M := hid (M.out.read (th0_ok w6 5) hp)
        obtain ⟨A7, cc, rfl, hcc, hsb, hbk⟩ := ho.si
        have hrow : ∀ b off, A7 = some ⟨b, off, none⟩ → wr.heap.size < b := fun b off e => by have := (hbk b off e).1; omega
        clear hp c0 ho hbk
        have c2 := M.out.blk.cell 37 (TV_tail (t := th0 5) rfl (i := 2) rfl)
        have f2 := M.out.blk.frozen 37
        have ht := th0_vec (w := w6) 5 hsb (by omega) hcc hzl
        have M1 := hid (M.out.thing (t' := { th0 5 with A2 := A7, c2 := cc, zs := q1 }) (grown_setCell w6 wr.heap.size 37 (.slice A7 q1.length cc)) (TV_setV (th0 5) rfl A7 cc q1 ▸ M.out.blk.set_ 37 _) (ht.set (grown_setCell w6 wr.heap.size 37 _) (fun b off e => by cases e) (fun b off e => by have := hrow b off e; omega)) (fun b off e => by cases e) (fun b off e hr => by have := HMD.out _ hr; have := hrow b off e; omega))
        have HRD := hid (HRD0 A7 cc)
        clear HRD0 hsb ht hlen hGl hrow hzl
        go_wp2_with fail
        generalize w6.setCell ⟨wr.heap.size, 37, none⟩ (.slice A7 q1.length cc) = w66 at M1 ⊢
        have M := hid M1.out
        clear M1 c2 f2
        refine (rEnd_calls w.heap.size g f rr bs s' w66 M.out.rd).mono ?_
        rintro _ w7 ⟨rfl, b7⟩
        have M := hid (M.out.keep b7)
        clear b7
        have hgd := M.out.rd.good
        rcases hs' : s' with a' | ⟨e, p⟩
        · -- it was read
          subst hs'
          have ha' : a' ≤ bs.length := hgd
          obtain ⟨-, -, haa⟩ := HRD.out a' rfl
          have HPW := hid (putW_reads M.out.al HRD.out (show bs.length ≤ 1000 from by rw [HBL.out]; omega))
          have qr : ((bs.length - a' : Nat) : Int) < ((bs.length - a : Nat) : Int) := by omega
          have qr2 : ¬ ((bs.length - a : Nat) : Int) ≤ ((bs.length - a' : Nat) : Int) := by omega
          have qn : bs.length - a' < bs.length - a := by omega
          by_cases hl : a' < bs.length
          · rw [show endS bs (.ok a') = (4, a') from if_pos hl]
            have qz : ¬ ((bs.length - a' : Nat) : Int) = 0 := by omega
            have b8 := below_new w7 (.cells #[.int .i64 4, .int .i64 (a' : Int)] 61)
            have k8 := Blk.new w7 61 #[.int .i64 4, .int .i64 (a' : Int)]
            have M := hid (M.out.keep b8)
            have F0 := hid k8
            have g0 := k8.cell 0 rfl
            have g1 := k8.cell 1 rfl
            clear b8 k8
            go_wp2_with fail
            generalize w7.alloc (.cells #[.int .i64 4, .int .i64 (a' : Int)] 61) = w8 at F0 M g0 g1 ⊢
            refine (rest_calls w.heap.size g f rr bs (.ok a') w8 M.out.rd).mono ?_
            rintro _ w9 ⟨rfl, b9, -⟩
            rw [show restS bs (.ok a') = bs.length - a' from rfl]
            have M := hid (M.out.keep b9)
            clear b9 g0 g1 F0
            generalize hR1 : bs.length - a' = R1 at qr qr2 qz qn ⊢
            have HR1 := hid hR1
            clear hR1
            generalize bs.length - a = R0 at qr qr2 qn ⊢
            go_wp2_with fail
            rename_i Kx hKx
            refine (rest_calls w.heap.size g f rr bs (.ok a') w9 M.out.rd).mono ?_
            rintro _ w10 ⟨rfl, b10, -⟩
            rw [show restS bs (.ok a') = R1 from HR1.out]
            have M := hid (M.out.keep b10)
            clear b10
            refine hKx _ _ ?_
            clear hKx
            ((refine wpList_step fun K hK => ?_); go_simp; (refine hK _ _ ?_); clear hK K)
            ((refine wpList_step fun K hK => ?_); go_simp; (refine hK _ _ ?_); clear hK K)
            ((refine wpList_step fun K hK => ?_); go_simp; (refine hK _ _ ?_); clear hK K)
            ((refine wpList_step fun K hK => ?_); go_simp; (refine hK _ _ ?_); clear hK K)
            refine wpList_load_th_g ?_ (.tmp 10) ?_ wr.heap.size ?_ _ M.out.blk M.out.tok.1 ?_
            · go_simp
            · exact rfl
            · exact rfl
            go_wp2_with fail
            refine (writes_calls w.heap.size g2 f2 r 1000 ⟨bs.take a, 0⟩ ({ th0 5 with A2 := A7, c2 := cc, zs := q1 }) w10 rfl M.out.wr M.out.tok (fun b off e _ => M.out.rowA b off e) (fun _ b off e => M.out.rowV b off e)).mono ?_
            rintro _ w11 ⟨rfl, r', h11, k11, m11⟩
            rw [HPW.out] at h11 ⊢
            have I11 := hid (show OneInv w bs g f rr g2 f2 a' r' w11 from ⟨M.out.rd.chg k11 M.out.sep, h11, fpw_sep (fun b hb => ⟨(M.out.rd.fp_lt b hb).2, M.out.sep b hb⟩) m11, M.out.bel.trans (k11.below (fun b hb => (M.out.wr.fp_lt b hb).1) M.out.bel.size)⟩)
            clear h11 k11 m11
            go_wp2_with fail
            go_roundw
            case rel => exact ⟨k + 1, a', r', by omega, by go_num, I11⟩
            case measure => simp [intOf]; omega
          · rw [show endS bs (.ok a') = (0, 0) from if_neg hl]
            have b8 := below_new w7 (.cells #[.int .i64 0, .int .i64 0] 61)
            have k8 := Blk.new w7 61 #[.int .i64 0, .int .i64 0]
            have M := hid (M.out.keep b8)
            have F0 := hid k8
            have g0 := k8.cell 0 rfl
            have g1 := k8.cell 1 rfl
            clear b8 k8
            have qn0 : 0 < bs.length - a := by omega
            clear qr qr2 qn
            generalize hR0 : bs.length - a = R0 at qn0 ⊢
            have qr2 : ¬ (R0 : Int) ≤ 0 := by omega
            have qn1 : ¬ R0 = 0 := by omega
            go_wp2_with fail
            rename_i Kx hKx
            generalize w7.alloc (.cells #[.int .i64 0, .int .i64 0] 61) = w9 at F0 M g0 g1 ⊢
            clear F0 g0 g1
            refine (rest_calls w.heap.size g f rr bs (.ok a') w9 M.out.rd).mono ?_
            rintro _ w10 ⟨rfl, b10, -⟩
            rw [show restS bs (.ok a') = 0 from by show bs.length - a' = 0; omega]
            have M := hid (M.out.keep b10)
            clear b10
            refine hKx _ _ ?_
            clear hKx
            ((refine wpList_step fun K hK => ?_); go_simp; (refine hK _ _ ?_); clear hK K)
            ((refine wpList_step fun K hK => ?_); go_simp; (refine hK _ _ ?_); clear hK K)
            ((refine wpList_step fun K hK => ?_); go_simp; (refine hK _ _ ?_); clear hK K)
            ((refine wpList_step fun K hK => ?_); go_simp; (refine hK _ _ ?_); clear hK K)
            refine wpList_load_th_g ?_ (.tmp 10) ?_ wr.heap.size ?_ _ M.out.blk M.out.tok.1 ?_
            · go_simp
            · exact rfl
            · exact rfl
            go_wp2_with fail
            refine (writes_calls w.heap.size g2 f2 r 1000 ⟨bs.take a, 0⟩ ({ th0 5 with A2 := A7, c2 := cc, zs := q1 }) w10 rfl M.out.wr M.out.tok (fun b off e _ => M.out.rowA b off e) (fun _ b off e => M.out.rowV b off e)).mono ?_
            rintro _ w11 ⟨rfl, r', h11, k11, m11⟩
            rw [HPW.out] at h11 ⊢
            have I11 := hid (show OneInv w bs g f rr g2 f2 a' r' w11 from ⟨M.out.rd.chg k11 M.out.sep, h11, fpw_sep (fun b hb => ⟨(M.out.rd.fp_lt b hb).2, M.out.sep b hb⟩) m11, M.out.bel.trans (k11.below (fun b hb => (M.out.wr.fp_lt b hb).1) M.out.bel.size)⟩)
            clear h11 k11 m11
            go_wp2_with fail
            go_roundw
            case rel => exact ⟨k + 1, a', r', by omega, by go_num, I11⟩
            case measure => simp [intOf]; omega
        · -- a fault
          subst hs'
          rw [show endS bs (.bad e p) = (e, p) from rfl]
          have qe : ¬ (e : Int) = 0 := by have := hgd.1; omega
          have qp : (p : Int) ≤ (n : Int) := by have := hgd.2; have := HBL.out; omega
          have qp0 : (0 : Int) ≤ (p : Int) := by omega
          clear hgd
          by_cases h4 : e = 4
          · subst h4
            have b8 := below_new w7 (.cells #[.int .i64 4, .int .i64 (p : Int)] 61)
            have k8 := Blk.new w7 61 #[.int .i64 4, .int .i64 (p : Int)]
            have M := hid (M.out.keep b8)
            have F0 := hid k8
            have g0 := k8.cell 0 rfl
            have g1 := k8.cell 1 rfl
            clear b8 k8
            go_wp2_with fail
            generalize w7.alloc (.cells #[.int .i64 4, .int .i64 (p : Int)] 61) = w8 at F0 M g0 g1 ⊢
            refine (rest_calls w.heap.size g f rr bs _ w8 M.out.rd).mono ?_
            rintro _ w9 ⟨rfl, b9, -⟩
            rw [show ∀ e, restS bs (.bad e p) = 0 from fun _ => rfl]
            have M := hid (M.out.keep b9)
            have F1 := hid (F0.out.keep b9)
            have g1 := F1.out.cell 1 rfl
            clear b9
            go_wp2_with fail
            refine (rest_calls w.heap.size g f rr bs _ w9 M.out.rd).mono ?_
            rintro _ w10 ⟨rfl, b10, -⟩
            rw [show ∀ e, restS bs (.bad e p) = 0 from fun _ => rfl]
            have M := hid (M.out.keep b10)
            clear b10
            go_wp2_with fail
            go_ret
            exact ⟨rfl, M.out.bel⟩
          · have q4 : ¬ (e : Int) = 4 := by omega
            have b8 := below_new w7 (.cells #[.int .i64 (e : Int), .int .i64 (p : Int)] 61)
            have k8 := Blk.new w7 61 #[.int .i64 (e : Int), .int .i64 (p : Int)]
            have M := hid (M.out.keep b8)
            have F0 := hid k8
            have g0 := k8.cell 0 rfl
            have g1 := k8.cell 1 rfl
            clear b8 k8
            go_wp2_with fail
            generalize w7.alloc (.cells #[.int .i64 (e : Int), .int .i64 (p : Int)] 61) = w8 at F0 M g0 g1 ⊢
            refine (rest_calls w.heap.size g f rr bs _ w8 M.out.rd).mono ?_
            rintro _ w9 ⟨rfl, b9, -⟩
            rw [show restS bs (.bad e p) = 0 from rfl]
            have M := hid (M.out.keep b9)
            clear b9
            go_wp2_with fail
            go_ret
            exact ⟨rfl, M.out.bel⟩
      obtain rfl : kk = 6 := by omega
      go_wp2_with fail
      refine (rBool_calls w.heap.size g f rr bs (.ok a) w5 M.out.rd).mono ?_
      rintro _ w6 ⟨rfl, hp⟩
      have HRD := hid (reads_bool (bs := bs) (a := a))
      generalize (((numS bs 1 5 (.ok a)).1 : Int) == 1) = bb at HRD ⊢
      generalize (numS bs 1 5 (.ok a)).2 = s' at HRD hp
      have M := hid (M.out.read (th0_ok w6 6) hp)
      clear hp c0
      have c8 := M.out.blk.cell 38 (TV_tail (t := th0 6) rfl (i := 3) rfl)
      have f8 := M.out.blk.frozen 38
      have M1 := hid (M.out.thing (t' := { th0 6 with b := bb }) (grown_setCell w6 wr.heap.size 38 (.bool bb)) (TV_setB (th0 6) rfl bb ▸ M.out.blk.set_ 38 _) (th0_bool _ 6 bb) (fun b off e => by cases e) (fun b off e => by cases e))
      go_wp2_with fail
      generalize w6.setCell ⟨wr.heap.size, 38, none⟩ (.bool bb) = w66 at M1 ⊢
      have M := hid M1.out
      clear M1 c8 f8
      refine (rEnd_calls w.heap.size g f rr bs s' w66 M.out.rd).mono ?_
      rintro _ w7 ⟨rfl, b7⟩
      have M := hid (M.out.keep b7)
      clear b7
      have hgd := M.out.rd.good
      rcases hs' : s' with a' | ⟨e, p⟩
      · -- it was read
        subst hs'
        have ha' : a' ≤ bs.length := hgd
        obtain ⟨-, -, haa⟩ := HRD.out a' rfl
        have HPW := hid (putW_reads M.out.al HRD.out (show bs.length ≤ 1000 from by rw [HBL.out]; omega))
        have qr : ((bs.length - a' : Nat) : Int) < ((bs.length - a : Nat) : Int) := by omega
        have qr2 : ¬ ((bs.length - a : Nat) : Int) ≤ ((bs.length - a' : Nat) : Int) := by omega
        have qn : bs.length - a' < bs.length - a := by omega
        by_cases hl : a' < bs.length
        · rw [show endS bs (.ok a') = (4, a') from if_pos hl]
          have qz : ¬ ((bs.length - a' : Nat) : Int) = 0 := by omega
          have b8 := below_new w7 (.cells #[.int .i64 4, .int .i64 (a' : Int)] 61)
          have k8 := Blk.new w7 61 #[.int .i64 4, .int .i64 (a' : Int)]
          have M := hid (M.out.keep b8)
          have F0 := hid k8
          have g0 := k8.cell 0 rfl
          have g1 := k8.cell 1 rfl
          clear b8 k8
          go_wp2_with fail
          generalize w7.alloc (.cells #[.int .i64 4, .int .i64 (a' : Int)] 61) = w8 at F0 M g0 g1 ⊢
          refine (rest_calls w.heap.size g f rr bs (.ok a') w8 M.out.rd).mono ?_
          rintro _ w9 ⟨rfl, b9, -⟩
          rw [show restS bs (.ok a') = bs.length - a' from rfl]
          have M := hid (M.out.keep b9)
          clear b9 g0 g1 F0
          generalize hR1 : bs.length - a' = R1 at qr qr2 qz qn ⊢
          have HR1 := hid hR1
          clear hR1
          generalize bs.length - a = R0 at qr qr2 qn ⊢
          go_wp2_with fail
          rename_i Kx hKx
          refine (rest_calls w.heap.size g f rr bs (.ok a') w9 M.out.rd).mono ?_
          rintro _ w10 ⟨rfl, b10, -⟩
          rw [show restS bs (.ok a') = R1 from HR1.out]
          have M := hid (M.out.keep b10)
          clear b10
          refine hKx _ _ ?_
          clear hKx
          ((refine wpList_step fun K hK => ?_); go_simp; (refine hK _ _ ?_); clear hK K)
          ((refine wpList_step fun K hK => ?_); go_simp; (refine hK _ _ ?_); clear hK K)
          ((refine wpList_step fun K hK => ?_); go_simp; (refine hK _ _ ?_); clear hK K)
          ((refine wpList_step fun K hK => ?_); go_simp; (refine hK _ _ ?_); clear hK K)
          refine wpList_load_th_g ?_ (.tmp 10) ?_ wr.heap.size ?_ _ M.out.blk M.out.tok.1 ?_
          · go_simp
          · exact rfl
          · exact rfl
          go_wp2_with fail
          refine (writes_calls w.heap.size g2 f2 r 1000 ⟨bs.take a, 0⟩ ({ th0 6 with b := bb }) w10 rfl M.out.wr M.out.tok (fun b off e _ => M.out.rowA b off e) (fun _ b off e => M.out.rowV b off e)).mono ?_
          rintro _ w11 ⟨rfl, r', h11, k11, m11⟩
          rw [HPW.out] at h11 ⊢
          have I11 := hid (show OneInv w bs g f rr g2 f2 a' r' w11 from ⟨M.out.rd.chg k11 M.out.sep, h11, fpw_sep (fun b hb => ⟨(M.out.rd.fp_lt b hb).2, M.out.sep b hb⟩) m11, M.out.bel.trans (k11.below (fun b hb => (M.out.wr.fp_lt b hb).1) M.out.bel.size)⟩)
          clear h11 k11 m11
          go_wp2_with fail
          go_roundw
          case rel => exact ⟨k + 1, a', r', by omega, by go_num, I11⟩
          case measure => simp [intOf]; omega
        · rw [show endS bs (.ok a') = (0, 0) from if_neg hl]
          have b8 := below_new w7 (.cells #[.int .i64 0, .int .i64 0] 61)
          have k8 := Blk.new w7 61 #[.int .i64 0, .int .i64 0]
          have M := hid (M.out.keep b8)
          have F0 := hid k8
          have g0 := k8.cell 0 rfl
          have g1 := k8.cell 1 rfl
          clear b8 k8
          have qn0 : 0 < bs.length - a := by omega
          clear qr qr2 qn
          generalize hR0 : bs.length - a = R0 at qn0 ⊢
          have qr2 : ¬ (R0 : Int) ≤ 0 := by omega
          have qn1 : ¬ R0 = 0 := by omega
          go_wp2_with fail
          rename_i Kx hKx
          generalize w7.alloc (.cells #[.int .i64 0, .int .i64 0] 61) = w9 at F0 M g0 g1 ⊢
          clear F0 g0 g1
          refine (rest_calls w.heap.size g f rr bs (.ok a') w9 M.out.rd).mono ?_
          rintro _ w10 ⟨rfl, b10, -⟩
          rw [show restS bs (.ok a') = 0 from by show bs.length - a' = 0; omega]
          have M := hid (M.out.keep b10)
          clear b10
          refine hKx _ _ ?_
          clear hKx
          ((refine wpList_step fun K hK => ?_); go_simp; (refine hK _ _ ?_); clear hK K)
          ((refine wpList_step fun K hK => ?_); go_simp; (refine hK _ _ ?_); clear hK K)
          ((refine wpList_step fun K hK => ?_); go_simp; (refine hK _ _ ?_); clear hK K)
          ((refine wpList_step fun K hK => ?_); go_simp; (refine hK _ _ ?_); clear hK K)
          refine wpList_load_th_g ?_ (.tmp 10) ?_ wr.heap.size ?_ _ M.out.blk M.out.tok.1 ?_
          · go_simp
          · exact rfl
          · exact rfl
          go_wp2_with fail
          refine (writes_calls w.heap.size g2 f2 r 1000 ⟨bs.take a, 0⟩ ({ th0 6 with b := bb }) w10 rfl M.out.wr M.out.tok (fun b off e _ => M.out.rowA b off e) (fun _ b off e => M.out.rowV b off e)).mono ?_
          rintro _ w11 ⟨rfl, r', h11, k11, m11⟩
          rw [HPW.out] at h11 ⊢
          have I11 := hid (show OneInv w bs g f rr g2 f2 a' r' w11 from ⟨M.out.rd.chg k11 M.out.sep, h11, fpw_sep (fun b hb => ⟨(M.out.rd.fp_lt b hb).2, M.out.sep b hb⟩) m11, M.out.bel.trans (k11.below (fun b hb => (M.out.wr.fp_lt b hb).1) M.out.bel.size)⟩)
          clear h11 k11 m11
          go_wp2_with fail
          go_roundw
          case rel => exact ⟨k + 1, a', r', by omega, by go_num, I11⟩
          case measure => simp [intOf]; omega
      · -- a fault
        subst hs'
        rw [show endS bs (.bad e p) = (e, p) from rfl]
        have qe : ¬ (e : Int) = 0 := by have := hgd.1; omega
        have qp : (p : Int) ≤ (n : Int) := by have := hgd.2; have := HBL.out; omega
        have qp0 : (0 : Int) ≤ (p : Int) := by omega
        clear hgd
        by_cases h4 : e = 4
        · subst h4
          have b8 := below_new w7 (.cells #[.int .i64 4, .int .i64 (p : Int)] 61)
          have k8 := Blk.new w7 61 #[.int .i64 4, .int .i64 (p : Int)]
          have M := hid (M.out.keep b8)
          have F0 := hid k8
          have g0 := k8.cell 0 rfl
          have g1 := k8.cell 1 rfl
          clear b8 k8
          go_wp2_with fail
          generalize w7.alloc (.cells #[.int .i64 4, .int .i64 (p : Int)] 61) = w8 at F0 M g0 g1 ⊢
          refine (rest_calls w.heap.size g f rr bs _ w8 M.out.rd).mono ?_
          rintro _ w9 ⟨rfl, b9, -⟩
          rw [show ∀ e, restS bs (.bad e p) = 0 from fun _ => rfl]
          have M := hid (M.out.keep b9)
          have F1 := hid (F0.out.keep b9)
          have g1 := F1.out.cell 1 rfl
          clear b9
          go_wp2_with fail
          refine (rest_calls w.heap.size g f rr bs _ w9 M.out.rd).mono ?_
          rintro _ w10 ⟨rfl, b10, -⟩
          rw [show ∀ e, restS bs (.bad e p) = 0 from fun _ => rfl]
          have M := hid (M.out.keep b10)
          clear b10
          go_wp2_with fail
          go_ret
          exact ⟨rfl, M.out.bel⟩
        · have q4 : ¬ (e : Int) = 4 := by omega
          have b8 := below_new w7 (.cells #[.int .i64 (e : Int), .int .i64 (p : Int)] 61)
          have k8 := Blk.new w7 61 #[.int .i64 (e : Int), .int .i64 (p : Int)]
          have M := hid (M.out.keep b8)
          have F0 := hid k8
          have g0 := k8.cell 0 rfl
          have g1 := k8.cell 1 rfl
          clear b8 k8
          go_wp2_with fail
          generalize w7.alloc (.cells #[.int .i64 (e : Int), .int .i64 (p : Int)] 61) = w8 at F0 M g0 g1 ⊢
          refine (rest_calls w.heap.size g f rr bs _ w8 M.out.rd).mono ?_
          rintro _ w9 ⟨rfl, b9, -⟩
          rw [show restS bs (.bad e p) = 0 from rfl]
          have M := hid (M.out.keep b9)
          clear b9
          go_wp2_with fail
          go_ret
          exact ⟨rfl, M.out.bel⟩
    · have q0 : ¬ (k : Int) < (m : Int) := by omega
      have hal : a ≤ n := by rw [← HBL.out]; exact HINV.out.1.good
      go_wp2_with fail
      refine (wDone_open w.heap.size g2 f2 r 1000 ⟨bs.take a, 0⟩ wr HINV.out.2.1 rfl).mono ?_
      rintro _ w4 ⟨v, rfl, h4, b4⟩
      obtain ⟨A4, c4, e4, _, s4, _⟩ := h4.sb
      have S4 := hid s4
      have HR := hid (HINV.out.1.keep b4); have B4 := hid (HINV.out.2.2.2.trans (b4.mono HINV.out.2.2.2.size))
      have hl4 : (bs.take a).length = a := by rw [List.length_take, HBL.out]; omega
      simp only at e4 S4
      rw [hl4] at e4 S4
      subst e4
      clear h4 b4 s4 HINV
      go_wp2_with fail
      refine (rest_calls w.heap.size g f rr bs (.ok a) w4 HR.out).mono ?_
      rintro _ w5 ⟨rfl, b5, -⟩
      rw [show restS bs (.ok a) = n - a from by rw [← HBL.out]; rfl]
      have q1 : (n : Int) - ((n - a : Nat) : Int) = (a : Int) := by omega
      have q2 : (a : Int) ≤ (c : Int) := by omega
      have q3 : (0 : Int) ≤ (a : Int) := by omega
      have B5 := hid (B4.out.trans (b5.mono B4.out.size))
      have S5 := hid ((S4.out.keep b5))
      clear b5
      generalize n - a = R at q1 ⊢
      go_wp2_with fail
      refine (sameBytes_calls _ _ c4 _ _ _ A4 A (bs.take a) (bs.take a) w5 S5.out ((HS.out.keep B5.out).take a hal)).mono ?_
      rintro _ _ ⟨rfl, rfl⟩
      rw [beq_self_eq_true]
      go_wp2_with fail
      go_ret
      exact ⟨rfl, B5.out⟩
end Go.Proofs.Ytmlahlnjfoapaaa
