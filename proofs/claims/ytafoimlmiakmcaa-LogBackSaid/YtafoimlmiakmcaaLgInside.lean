/- The law LogInside, walked. -/
import Derived.Test.YtafoimlmiakmcaaLgRoom
import Derived.Test.YtafoimlmiakmcaaKit2
namespace Go.Proofs.Ytafoimlmiakmcaa
open Go.RowKit

theorem DevB.keepB {w w' : World} {base B g : Nat} {F : List Nat} {s : DS} (h : DevB w base F g s) (hb : Below B w w') (hF : ∀ b ∈ F, b < B) : DevB w' base F g s :=
  h.chg (L := List.range' B (w.heap.size - B)) ⟨hb.os, hb.tape, hb.output, hb.size, fun k hk hm => hb.block k (by
    rcases Nat.lt_or_ge k B with h | h
    · exact h
    · exact absurd (List.mem_range'_1.2 ⟨h, by omega⟩) hm)⟩ (fun b hb hm => by
    have := hF b hb
    have := (List.mem_range'_1.1 hm).1
    omega)
/-- what the law has, beside what it makes from block B1 on -/
structure InS (w wr : World) (base B1 G g : Nat) (F : List Nat) (s : DS) (A : Option Addr) (n : Nat) (bs : List UInt8) (ac : Array Value) : Prop where
  below : Below w.heap.size w wr
  size : B1 ≤ wr.heap.size
  dev : DevB wr base F g s
  lt : ∀ b ∈ F, b < B1
  area : Blk wr G 33 ac
  glt : G < B1
  gf : G ∉ F
  text : SB wr w.heap.size A n bs
  lo : w.heap.size ≤ base
  bw : base ≤ B1
section
variable {w wr w' : World} {base B1 G g : Nat} {F : List Nat} {s s' : DS} {A : Option Addr} {n : Nat} {bs : List UInt8} {ac : Array Value}
theorem InS.keepB (h : InS w wr base B1 G g F s A n bs ac) (hb : Below B1 wr w') : InS w w' base B1 G g F s A n bs ac :=
  ⟨h.below.trans (hb.mono (by have := h.lo; have := h.bw; omega)), Nat.le_trans h.size hb.size, h.dev.keepB hb h.lt, h.lt, h.area.keepB hb h.glt, h.glt, h.gf, h.text.keepB (hb.mono (by have := h.lo; have := h.bw; omega)), h.lo, h.bw⟩
theorem InS.keep (h : InS w wr base B1 G g F s A n bs ac) (hb : Below wr.heap.size wr w') : InS w w' base B1 G g F s A n bs ac := h.keepB (hb.mono h.size)
theorem InS.drew (h : InS w wr base B1 G g F s A n bs ac) : InS w wr.drew base B1 G g F s A n bs ac := h.keep ((Below.refl _ _).drew)
/-- behind a change of the device; new things come from here on -/
theorem InS.at_ (h : InS w wr base B1 G g F s A n bs ac) (hp : DevAt wr base F g s' w') : ∃ F', InS w w' base w'.heap.size G g F' s' A n bs ac ∧ Chg F wr w' ∧ ∀ b ∈ F', b ∈ F ∨ wr.heap.size ≤ b := by
  obtain ⟨F', h1, h2, h3⟩ := hp
  refine ⟨F', ⟨h.below.trans (h2.below (fun b hb => Nat.le_trans h.lo (h.dev.lt b hb).1) h.below.size), Nat.le_refl _, h1, fun b hb => (h1.lt b hb).2, h.area.chg h2 h.gf, ?_, ?_, h.text.chg h2 (fun b off _ hlt hm => ?_), h.lo, ?_⟩, h2, h3⟩
  · have := h.glt; have := h.size; have := h2.size; omega
  · intro hm
    rcases h3 G hm with h4 | h4
    · exact h.gf h4
    · have := h.glt; have := h.size; omega
  · have := (h.dev.lt b hm).1
    have := h.lo
    omega
  · have := h.bw; have := h.size; have := h2.size; omega
theorem InS.dev1 (h : InS w wr base B1 G g F s A n bs ac) : Dev1 w wr g s := ⟨h.below, F, dev_lower h.dev h.lo⟩
end
theorem plain_read {s : DS} (hok : s.OK) (hp : Plain s) {i : Nat} (hi : i < s.n) : readE s (i : Int) = 0 ∧ readB s (i : Int) = secAt s.now i ∧ (readB s (i : Int)).length = 64 := by
  have h1 := has_plain hi
  have e : readB s (i : Int) = secAt s.now i := by
    unfold readB
    rw [if_neg (by rw [hp.2]; simp), if_pos h1, Int.toNat_natCast]
  refine ⟨?_, e, by rw [e]; exact secAt_length hok.n1 hi⟩
  unfold readE
  rw [if_neg (by rw [hp.2]; simp), if_pos h1]
/-- the first sector, where one would be next, is none -/
theorem last_has {N gen at_ : Nat} {recs : List (List UInt8)} {s : DS} (h : LogS 0 N gen at_ recs s) (h0 : 0 < at_) (h1 : at_ < N) : hasL (putS s at_ (secAt s.now 0)) (areaN 0 N gen) (at_ : Int) recs = true := by
  have hroom := h.room
  have hnb := h.ok.nb
  have hb : (secAt s.now 0).length = 64 := secAt_length h.ok.n1 (by omega)
  have hin : at_ < s.n := by omega
  refine has_of (s := putS s at_ (secAt s.now 0)) ⟨h.plain.1, h.plain.2⟩ (by show 0 + N ≤ s.n; omega) (by show 0 < s.n; omega) h.g1 h.g2 (scan_at h.le (fun sec fuel hs => h.pre sec fuel (fun i hi => ?_)) (fun _ => ?_))
  · rw [hs i hi]
    unfold secsOf
    exact secPut_other h.ok.n1 hin hb (by omega) (by omega)
  · unfold secsOf
    show validB gen at_ (secAt (secPut s.now at_ (secAt s.now 0)) (0 + at_)) = false
    rw [Nat.zero_add, secPut_same h.ok.n1 hin hb]
    obtain ⟨k, p, -, hp, e⟩ := h.old 0 h0
    have e' : secAt s.now 0 = secL gen 0 k p := e
    rw [e']
    cases hv : validB gen at_ (secL gen 0 k p)
    · rfl
    · exact absurd (valid_idx (by omega) (by omega) hv) (by omega)
def arIn : Array Value := #[.int .i64 0, .int .i64 40, .int .i64 9]
theorem arIn_eq : arv (areaN 0 40 9) = .agg #[.int .i64 0, .int .i64 40, .int .i64 9] := rfl
theorem inside_long (A : Option Addr) (n c : Nat) (z : Int) (w : World) (hn : 100 < n) : Calls Try.prog 9 #[.slice A n c, .int .i64 z] w fun e w' => e = .returned (.bool true) ∧ Below w.heap.size w w' := by
  go_enter Try.func9, Try.ntmps9
  go_wp2_with fail
  refine (known_calls w).mono ?_
  rintro _ w1 ⟨rfl, h⟩
  have H := hid h
  clear h
  go_wp2_with fail
  go_ret
  exact ⟨rfl, H.out⟩
set_option maxHeartbeats 8000000 in
set_option maxRecDepth 20000 in
theorem inside_short (A : Option Addr) (n c : Nat) (bs : List UInt8) (z : Int) (w : World) (hs : SB w w.heap.size A n bs) (hc : n ≤ c) (hn : n ≤ 100) : Calls Try.prog 9 #[.slice A n c, .int .i64 z] w fun e w' => e = .returned (.bool true) ∧ Below w.heap.size w w' := by
  have hlen := hs.1
  have hn' : ¬ 100 < n := by omega
  have HS := hid hs
  clear hs
  go_enter Try.func9, Try.ntmps9
  go_wp2_with fail
  refine (known_calls w).mono ?_
  rintro _ w1 ⟨rfl, h⟩
  have HB := hid h
  clear h
  go_wp2_with fail
  refine (room_calls 0 40 9 (by omega) (by omega) (by omega) w1).mono ?_
  rintro _ w2 ⟨g, s0, rfl, hd, hL, hl0, hn0, -⟩
  rw [arIn_eq]
  have HL := hid hL; have HD := hid hd; have HL0 := hid hl0; have HN0 := hid hn0
  clear hd hL hl0 hn0
  have kz := Blk.new w2 33 #[.int .i64 0, .int .i64 0, .int .i64 0]
  have HNS := hid (new_set w2 33 #[.int .i64 0, .int .i64 0, .int .i64 0] #[.int .i64 0, .int .i64 40, .int .i64 9])
  have x0 := HNS.out.2.cell 0 rfl
  have x1 := HNS.out.2.cell 1 rfl
  have x2 := HNS.out.2.cell 2 rfl
  go_wp2_with (first
    | (refine wpList_alloc_blk rfl 33 rfl _ info_area ?_)
    | (refine wpList_store_blk rfl 33 _ _ rfl w2.heap.size #[.int .i64 0, .int .i64 40, .int .i64 9] rfl rfl 33 _ kz size_area rfl rfl ?_))
  obtain ⟨bA, kA⟩ := HNS.out
  have sA : ((w2.alloc (.cells #[.int .i64 0, .int .i64 0, .int .i64 0] 33)).setRow w2.heap.size #[.int .i64 0, .int .i64 40, .int .i64 9]).heap.size = w2.heap.size + 1 := by simp
  clear x0 x1 x2 kz HNS
  generalize (w2.alloc (.cells #[.int .i64 0, .int .i64 0, .int .i64 0] 33)).setRow w2.heap.size #[.int .i64 0, .int .i64 40, .int .i64 9] = w3 at kA bA sA ⊢
  obtain ⟨F0, hI, hB13⟩ : ∃ F0, InS w w3 w1.heap.size w3.heap.size w2.heap.size g F0 s0 A n bs #[.int .i64 0, .int .i64 40, .int .i64 9] ∧ Below w1.heap.size w1 w3 := by
    obtain ⟨hb2, F0, hd⟩ := HD.out
    have hb3 := hb2.trans (bA.mono hb2.size)
    exact ⟨F0, ⟨HB.out.trans (hb3.mono HB.out.size), Nat.le_refl _, hd.keep bA, fun b hb => by have := (hd.lt b hb).2; omega, kA, by omega, fun hm => by have := (hd.lt _ hm).2; omega, (HS.out.keep HB.out).keep (hb3.mono (Nat.le_refl _)), HB.out.size, by have := hb2.size; omega⟩, hb3⟩
  have HI := hid hI; have HB13 := hid hB13
  clear kA bA sA HD HS HB hI hB13
  generalize hG : w2.heap.size = G at HI ⊢
  have hneed : needN bs.length ≤ 3 := by unfold needN; omega
  obtain ⟨s1, e1, hL1, hP1⟩ := HL.out.write (rec := bs) (by omega) (by omega)
  have HW := hid (lgWrite_calls w1.heap.size g F0 s0 w3 (areaN 0 40 9) ((0 : Nat) : Int) A n c w.heap.size bs HI.out.dev HI.out.bw (HL.out.plain.ok (by rw [HL0.out]; show (0 : Nat) ≤ 1000000; omega)) (by rw [HL0.out]; show 0 + 65536 ≤ 1000000; omega) HI.out.text hc (fun hp b off e hm => by
    have h1 := (HI.out.dev.lt b hm).1
    have h2 := HI.out.lo
    obtain ⟨b', off', e', hlt, -⟩ := HI.out.text.2 hp
    rw [e] at e'; cases e'
    omega))
  have HE1 := hid e1; have HL1 := hid hL1; have HP1 := hid hP1
  clear e1 hL1 hP1 HL
  refine HW.out.mono ?_
  rintro _ w4 ⟨rfl, hp⟩
  rw [HE1.out] at hp ⊢
  dsimp only at hp ⊢
  rw [show ((0 : Nat) : Int) = 0 from rfl]
  obtain ⟨F1, hI, hcg, -⟩ := HI.out.at_ hp
  have HB14 := hid (HB13.out.trans (hcg.below (B := w1.heap.size) (fun b hb => (HI.out.dev.lt b hb).1) HB13.out.size))
  have HI := hid hI
  have hpos := need_pos bs.length
  have hL1 : LogS 0 40 9 (needN bs.length) [bs] s1 := by have h := HL1.out; rw [Nat.zero_add] at h; exact h
  have hl1 : s1.loose.length = needN bs.length := by rw [HP1.out.loose, HL0.out]; simp [recSecs]
  have hn1 : s1.n = 41 := by rw [HP1.out.n, HN0.out]
  rw [Nat.zero_add]
  clear hp hI hcg HW HE1 HB13 HP1 HL0 HN0 HL1
  generalize hnn : needN bs.length = n1 at hL1 hl1 hneed hpos ⊢
  have HL1 := hid hL1; have Hl1 := hid hl1; have Hn1 := hid hn1
  clear hL1 hl1 hn1
  go_wp2_with fail
  go_loopw [10, 11, 12, 13, 14] (fun v10 v11 _ _ _ wr => ∃ (k len : Nat) (ls : List UInt8), v11 = .int .i64 (k : Int) ∧ k ≤ 5 ∧ len ≤ 192 * k ∧ Hid (Own wr w4.heap.size 5 v10 len ls) ∧ Hid (InS w wr w1.heap.size w4.heap.size G g F1 s1 A n bs #[.int .i64 0, .int .i64 40, .int .i64 9])) (fun _ v11 _ _ _ _ => 6 - (intOf v11).toNat)
  case atStart => exact ⟨0, 0, [], rfl, by omega, by omega, hid (Own.nil _ _ _), HI⟩
  case round =>
    obtain ⟨k, len, ls, rfl, hk, hlen2, HO, HJ⟩ := hrel
    go_wp2_with fail
    refine (pick_calls z 5 wr (by omega) (by omega)).mono ?_
    rintro _ _ ⟨rfl, rfl⟩
    have hz5 : z % 5 < 5 := Int.emod_lt_of_pos z (by omega)
    generalize z % 5 = P at hz5 ⊢
    by_cases hkp : (k : Int) ≤ P
    · have hk5 : k ≤ 4 := by omega
      go_wp2_with fail
      go_loopw [10, 12, 13, 14] (fun v10 v12 _ _ wx => ∃ (i len' : Nat) (ls' : List UInt8), v12 = .int .i64 (i : Int) ∧ i ≤ n1 ∧ len' ≤ 192 * k + 64 * i ∧ Hid (Own wx w4.heap.size 5 v10 len' ls') ∧ Hid (InS w wx w1.heap.size w4.heap.size G g F1 s1 A n bs #[.int .i64 0, .int .i64 40, .int .i64 9])) (fun _ v12 _ _ _ => n1 - (intOf v12).toNat)
      case atStart => exact ⟨0, len, ls, rfl, by omega, by omega, HO, HJ⟩
      case round =>
        clear HO HJ
        obtain ⟨i, len', ls', rfl, hi, hl', HO, HJ⟩ := hrel
        by_cases hin : i < n1
        · have hin' : (i : Int) < (n1 : Int) := by omega
          obtain ⟨r1, -, r3⟩ := plain_read HL1.out.ok HL1.out.plain (i := i) (by rw [Hn1.out]; omega)
          have HR := hid (dRead_calls w1.heap.size g F1 s1 wr (i : Int) HJ.out.dev)
          rw [r1] at HR
          generalize readB s1 (i : Int) = rb at HR r3
          have HR3 := hid r3
          clear r1 r3
          go_wp2_with fail
          refine HR.out.mono ?_
          rintro _ wy ⟨v, rfl, ho, hb⟩
          rw [HR3.out] at ho
          obtain ⟨A', c', rfl, hc', hs', -⟩ := ho.sb
          have HO := hid (HO.out.keep hb); have HJ := hid (HJ.out.keep hb); have HS' := hid hs'
          clear ho hb hc' hs' HR
          go_wp2_with (at_builtin; refine Held.go ?_)
          refine wpList_append_bytes wy rfl _ _ 34 rfl 5 Try.underlying34 info5' w4.heap.size u10 len' ls' rfl HO.out _ A' 64 c' rb rfl HS'.out (by omega) HJ.out.size ?_
          intro v' wz h1 h2 _
          have HJ1 := hid (HJ.out.keepB (below_of_grown h2 HJ.out.size (fun b e => (HO.out.block b e).1)))
          have HO1 := hid h1
          clear h1 h2 HO HJ HS' HR3
          go_wp2_with fail
          go_roundw
          case rel => exact ⟨i + 1, len' + 64, ls' ++ rb, by go_num, by omega, by omega, HO1, HJ1⟩
          case measure => simp [intOf]; omega
        · obtain rfl : i = n1 := by omega
          go_wp2_with fail
          go_roundw
          case rel => exact ⟨k + 1, len', ls', by go_num, by omega, by omega, HO, HJ⟩
          case measure => simp [intOf]; omega
    · have hm : len ≤ 960 := by omega
      have hls := HO.out.len
      have hneed2 : needN ls.length ≤ 20 := by unfold needN; omega
      have hpos2 := need_pos ls.length
      obtain ⟨s2, e2, hL2, hP2⟩ := HL1.out.write (rec := ls) (by omega) (by omega)
      obtain ⟨A5, c5, rfl, hc5, hs5, hblk⟩ := HO.out.sb
      have HW := hid (lgWrite_calls w1.heap.size g F1 s1 wr (areaN 0 40 9) (n1 : Int) A5 len c5 wr.heap.size ls HJ.out.dev (Nat.le_trans HJ.out.bw HJ.out.size) (HL1.out.plain.ok (by rw [Hl1.out]; omega)) (by rw [Hl1.out]; omega) hs5 hc5 (fun hp b off e hm => by
        have h1 := HJ.out.lt b hm
        have h2 := (hblk b (by rw [e]; rfl)).1
        omega))
      have c0 := HJ.out.area.cell 0 rfl
      have c1 := HJ.out.area.cell 1 rfl
      have c2 := HJ.out.area.cell 2 rfl
      have HE2 := hid e2; have HL2 := hid hL2; have HP2 := hid hP2; have HS5 := hid hs5; have HBK := hid hblk
      clear e2 hL2 hP2 hs5 hblk
      go_wp2_with fail
      refine HW.out.mono ?_
      rintro _ w5 ⟨rfl, hp⟩
      rw [HE2.out] at hp ⊢
      dsimp only at hp ⊢
      rw [show ((0 : Nat) : Int) = 0 from rfl]
      obtain ⟨F2, hI2, hcg2, hF2⟩ := HJ.out.at_ hp
      have hnot : ∀ b off, A5 = some ⟨b, off, none⟩ → b ∉ F2 := fun b off e hm => by
        have h1 := HBK.out b (by rw [e]; rfl)
        rcases hF2 b hm with h2 | h2
        · have := HJ.out.lt b h2; omega
        · omega
      have HS6 := hid (HS5.out.chg hcg2 (fun b off e _ hm => by
        have h1 := HBK.out b (by rw [e]; rfl)
        have := HJ.out.lt b hm
        omega))
      have hL2 : LogS 0 40 9 (n1 + needN ls.length) [bs, ls] s2 := HL2.out
      have hl2 : s2.loose.length ≤ 23 := by rw [HP2.out.loose, List.length_append, Hl1.out]; simp [recSecs]; omega
      have hn2 : s2.n = 41 := by rw [HP2.out.n, Hn1.out]
      have hsz5 : wr.heap.size ≤ w5.heap.size := hcg2.size
      have HK := hid hI2; have HNT := hid hnot; have HCN := hid hc5
      clear c0 c1 c2 hp hI2 hcg2 hF2 hnot HW HE2 HL2 HP2 HO HJ HS5 HBK hc5 HI HL1 Hl1 Hn1
      have hm40 : n1 + needN ls.length < 40 := by omega
      have hm0 : 0 < n1 + needN ls.length := by omega
      generalize n1 + needN ls.length = m at hL2 hm40 hm0 ⊢
      have HL2 := hid hL2; have Hl2 := hid hl2; have Hn2 := hid hn2; have HLS := hid hls
      clear hL2 hl2 hn2 hls hneed2 hpos2
      have c0 := HK.out.area.cell 0 rfl
      have c1 := HK.out.area.cell 1 rfl
      have c2 := HK.out.area.cell 2 rfl
      go_wp2_with fail
      have ba := below_new w5 (.cells #[.slice A n c, .slice A5 len c5] 34)
      refine (lgHas_calls (areaN 0 40 9) (m : Int) _ 2 [bs, ls] (HK.out.keep ba).dev1 (sl_two w5 34 bs ls n c _ A len c5 _ A5 hlen HK.out.text hc HLS.out HS6.out HCN.out)).mono ?_
      rintro _ w6 ⟨rfl, hb6⟩
      rw [HL2.out.has]
      have HK := hid ((HK.out.keep ba).keep hb6); have HS6 := hid ((HS6.out.keep ba).keep hb6)
      clear c0 c1 c2 ba hb6
      have hsz6 := HK.out.size
      obtain ⟨r1, r2, r3⟩ := plain_read HL2.out.ok HL2.out.plain (i := 0) (by rw [Hn2.out]; omega)
      have HR := hid (dRead_calls w1.heap.size g F2 s2 w6 ((0 : Nat) : Int) HK.out.dev)
      rw [r1, r2] at HR
      rw [r2] at r3
      have HR3 := hid r3
      clear r1 r2 r3
      go_wp2_with fail
      refine HR.out.mono ?_
      rintro _ w7 ⟨v, rfl, ho, hb7⟩
      rw [HR3.out] at ho
      obtain ⟨A', c', rfl, hc', hs', hblk'⟩ := ho.sb
      have HK := hid (HK.out.keep hb7); have HS6 := hid (HS6.out.keep hb7)
      obtain ⟨p1, p2⟩ := write_plain HL2.out.plain (i := m) (by rw [Hn2.out]; omega) HR3.out
      have HWR := hid (dWrite_calls w1.heap.size g F2 s2 w7 (m : Int) w7.heap.size 64 c' A' (secAt s2.now 0) HK.out.dev (Nat.le_trans HK.out.bw HK.out.size) (HL2.out.plain.ok (by have := Hl2.out; omega)).1 (by have := Hl2.out; omega) hs' (fun b off e hm => by
        have h1 := (hblk' b (by rw [e]; rfl)).1
        have h2 := HK.out.lt b hm
        omega))
      rw [p1, p2] at HWR
      have c0 := HK.out.area.cell 0 rfl
      have c1 := HK.out.area.cell 1 rfl
      have c2 := HK.out.area.cell 2 rfl
      have HBK := hid hblk'
      clear ho hc' hs' hblk' hb7 HR p1 p2
      go_wp2_with fail
      refine HWR.out.mono ?_
      rintro _ w8 hp
      obtain ⟨he, hq⟩ := DevAt.of_post hp
      subst he
      obtain ⟨F3, hI3, hcg3, -⟩ := HK.out.at_ hq
      have HS6 := hid (HS6.out.chg hcg3 (fun b off e _ => HNT.out b off e))
      have HK := hid hI3
      clear c0 c1 c2 hp hq hI3 hcg3 HWR
      rw [show ((0 : Nat) : Int) = 0 from rfl]
      have c0 := HK.out.area.cell 0 rfl
      have c1 := HK.out.area.cell 1 rfl
      have c2 := HK.out.area.cell 2 rfl
      go_wp2_with fail
      have ba := below_new w8 (.cells #[.slice A n c, .slice A5 len c5] 34)
      refine (lgHas_calls (areaN 0 40 9) (m : Int) _ 2 [bs, ls] (HK.out.keep ba).dev1 (sl_two w8 34 bs ls n c _ A len c5 _ A5 hlen HK.out.text hc HLS.out HS6.out HCN.out)).mono ?_
      rintro _ w9 ⟨rfl, hb9⟩
      rw [last_has HL2.out hm0 hm40]
      have HK := hid ((HK.out.keep ba).keep hb9)
      clear c0 c1 c2 ba hb9
      go_wp2_with fail
      go_ret
      exact ⟨rfl, HK.out.below⟩
end Go.Proofs.Ytafoimlmiakmcaa
