/- Contracts: bytes from which a manifest is read: reads, refuse, text, kind, end. -/
import Derived.Test.YtljnpaikjljmbaaWrOwnR2
import Derived.Test.YtljnpaikjljmbaaMdMem
namespace Go.Proofs.Ytljnpaikjljmbaa
open Go.RowKit

/-- Block q is a source over the reader g, f. -/
structure SrcB (w : World) (base q g f : Nat) (r : Option Nat) (bs : List UInt8) (s : RS) (rf : Nat × Nat) : Prop where
  blk : Blk w q 73 #[.pointer (some ⟨g, 0, none⟩), .int .i64 (bs.length : Int), .int .i64 (rf.1 : Int), .int .i64 (rf.2 : Int)]
  rd : RdB w base g f r bs s
  nq : q ∉ fpw g f r
  hb : base ≤ q
def SrcP (w : World) (base q g f : Nat) (r : Option Nat) (bs : List UInt8) (s' : RS) (rf' : Nat × Nat) (w' : World) : Prop := SrcB w' base q g f r bs s' rf' ∧ Chg [q, g, f] w w'
section
variable {w w' w'' : World} {base q g f : Nat} {r : Option Nat} {bs : List UInt8} {s s' : RS} {rf rf' : Nat × Nat} {L : List Nat}
theorem SrcB.chg (h : SrcB w base q g f r bs s rf) (hc : Chg L w w') (hd : ∀ b ∈ q :: fpw g f r, b ∉ L) : SrcB w' base q g f r bs s rf :=
  ⟨h.blk.chg hc (hd q (List.mem_cons_self ..)), h.rd.chg hc (fun b hb => hd b (List.mem_cons_of_mem _ hb)), h.nq, h.hb⟩
theorem SrcB.keep (h : SrcB w base q g f r bs s rf) (hb : Below w.heap.size w w') : SrcB w' base q g f r bs s rf := h.chg (L := []) (Chg.of_below hb) (by simp)
theorem SrcB.lt (h : SrcB w base q g f r bs s rf) : ∀ b ∈ q :: fpw g f r, b < w.heap.size := fun b hb => by
  rcases List.mem_cons.1 hb with rfl | hb
  · exact h.blk.lt
  · exact (h.rd.fp_lt b hb).2
/-- what the reader did -/
theorem SrcB.read (h : SrcB w base q g f r bs s rf) (hp : RdPost w base g f r bs s' w') : SrcP w base q g f r bs s' rf w' := by
  have hq : q ∉ [g, f] := fun hm => h.nq (by rw [mem_fpw]; simp at hm; rcases hm with e | e; exact .inr (.inl e); exact .inl e)
  exact ⟨⟨h.blk.chg hp.2 hq, hp.1, h.nq, h.hb⟩, hp.2.more (fun b hb => .inl (List.mem_cons_of_mem _ hb))⟩
theorem SrcP.trans (h : Chg [q, g, f] w w') (k : SrcP w' base q g f r bs s' rf' w'') : SrcP w base q g f r bs s' rf' w'' := ⟨k.1, h.trans k.2 (fun _ hb => .inl hb)⟩
theorem SrcP.fresh (h : Below w.heap.size w w') (k : SrcP w' base q g f r bs s' rf' w'') : SrcP w base q g f r bs s' rf' w'' := SrcP.trans (Chg.of_below h) k
theorem SrcP.refl (h : SrcB w base q g f r bs s rf) : SrcP w base q g f r bs s rf w := ⟨h, Chg.refl _ _⟩
theorem SrcB.good (h : SrcB w base q g f r bs s rf) : s.good bs.length := h.rd.good
end
def readsB (s : RS) (rf : Nat × Nat) : Bool := decide (rf.1 = 0) && decide (s.err = 0)
def refuseF (s : RS) (rf : Nat × Nat) (e p : Nat) : Nat × Nat := if readsB s rf = true then (e, p) else rf
section
variable (base q g f : Nat) (r : Option Nat) (bs : List UInt8) (s : RS) (rf : Nat × Nat) (w : World)
theorem src_text (h : SrcB w base q g f r bs s rf) : Calls Try.prog 68 #[.pointer (some ⟨q, 0, none⟩)] w fun e w' => e = .returned (.string (strB (sizedS bs 4096 s).1)) ∧ SrcP w base q g f r bs (sizedS bs 4096 s).2 rf w' := by
  have HC := hid (rText_calls base g f r bs s w 4096 h.rd)
  have HP := hid (fun w' (hp : RdPost w base g f r bs (sizedS bs 4096 s).2 w') => h.read hp)
  have c0 := h.blk.cell 0 rfl
  generalize sizedS bs 4096 s = S at HC HP ⊢
  clear h
  generalize strB S.1 = st at HC ⊢
  go_enter Try.func68, Try.ntmps68
  go_wp2_with fail
  refine HC.out.mono ?_
  rintro _ w1 ⟨rfl, hp⟩
  have HQ := hid (HP.out w1 hp)
  clear hp HP HC c0
  go_wp2_with fail
  go_ret
  exact ⟨rfl, HQ.out⟩
set_option maxHeartbeats 1000000 in
theorem src_reads (h : SrcB w base q g f r bs s rf) : Calls Try.prog 99 #[.pointer (some ⟨q, 0, none⟩)] w fun e w' => e = .returned (.bool (readsB s rf)) ∧ Below w.heap.size w w' := by
  have HR := hid (rest_calls base g f r bs s w h.rd)
  have HN := hid (fun W (hW : Below w.heap.size w W) => rEnd_calls base g f r bs s W (h.rd.keep hW))
  have hgd := h.good
  have HC := hid (fun W (hW : Below w.heap.size w W) => ((h.keep hW).blk.cell 0 rfl : W.cell? ⟨q, 0, none⟩ = some (.pointer (some ⟨g, 0, none⟩))))
  have c0 := h.blk.cell 0 rfl
  have c2 := h.blk.cell 2 rfl
  have hfd : ∀ x y w, (Instr.field 43 (.agg #[x, y]) 0).run Try.prog w = .ok x w := fun x y w => by kernel_rfl
  unfold readsB
  clear h
  by_cases hr : rf.1 = 0
  · rw [show decide (rf.1 = 0) = true from by simp [hr], Bool.true_and]
    rw [hr] at c2
    by_cases hs : s.err = 0
    · obtain ⟨a, rfl, hal⟩ := good_err hgd hs
      rw [show decide ((RS.ok a).err = 0) = true from rfl]
      by_cases ha : a < bs.length
      · have q0 : (0 : Int) < (restS bs (.ok a) : Int) := by
          have : restS bs (.ok a) = bs.length - a := rfl
          omega
        generalize restS bs (.ok a) = R at HR q0
        clear HN hgd hs hr
        go_enter Try.func99, Try.ntmps99
        go_wp2_with fail
        refine HR.out.mono ?_
        rintro _ w1 ⟨rfl, hb1, -⟩
        have HB := hid hb1
        clear hb1 HR
        go_wp2_with fail
        go_ret
        exact ⟨rfl, HB.out⟩
      · have hR : restS bs (.ok a) = 0 := by
          have : restS bs (.ok a) = bs.length - a := rfl
          omega
        have hE : endS bs (.ok a) = (0, 0) := if_neg ha
        rw [hR] at HR
        rw [hE] at HN
        clear hgd hs hr hR hE
        go_enter Try.func99, Try.ntmps99
        go_wp2_with fail
        refine HR.out.mono ?_
        rintro _ w1 ⟨rfl, hb1, -⟩
        have c1 := HC.out w1 hb1
        have HB := hid hb1
        clear hb1 HR
        go_wp2_with fail
        refine (HN.out w1 HB.out).mono ?_
        rintro _ w2 ⟨rfl, hb2⟩
        have HB2 := hid (HB.out.trans (hb2.mono HB.out.size))
        clear hb2 HN HB
        go_wp2_with fail
        go_ret
        exact ⟨rfl, HB2.out⟩
    · rw [show decide (s.err = 0) = false from by simp [hs]]
      have hR : restS bs s = 0 := by
        cases s with
        | ok a => exact absurd rfl hs
        | bad e p => rfl
      have hE : (endS bs s).1 = s.err := by
        cases s with
        | ok a => exact absurd rfl hs
        | bad e p => rfl
      rw [hR] at HR
      rw [hE] at HN
      have hs1 : ¬ (s.err : Int) = 0 := by omega
      generalize s.err = z at HN hs hs1
      generalize (endS bs s).2 = z2 at HN
      clear hgd hr hR hE
      go_enter Try.func99, Try.ntmps99
      go_wp2_with fail
      refine HR.out.mono ?_
      rintro _ w1 ⟨rfl, hb1, -⟩
      have c1 := HC.out w1 hb1
      have HB := hid hb1
      clear hb1 HR
      go_wp2_with fail
      refine (HN.out w1 HB.out).mono ?_
      rintro _ w2 ⟨rfl, hb2⟩
      have HB2 := hid (HB.out.trans (hb2.mono HB.out.size))
      clear hb2 HN HB
      go_wp2_with fail
      go_ret
      exact ⟨ret_bool (by simp <;> omega), HB2.out⟩
  · rw [show decide (rf.1 = 0) = false from by simp [hr], Bool.false_and]
    have hr1 : ¬ (rf.1 : Int) = 0 := by omega
    generalize rf.1 = z at c2 hr hr1
    clear HR HN hgd
    go_enter Try.func99, Try.ntmps99
    go_wp2_with fail
    go_ret
    exact ⟨ret_bool (by simp <;> omega), Below.refl _ _⟩
set_option maxHeartbeats 1000000 in
theorem src_refuse (e p : Nat) (h : SrcB w base q g f r bs s rf) : Calls Try.prog 84 #[.pointer (some ⟨q, 0, none⟩), .int .i64 (e : Int), .int .i64 (p : Int)] w fun e' w' => e' = .returned (.tuple #[]) ∧ SrcP w base q g f r bs s (refuseF s rf e p) w' := by
  have HR := hid (src_reads base q g f r bs s rf w h)
  have HH := hid h
  have HF1 := hid (show readsB s rf = false → refuseF s rf e p = rf from fun h => if_neg (by rw [h]; simp))
  have HF2 := hid (show readsB s rf = true → refuseF s rf e p = (e, p) from fun h => if_pos h)
  generalize refuseF s rf e p = F at HF1 HF2 ⊢
  generalize readsB s rf = b at HR HF1 HF2
  clear h
  go_enter Try.func84, Try.ntmps84
  go_wp2_with fail
  refine HR.out.mono ?_
  rintro _ w1 ⟨rfl, hb⟩
  have H1 := HH.out.keep hb
  have HB := hid hb
  clear hb HR
  cases b with
  | false =>
    have H1 := hid H1
    obtain rfl := HF1.out rfl
    go_wp2_with fail
    go_end0
    exact ⟨rfl, SrcP.fresh HB.out (SrcP.refl H1.out)⟩
  | true =>
    have d2 := H1.blk.cell 2 rfl
    have d3 := H1.blk.cell 3 rfl
    have f2 := H1.blk.frozen 2
    have f3 := H1.blk.frozen 3
    have HF := hid (show SrcP w1 base q g f r bs s (e, p) ((w1.setCell ⟨q, 2, none⟩ (.int .i64 (e : Int))).setCell ⟨q, 3, none⟩ (.int .i64 (p : Int))) from by
      have k : Chg [q] w1 ((w1.setCell ⟨q, 2, none⟩ (.int .i64 (e : Int))).setCell ⟨q, 3, none⟩ (.int .i64 (p : Int))) := (chg_set (L := [q]) (by simp) 2 _).trans (chg_set (L := [q]) (by simp) 3 _) (fun b hb => .inl hb)
      refine ⟨⟨(H1.blk.set_ 2 _).set_ 3 _, H1.rd.chg k (fun b hb hm => ?_), H1.nq, H1.hb⟩, k.more (fun b hb => .inl (by simp at hb; simp [hb]))⟩
      simp at hm; subst hm; exact H1.nq hb)
    clear H1
    obtain rfl := HF2.out rfl
    go_wp2_with fail
    go_end0
    exact ⟨rfl, SrcP.fresh HB.out HF.out⟩
/-- what stands ahead of the title -/
def kind1 (bs : List UInt8) (s : RS) (rf : Nat × Nat) : Nat × Nat := if (numS bs maxI 0 s).1 = 77 then rf else refuseF (numS bs maxI 0 s).2 rf 20 0
def kind2 (bs : List UInt8) (s : RS) (rf : Nat × Nat) : Nat × Nat := if (numS bs maxI 0 s).1 = 3 ∨ (numS bs maxI 0 s).1 = 4 then rf else refuseF (numS bs maxI 0 s).2 rf 20 0
set_option maxHeartbeats 1000000 in
theorem src_kind (h : SrcB w base q g f r bs s rf) : Calls Try.prog 67 #[.pointer (some ⟨q, 0, none⟩)] w fun e w' => e = .returned (.int .i64 ((numS bs maxI 0 (numS bs maxI 0 s).2).1 : Int)) ∧ SrcP w base q g f r bs (numS bs maxI 0 (numS bs maxI 0 s).2).2 (kind2 bs (numS bs maxI 0 s).2 (kind1 bs s rf)) w' := by
  have HN1 := hid (rNum_calls base g f r bs s w h.rd)
  have HN2 := hid (fun W rf' (h : SrcB W base q g f r bs (numS bs maxI 0 s).2 rf') => rNum_calls base g f r bs (numS bs maxI 0 s).2 W h.rd)
  have HH := hid h
  have hk1 : kind1 bs s rf = if (numS bs maxI 0 s).1 = 77 then rf else refuseF (numS bs maxI 0 s).2 rf 20 0 := rfl
  generalize kind1 bs s rf = rf1 at hk1 ⊢
  have hk2 : kind2 bs (numS bs maxI 0 s).2 rf1 = if (numS bs maxI 0 (numS bs maxI 0 s).2).1 = 3 ∨ (numS bs maxI 0 (numS bs maxI 0 s).2).1 = 4 then rf1 else refuseF (numS bs maxI 0 (numS bs maxI 0 s).2).2 rf1 20 0 := rfl
  generalize kind2 bs (numS bs maxI 0 s).2 rf1 = rf2 at hk2 ⊢
  generalize hq1 : numS bs maxI 0 s = q1 at HN1 HN2 hk1 hk2 ⊢
  generalize hq2 : numS bs maxI 0 q1.2 = q2 at HN2 hk2 ⊢
  obtain ⟨n1, s1⟩ := q1
  obtain ⟨n2, s2⟩ := q2
  dsimp only at HN1 HN2 hk1 hk2 ⊢
  have HK1 := hid hk1; have HK2 := hid hk2
  have c0 := h.blk.cell 0 rfl
  clear h hk1 hk2 hq1 hq2
  go_enter Try.func67, Try.ntmps67
  go_wp2_with fail
  refine HN1.out.mono ?_
  rintro _ w1 ⟨rfl, hp⟩
  have HP1 := hid (HH.out.read hp)
  clear hp c0 HN1
  by_cases e77 : n1 = 77
  · subst e77
    have HQ1 := hid (show SrcP w base q g f r bs s1 rf1 w1 from by rw [HK1.out, if_pos rfl]; exact HP1.out)
    clear HP1 HK1
    rw [show ((77 : Nat) : Int) = 77 from rfl]
    have c1 := HQ1.out.1.blk.cell 0 rfl
    go_wp2_with fail
    refine (HN2.out _ _ HQ1.out.1).mono ?_
    rintro _ w3 ⟨rfl, hp3⟩
    have HP3 := hid (SrcP.trans HQ1.out.2 (HQ1.out.1.read hp3))
    clear hp3 HN2 c1 HQ1
    by_cases e3 : n2 = 3
    · subst e3
      have HE := hid (show rf2 = rf1 from by rw [HK2.out, if_pos (.inl rfl)])
      go_wp2_with fail
      go_ret
      exact ⟨rfl, by rw [HE.out]; exact HP3.out⟩
    · by_cases e4 : n2 = 4
      · subst e4
        have HE := hid (show rf2 = rf1 from by rw [HK2.out, if_pos (.inr rfl)])
        go_wp2_with fail
        go_ret
        exact ⟨rfl, by rw [HE.out]; exact HP3.out⟩
      · have HE := hid (show rf2 = refuseF s2 rf1 20 0 from by rw [HK2.out, if_neg (by omega)])
        have e3' : ((n2 : Int) != 3) = true := by simp; omega
        have e4' : ((n2 : Int) != 4) = true := by simp; omega
        go_wp2_with fail
        refine (src_refuse base q g f r bs s2 rf1 w3 20 0 HP3.out.1).mono ?_
        rintro _ w4 ⟨rfl, hp4⟩
        have HP4 := hid (SrcP.trans HP3.out.2 hp4)
        clear hp4 HP3
        go_wp2_with fail
        go_ret
        exact ⟨rfl, by rw [HE.out]; exact HP4.out⟩
  · have e77' : ¬ (n1 : Int) = 77 := by omega
    go_wp2_with fail
    refine (src_refuse base q g f r bs s1 rf w1 20 0 HP1.out.1).mono ?_
    rintro _ w2 ⟨rfl, hp2⟩
    have HQ1 := hid (show SrcP w base q g f r bs s1 rf1 w2 from by rw [HK1.out, if_neg e77]; exact SrcP.trans HP1.out.2 hp2)
    clear hp2 HP1 HK1
    have c1 := HQ1.out.1.blk.cell 0 rfl
    go_wp2_with fail
    refine (HN2.out _ _ HQ1.out.1).mono ?_
    rintro _ w3 ⟨rfl, hp3⟩
    have HP3 := hid (SrcP.trans HQ1.out.2 (HQ1.out.1.read hp3))
    clear hp3 HN2 c1 HQ1
    by_cases e3 : n2 = 3
    · subst e3
      have HE := hid (show rf2 = rf1 from by rw [HK2.out, if_pos (.inl rfl)])
      go_wp2_with fail
      go_ret
      exact ⟨rfl, by rw [HE.out]; exact HP3.out⟩
    · by_cases e4 : n2 = 4
      · subst e4
        have HE := hid (show rf2 = rf1 from by rw [HK2.out, if_pos (.inr rfl)])
        go_wp2_with fail
        go_ret
        exact ⟨rfl, by rw [HE.out]; exact HP3.out⟩
      · have HE := hid (show rf2 = refuseF s2 rf1 20 0 from by rw [HK2.out, if_neg (by omega)])
        have e3' : ((n2 : Int) != 3) = true := by simp; omega
        have e4' : ((n2 : Int) != 4) = true := by simp; omega
        go_wp2_with fail
        refine (src_refuse base q g f r bs s2 rf1 w3 20 0 HP3.out.1).mono ?_
        rintro _ w4 ⟨rfl, hp4⟩
        have HP4 := hid (SrcP.trans HP3.out.2 hp4)
        clear hp4 HP3
        go_wp2_with fail
        go_ret
        exact ⟨rfl, by rw [HE.out]; exact HP4.out⟩
/-- the first fault, or that bytes are left -/
def srcEnd (bs : List UInt8) (s : RS) (rf : Nat × Nat) : Nat × Nat := if rf.1 = 0 then endS bs s else rf
set_option maxHeartbeats 1000000 in
theorem src_end (h : SrcB w base q g f r bs s rf) : Calls Try.prog 45 #[.pointer (some ⟨q, 0, none⟩)] w fun e w' => e = .returned (.agg #[.int .i64 ((srcEnd bs s rf).1 : Int), .int .i64 ((srcEnd bs s rf).2 : Int)]) ∧ Below w.heap.size w w' := by
  have b1 := below_new w (.cells #[.int .i64 0, .int .i64 0] 43)
  have k1 := Blk.new w 43 #[.int .i64 0, .int .i64 0]
  have H1 := h.keep b1
  generalize hw1 : w.alloc (.cells #[.int .i64 0, .int .i64 0] 43) = w1 at b1 k1 H1
  have HN := hid (rEnd_calls base g f r bs s w1 H1.rd)
  have c0 := H1.blk.cell 0 rfl
  have c2 := H1.blk.cell 2 rfl
  have c3 := H1.blk.cell 3 rfl
  have HE1 := hid (show rf.1 = 0 → srcEnd bs s rf = endS bs s from fun h => if_pos h)
  have HE2 := hid (show ¬ rf.1 = 0 → srcEnd bs s rf = rf from fun h => if_neg h)
  generalize srcEnd bs s rf = E at HE1 HE2 ⊢
  generalize endS bs s = E1 at HN HE1
  have HB := hid b1; have HK := hid k1; have HW1 := hid hw1
  obtain ⟨z1, z2⟩ := rf
  dsimp only at c2 c3 HE1 HE2
  clear h H1 b1 k1 hw1
  by_cases hr : z1 = 0
  · subst hr
    obtain rfl := HE1.out rfl
    obtain ⟨x, y⟩ := E
    dsimp only at HN ⊢
    rw [show ((0 : Nat) : Int) = 0 from rfl] at c2
    have hw1 := HW1.out
    go_enter Try.func45, Try.ntmps45
    go_wp2_with fail
    clear hw1 HW1
    refine HN.out.mono ?_
    rintro _ w2 ⟨rfl, hb2⟩
    have k2 := HK.out.keep hb2
    have d0 := k2.cell 0 rfl
    have d1 := k2.cell 1 rfl
    have f0 := k2.frozen 0
    have f1 := k2.frozen 1
    have hb2' := HB.out.trans (hb2.mono HB.out.size)
    have FIN := hid (show Blk ((w2.setCell ⟨w.heap.size, 0, none⟩ (.int .i64 (x : Int))).setCell ⟨w.heap.size, 1, none⟩ (.int .i64 (y : Int))) w.heap.size 43 #[.int .i64 (x : Int), .int .i64 (y : Int)] ∧ Below w.heap.size w ((w2.setCell ⟨w.heap.size, 0, none⟩ (.int .i64 (x : Int))).setCell ⟨w.heap.size, 1, none⟩ (.int .i64 (y : Int))) from
      ⟨(k2.set_ 0 _).set_ 1 _, hb2'.trans ((below_of_grown (grown_setCell w2 w.heap.size 0 _) hb2'.size (fun g e => by cases e; exact Nat.le_refl _)).trans (below_of_grown (grown_setCell _ w.heap.size 1 _) (by simpa using hb2'.size) (fun g e => by cases e; exact Nat.le_refl _)))⟩)
    clear k2 hb2 hb2' HN
    go_wp2_with fail
    refine bodyPost_ret (v := .agg #[.int .i64 (x : Int), .int .i64 (y : Int)]) (results_cell_row rfl _ _ w.heap.size 43 _ (0, 0) _ rfl FIN.out.1 Try.underlying43 rfl (size_fault _ rfl)) rfl ⟨rfl, FIN.out.2⟩
  · have hr1 : ¬ (z1 : Int) = 0 := by omega
    obtain rfl := HE2.out hr
    dsimp only
    have k2 := HK.out
    have d0 := k2.cell 0 rfl
    have d1 := k2.cell 1 rfl
    have f0 := k2.frozen 0
    have f1 := k2.frozen 1
    have FIN := hid (show Blk ((w1.setCell ⟨w.heap.size, 0, none⟩ (.int .i64 (z1 : Int))).setCell ⟨w.heap.size, 1, none⟩ (.int .i64 (z2 : Int))) w.heap.size 43 #[.int .i64 (z1 : Int), .int .i64 (z2 : Int)] ∧ Below w.heap.size w ((w1.setCell ⟨w.heap.size, 0, none⟩ (.int .i64 (z1 : Int))).setCell ⟨w.heap.size, 1, none⟩ (.int .i64 (z2 : Int))) from
      ⟨(k2.set_ 0 _).set_ 1 _, HB.out.trans ((below_of_grown (grown_setCell w1 w.heap.size 0 _) HB.out.size (fun g e => by cases e; exact Nat.le_refl _)).trans (below_of_grown (grown_setCell _ w.heap.size 1 _) (by simpa using HB.out.size) (fun g e => by cases e; exact Nat.le_refl _)))⟩)
    have hw1 := HW1.out
    clear k2 HN c0
    go_enter Try.func45, Try.ntmps45
    go_wp2_with fail
    refine bodyPost_ret (v := .agg #[.int .i64 (z1 : Int), .int .i64 (z2 : Int)]) (results_cell_row rfl _ _ w.heap.size 43 _ (0, 0) _ rfl FIN.out.1 Try.underlying43 rfl (size_fault _ rfl)) rfl ⟨rfl, FIN.out.2⟩
end
end Go.Proofs.Ytljnpaikjljmbaa
