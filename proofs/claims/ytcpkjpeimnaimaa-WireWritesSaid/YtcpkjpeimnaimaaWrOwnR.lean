/- Contracts: a reader's calls. -/
import Derived.Test.YtcpkjpeimnaimaaWrReader
namespace Go.Proofs.Ytcpkjpeimnaimaa
open Go.RowKit
attribute [local go_sem] steady
attribute [local irreducible] wpPhase

/-- bytes that a reader hands out -/
def Lent (w : World) (v : Value) (cs : List UInt8) : Prop := ∃ A c, v = .slice A cs.length c ∧ cs.length ≤ c ∧ SB w w.heap.size A cs.length cs
theorem Lent.nil (w : World) : Lent w (.slice none 0 0) [] := ⟨none, 0, rfl, Nat.le_refl _, SB.nil _ _ _⟩
theorem RdPost.trans {w w1 w2 : World} {base g f : Nat} {r : Option Nat} {bs : List UInt8} {s' : RS} (h : Chg [g, f] w w1) (k : RdPost w1 base g f r bs s' w2) : RdPost w base g f r bs s' w2 := ⟨k.1, h.trans k.2 (fun _ hb => .inl hb)⟩
theorem RdPost.drew {w w1 : World} {base g f : Nat} {r : Option Nat} {bs : List UInt8} {s' : RS} (k : RdPost w base g f r bs s' w1) : RdPost w base g f r bs s' w1.drew := ⟨k.1.drew, k.2.drew⟩
/-- a reader's end of a walk: the slice between two places -/
theorem take_lent {w : World} {base g f : Nat} {r : Option Nat} {bs : List UInt8} {s : RS} (h : RdB w base g f r bs s) : ∃ A c, ∃ a : Nat, w.cell? ⟨g, 2, none⟩ = some (.slice A bs.length c) ∧ w.cell? ⟨g, 3, none⟩ = some (.int .i64 (a : Int)) ∧ w.cell? ⟨g, 1, none⟩ = some (.pointer (some ⟨f, 0, none⟩)) ∧ w.frozen? ⟨g, 3, none⟩ = false ∧
    bs.length ≤ c ∧ SB w w.heap.size A bs.length bs ∧ a ≤ bs.length ∧ (∀ a', s = .ok a' → a = a') ∧ bs.length ≤ 549755813888 ∧ (∀ b off, A = some ⟨b, off, none⟩ → b ≠ g ∧ b ≠ f) := by
  obtain ⟨A, c, a, h1, h2, h3, h4, h5, h6, h7, h8, h9, hl, hg, ha, hal⟩ := h
  obtain ⟨A1, c1, e1, hnc, hs, -⟩ := h3.sb
  have e2 : A1 = A ∧ c1 = c := by injection e1 with e1 _ e3; exact ⟨e1.symm, e3.symm⟩
  rw [e2.1] at hs
  rw [e2.2] at hnc
  refine ⟨A, c, a, h1.cell 2 rfl, h1.cell 3 rfl, h1.cell 1 rfl, h1.frozen 3, hnc, hs, hal, ha, hl, fun b off e => ?_⟩
  subst e
  exact ⟨fun e => h5 (by rw [← h4, ← e]; rfl), fun e => h6 (by rw [← h4, ← e]; rfl)⟩
/-- the reader's place may be written again -/
theorem RdB.again {w : World} {base g f : Nat} {r : Option Nat} {bs : List UInt8} {e p : Nat} (h : RdB w base g f r bs (.bad e p)) {a : Nat} (ha : a ≤ bs.length) : RdB (w.setCell ⟨g, 3, none⟩ (.int .i64 (a : Int))) base g f r bs (.bad e p) := by
  obtain ⟨A, c, a1, h1, h2, h3, h4, h5, h6, h7, h8, h9, h10, h11, h12, h13⟩ := h
  exact ⟨A, c, a, h1.set_ 3 _, h2.far (fun e => h7 e.symm) _, h3.kept (grown_setCell w g 3 _) (.inr (by rw [h4]; exact h5)), h4, h5, h6, h7, h8, h9, h10, h11, (fun b e => by cases e), ha⟩
/-- the slice that take hands out -/
def takeV (A : Option Addr) (c L n a : Nat) : Value := if L - a < n then .slice none 0 0 else .slice (if c = a then A else A.map (·.add a)) n (c - a)
set_option maxHeartbeats 2000000 in
theorem take_calls (base g f : Nat) (r : Option Nat) (bs : List UInt8) (s : RS) (n begin : Nat) (hn : n < 9223372036854775808) (hb : begin ≤ bs.length) (hz : s.err = 0 ∨ n = 0) (w : World) (h : RdB w base g f r bs s) :
    Calls Try.prog 69 #[.pointer (some ⟨g, 0, none⟩), .int .i64 (n : Int), .int .i64 (begin : Int)] w fun e w' => ∃ v, e = .returned v ∧ Lent w' v (takeS bs n begin s).1 ∧ RdPost w base g f r bs (takeS bs n begin s).2 w' ∧ (∀ A c a, w.cell? ⟨g, 2, none⟩ = some (.slice A bs.length c) → s = .ok a → v = takeV A c bs.length n a) := by
  have HRE := hid (rest_calls base g f r bs s w h)
  by_cases hf : restS bs s < n
  · -- a fault
    obtain ⟨a, rfl⟩ : ∃ a, s = .ok a := by
      cases s with
      | ok a => exact ⟨a, rfl⟩
      | bad e p => rcases hz with hz | hz
                   · obtain ⟨_, _, _, _, _, _, _, _, _, _, _, _, _, hg, _⟩ := h; exact absurd hz hg.1
                   · omega
    have hts : takeS bs n begin (.ok a) = ([], .bad 6 begin) := if_pos hf
    have HTV := hid (fun (A : Option Addr) (c : Nat) => show takeV A c bs.length n a = .slice none 0 0 from if_pos hf)
    rw [hts]
    have hq : (restS bs (.ok a) : Int) < (n : Int) := by omega
    generalize restS bs (.ok a) = R at hq HRE
    go_enter Try.func69, Try.ntmps69
    go_wp2_with fail
    refine HRE.out.mono ?_
    rintro _ w1 ⟨rfl, b1, h1⟩
    obtain ⟨_, _, _, _, _, c1, _⟩ := take_lent h1
    have HF := hid (show Blk w1 f 87 #[.int .i64 0, .int .i64 0] from by obtain ⟨_, _, _, _, h2, _⟩ := h1; exact h2)
    have H1 := hid h1; have B1 := hid b1
    clear h1 b1 h hz hf
    go_wp2_with fail
    refine (keep_calls f _ 6 (begin : Int) w1 HF.out).mono ?_
    rintro _ w2 ⟨rfl, h2, k2⟩
    have HK := hid (show RdPost w base g f r bs (.bad 6 begin) w2 from ⟨H1.out.fault k2 6 begin h2 (by omega) hb, ((Chg.of_below B1.out).trans k2 (fun _ hb => .inl hb)).more (fun b hb => .inl (by simp at hb; simp [hb]))⟩)
    clear h2 k2
    go_wp2_with fail
    go_ret
    exact ⟨_, rfl, Lent.nil _, HK.out, fun A c a' _ e => by cases e; rw [HTV.out]; rfl⟩
  · have hq : ¬ (restS bs s : Int) < (n : Int) := by omega
    have hts : ∀ a : Nat, a ≤ bs.length → (∀ a', s = .ok a' → a = a') → (takeS bs n begin s).1 = ((bs.drop a).take n) ∧ a + n ≤ bs.length ∧ ((takeS bs n begin s).2 = .ok (a + n) ∧ s = .ok a ∨ ∃ e p, (takeS bs n begin s).2 = .bad e p ∧ s = .bad e p ∧ n = 0) := by
      intro a ha1 ha2
      cases s with
      | ok a' =>
        obtain rfl := ha2 a' rfl
        have e : takeS bs n begin (.ok a) = ((bs.drop a).take n, .ok (a + n)) := if_neg hf
        have : restS bs (.ok a) = bs.length - a := rfl
        rw [e]
        exact ⟨rfl, by omega, .inl ⟨rfl, rfl⟩⟩
      | bad e p =>
        have hn0 : n = 0 := hz.elim (fun hz => by obtain ⟨_, _, _, _, _, _, _, _, _, _, _, _, _, hg, _⟩ := h; exact absurd hz hg.1) id
        subst hn0
        exact ⟨by simp [takeS], by omega, .inr ⟨e, p, rfl, rfl, rfl⟩⟩
    have HT := hid hts
    have HTV := hid (fun (A : Option Addr) (c a : Nat) (e : s = .ok a) => show takeV A c bs.length n a = .slice (if c = a then A else A.map (·.add a)) n (c - a) from if_neg (by subst e; exact hf))
    generalize takeS bs n begin s = q at HT ⊢
    generalize restS bs s = R at hq HRE
    clear hts hf hz h
    go_enter Try.func69, Try.ntmps69
    go_wp2_with fail
    refine HRE.out.mono ?_
    rintro _ w1 ⟨rfl, b1, h1⟩
    obtain ⟨A, c, a, c2, c3, c1, f3, hnc, hsb, hal, ha, hlim, hne⟩ := take_lent h1
    obtain ⟨hq1, hq2, hq3⟩ := HT.out a hal ha
    have HP := hid (show RdPost w base g f r bs q.2 (w1.setCell ⟨g, 3, none⟩ (.int .i64 ((a + n : Nat) : Int))) from by
      refine ⟨?_, (Chg.of_below b1).trans (chg_set (L := [g, f]) (by simp) 3 _) (fun _ hb => .inl hb)⟩
      rcases hq3 with ⟨e1, e2⟩ | ⟨e, p, e1, e2, e3⟩
      · rw [e1]; exact h1.moved e2 (a + n) hq2
      · rw [e1]; rw [e2] at h1; exact h1.again hq2)
    have HQ1 := hid hq1
    have HCV := hid (fun (A' : Option Addr) (c' a' : Nat) (e1 : w.cell? ⟨g, 2, none⟩ = some (.slice A' bs.length c')) (e2 : s = .ok a') => show takeV A' c' bs.length n a' = .slice (if c = a then A else A.map (·.add a)) (a + n - a) (c - a) from by
      have e3 := (b1.cell (p := ⟨g, 2, none⟩) (lt_of_cell e1)).trans e1
      rw [c2] at e3
      simp only [Option.some.injEq, Value.slice.injEq, true_and] at e3
      rw [HTV.out A' c' a' e2, ha a' e2, e3.1, e3.2, Nat.add_sub_cancel_left])
    have HSB := hid (show SB (w1.setCell ⟨g, 3, none⟩ (.int .i64 ((a : Int) + (n : Int)))) (w1.setCell ⟨g, 3, none⟩ (.int .i64 ((a : Int) + (n : Int)))).heap.size (if c = a then A else A.map (·.add a)) q.1.length q.1 ∧ q.1.length = n from by
      have hl : q.1.length = n := by rw [hq1, List.length_take, List.length_drop]; omega
      refine ⟨?_, hl⟩
      rw [hl, hq1]
      have h2 := hsb.chg (chg_set (d := g) (L := [g]) (by simp) 3 (.int .i64 ((a : Int) + (n : Int)))) (fun b off e _ hm => (hne b off e).1 (by simpa using hm))
      exact (((h2.drop (k := a) (c := c) hal hnc).take n (by omega)).more (by simp)))
    have e0 : (a : Int) + (n : Int) = ((a + n : Nat) : Int) := by omega
    have q1 : (a : Int) + (n : Int) ≤ (c : Int) := by omega
    have q2 : (a : Int) + (n : Int) - (n : Int) = (a : Int) := by omega
    have HE0 := hid e0
    clear hq1 hq3 ha hsb HT h1 b1 HRE e0
    go_wp2_with fail
    go_region
    have HL := hid (show Lent (w1.setCell ⟨g, 3, none⟩ (.int .i64 ((a : Int) + (n : Int)))).drew (.slice (if c = a then A else A.map (·.add a)) (a + n - a) (c - a)) q.1 from
      ⟨_, c - a, by rw [HSB.out.2, Nat.add_sub_cancel_left], by rw [HSB.out.2]; omega, HSB.out.1⟩)
    rw [HE0.out] at HL ⊢
    generalize (if c = a then A else A.map (·.add a)) = A2 at HL HCV ⊢
    generalize w1.setCell ⟨g, 3, none⟩ (.int .i64 ((a + n : Nat) : Int)) = w2 at HL HP ⊢
    clear HSB c2 c3 c1 f3
    go_wp2_with fail
    go_ret
    exact ⟨_, rfl, HL.out, HP.out.drew, fun A' c' a' e1 e2 => (HCV.out A' c' a' e1 e2).symm⟩
/-- a number's many bytes -/
def sizedS (bs : List UInt8) (most : Int) : RS → List UInt8 × RS
  | .ok a => takeS bs (numS bs most 4 (.ok a)).1 a (numS bs most 4 (.ok a)).2
  | s => ([], s)
theorem numS_lt (bs : List UInt8) (most : Int) (above : Nat) (s : RS) : (numS bs most above s).1 < 9223372036854775808 := by
  cases s with
  | bad e p => show 0 < _; omega
  | ok a =>
    show (limS a most above (numS0 bs a)).1 < _
    generalize hq : numS0 bs a = q
    obtain ⟨n, s'⟩ := q
    cases s' with
    | bad e p => show 0 < _; omega
    | ok a' =>
      have := numS0_lt bs a n a' hq
      by_cases hm : most < (n : Int)
      · rw [show limS a most above (n, .ok a') = (0, .bad above a) from if_pos hm]; show 0 < _; omega
      · rw [show limS a most above (n, .ok a') = (n, .ok a') from if_neg hm]; exact this
theorem numS_zero (bs : List UInt8) (most : Int) (above : Nat) (s : RS) : (numS bs most above s).2.err = 0 ∨ (numS bs most above s).1 = 0 := by
  cases s with
  | bad e p => exact .inr rfl
  | ok a =>
    show (limS a most above (numS0 bs a)).2.err = 0 ∨ (limS a most above (numS0 bs a)).1 = 0
    generalize numS0 bs a = q
    obtain ⟨n, s'⟩ := q
    cases s' with
    | bad e p => exact .inr rfl
    | ok a' =>
      by_cases hm : most < (n : Int)
      · rw [show limS a most above (n, .ok a') = (0, .bad above a) from if_pos hm]; exact .inr rfl
      · rw [show limS a most above (n, .ok a') = (n, .ok a') from if_neg hm]; exact .inl rfl
theorem RdB.good {w : World} {base g f : Nat} {r : Option Nat} {bs : List UInt8} {s : RS} (h : RdB w base g f r bs s) : s.good bs.length := by
  obtain ⟨_, _, _, _, _, _, _, _, _, _, _, _, _, hg, _⟩ := h; exact hg
theorem sized_calls (base g f : Nat) (r : Option Nat) (bs : List UInt8) (s : RS) (most : Int) (w : World) (h : RdB w base g f r bs s) :
    Calls Try.prog 67 #[.pointer (some ⟨g, 0, none⟩), .int .i64 most] w fun e w' => ∃ v, e = .returned v ∧ Lent w' v (sizedS bs most s).1 ∧ RdPost w base g f r bs (sizedS bs most s).2 w' := by
  have HR := hid (reads_calls base g f r bs s w h)
  have hg := h.good
  cases s with
  | bad e p =>
    rw [show decide ((RS.bad e p).err = 0) = false from by simp [RS.err, hg.1]] at HR
    have HK := hid (show Lent w (.slice none 0 0) (sizedS bs most (.bad e p)).1 ∧ RdPost w base g f r bs (sizedS bs most (.bad e p)).2 w from ⟨Lent.nil w, h, Chg.refl _ _⟩)
    generalize sizedS bs most (.bad e p) = q at HK ⊢
    clear h hg
    go_enter Try.func67, Try.ntmps67
    go_wp2_with fail
    refine HR.out.mono ?_
    rintro _ _ ⟨rfl, rfl⟩
    go_wp2_with fail
    go_ret
    exact ⟨_, rfl, HK.out⟩
  | ok a =>
    rw [show decide ((RS.ok a).err = 0) = true from rfl] at HR
    have HN := hid (number_calls base g f r bs (.ok a) most 4 (.inl (by omega)) w h)
    have HT := hid (fun w1 => take_calls base g f r bs (numS bs most 4 (.ok a)).2 (numS bs most 4 (.ok a)).1 a (numS_lt _ _ _ _) hg (numS_zero _ _ _ _) w1)
    have hq : sizedS bs most (.ok a) = takeS bs (numS bs most 4 (.ok a)).1 a (numS bs most 4 (.ok a)).2 := rfl
    rw [hq]
    generalize numS bs most 4 (.ok a) = q1 at HN HT ⊢
    obtain ⟨n1, s1⟩ := q1
    simp only at HN HT ⊢
    generalize takeS bs n1 a s1 = q2 at HT ⊢
    obtain ⟨_, _, a1, _, c3, _, _, _, _, _, ha, _⟩ := take_lent h
    rw [ha a rfl] at c3
    clear h hg hq ha
    go_enter Try.func67, Try.ntmps67
    go_wp2_with fail
    refine HR.out.mono ?_
    rintro _ _ ⟨rfl, rfl⟩
    go_wp2_with fail
    refine HN.out.mono ?_
    rintro _ w1 ⟨rfl, h1, k1⟩
    have H1 := hid h1; have K1 := hid k1
    clear h1 k1 c3
    go_wp2_with fail
    refine (HT.out w1 H1.out).mono ?_
    rintro _ w2 ⟨v, rfl, h2, h3, -⟩
    have HK := hid (show Lent w2 v q2.1 ∧ RdPost w base g f r bs q2.2 w2 from ⟨h2, h3.trans K1.out⟩)
    clear h2 h3
    go_wp2_with fail
    go_ret
    exact ⟨v, rfl, HK.out⟩
section
variable (base g f : Nat) (r : Option Nat) (bs : List UInt8) (s : RS) (w : World)
def maxI : Int := 9223372036854775807
theorem rNum_calls (h : RdB w base g f r bs s) :
    Calls Try.prog 36 #[.pointer (some ⟨g, 0, none⟩)] w fun e w' => e = .returned (.int .i64 ((numS bs maxI 0 s).1 : Int)) ∧ RdPost w base g f r bs (numS bs maxI 0 s).2 w' := by
  have HN := hid (number_calls base g f r bs s maxI 0 (.inr (by simp [maxI])) w h)
  generalize numS bs maxI 0 s = q at HN ⊢
  unfold maxI at HN
  clear h
  go_enter Try.func36, Try.ntmps36
  go_wp2_with fail
  refine HN.out.mono ?_
  rintro _ w1 ⟨rfl, h1⟩
  have H1 := hid h1
  clear h1
  go_wp2_with fail
  go_ret
  exact ⟨rfl, H1.out⟩
theorem rBool_calls (h : RdB w base g f r bs s) :
    Calls Try.prog 49 #[.pointer (some ⟨g, 0, none⟩)] w fun e w' => e = .returned (.bool (((numS bs 1 5 s).1 : Int) == 1)) ∧ RdPost w base g f r bs (numS bs 1 5 s).2 w' := by
  have HN := hid (number_calls base g f r bs s 1 5 (.inl (by omega)) w h)
  generalize numS bs 1 5 s = q at HN ⊢
  clear h
  go_enter Try.func49, Try.ntmps49
  go_wp2_with fail
  refine HN.out.mono ?_
  rintro _ w1 ⟨rfl, h1⟩
  have H1 := hid h1
  clear h1
  go_wp2_with fail
  go_ret
  exact ⟨rfl, H1.out⟩
theorem rText_calls (most : Int) (h : RdB w base g f r bs s) :
    Calls Try.prog 38 #[.pointer (some ⟨g, 0, none⟩), .int .i64 most] w fun e w' => e = .returned (.string (strB (sizedS bs most s).1)) ∧ RdPost w base g f r bs (sizedS bs most s).2 w' := by
  have HN := hid (sized_calls base g f r bs s most w h)
  generalize sizedS bs most s = q at HN ⊢
  clear h
  go_enter Try.func38, Try.ntmps38
  go_wp2_with fail
  refine HN.out.mono ?_
  rintro _ w1 ⟨_, rfl, ⟨A, c, rfl, _, hs⟩, h1⟩
  have hc := run_str (P := Try.prog) hs c 31 9 5 Try.underlying31 Try.underlying5 Try.underlying9
  have H1 := hid h1
  clear h1 hs
  go_wp2_with fail
  go_ret
  exact ⟨rfl, H1.out⟩
theorem rBytes_calls (hl : bs.length ≤ 549755813888) (most : Int) (h : RdB w base g f r bs s) :
    Calls Try.prog 40 #[.pointer (some ⟨g, 0, none⟩), .int .i64 most] w fun e w' => ∃ v, e = .returned v ∧ Own w' w.heap.size 5 v (sizedS bs most s).1.length (sizedS bs most s).1 ∧ RdPost w base g f r bs (sizedS bs most s).2 w' := by
  have HN := hid (sized_calls base g f r bs s most w h)
  have hlen : (sizedS bs most s).1.length ≤ bs.length := by
    cases s with
    | bad e p => exact Nat.zero_le _
    | ok a =>
      show (takeS bs _ a _).1.length ≤ _
      generalize (numS bs most 4 (.ok a)).2 = s1
      generalize (numS bs most 4 (.ok a)).1 = n1
      cases s1 with
      | bad e p => exact Nat.zero_le _
      | ok a1 =>
        by_cases hm : bs.length - a1 < n1
        · rw [show takeS bs n1 a (.ok a1) = ([], .bad 6 a) from if_pos hm]; exact Nat.zero_le _
        · rw [show takeS bs n1 a (.ok a1) = ((bs.drop a1).take n1, .ok (a1 + n1)) from if_neg hm]
          show ((bs.drop a1).take n1).length ≤ _
          rw [List.length_take, List.length_drop]; omega
  generalize sizedS bs most s = q at HN hlen ⊢
  clear h
  go_enter Try.func40, Try.ntmps40
  go_wp2_with fail
  refine HN.out.mono ?_
  rintro _ w1 ⟨_, rfl, ⟨A, c, rfl, _, hs⟩, h1⟩
  have HS := hid hs
  have H1 := hid h1
  clear h1 hs
  go_wp2_with fail
  refine (clone_calls w1.heap.size q.1.length c A q.1 w1 HS.out (by omega)).mono ?_
  rintro _ w2 ⟨v, rfl, h2, h3⟩
  have HK := hid (show Own w2 w.heap.size 5 v q.1.length q.1 ∧ RdPost w base g f r bs q.2 w2 from ⟨h2.lower H1.out.2.size, H1.out.1.keep h3, H1.out.2.trans (Chg.of_below h3) (fun _ hb => .inl hb)⟩)
  clear h2 h3
  go_wp2_with fail
  go_ret
  exact ⟨v, rfl, HK.out⟩
end
def dotS (bs : List UInt8) (s : RS) : (Nat × Nat) × RS :=
  (if (numS bs maxI 0 (numS bs maxI 0 s).2).2.err = 0 then ((numS bs maxI 0 s).1, (numS bs maxI 0 (numS bs maxI 0 s).2).1) else (0, 0), (numS bs maxI 0 (numS bs maxI 0 s).2).2)
theorem size_dot (cs : Array Value) (h : cs.size = 2) : (Try.prog.info? 35).map (·.size) = some cs.size := by rw [h]; kernel_rfl
theorem not_in2 {g f b B : Nat} (hg : g < B) (hf : f < B) (hb : B ≤ b) : b ∉ [g, f] := by simp; omega
theorem RdB.lt {w : World} {base g f : Nat} {r : Option Nat} {bs : List UInt8} {s : RS} (h : RdB w base g f r bs s) : g < w.heap.size ∧ f < w.heap.size :=
  ⟨(h.fp_lt g (by rw [mem_fpw]; exact .inr (.inl rfl))).2, (h.fp_lt f (by rw [mem_fpw]; exact .inl rfl)).2⟩
set_option maxHeartbeats 1000000 in
theorem rDot_calls (base g f : Nat) (r : Option Nat) (bs : List UInt8) (s : RS) (w : World) (h : RdB w base g f r bs s) :
    Calls Try.prog 44 #[.pointer (some ⟨g, 0, none⟩)] w fun e w' => e = .returned (.agg #[.int .i64 ((dotS bs s).1.1 : Int), .int .i64 ((dotS bs s).1.2 : Int)]) ∧ RdPost w base g f r bs (dotS bs s).2 w' := by
  have HN1 := hid (fun w1 => rNum_calls base g f r bs s w1)
  have HN2 := hid (fun w1 => rNum_calls base g f r bs (numS bs maxI 0 s).2 w1)
  have hd : dotS bs s = (if (numS bs maxI 0 (numS bs maxI 0 s).2).2.err = 0 then ((numS bs maxI 0 s).1, (numS bs maxI 0 (numS bs maxI 0 s).2).1) else (0, 0), (numS bs maxI 0 (numS bs maxI 0 s).2).2) := rfl
  generalize dotS bs s = D at hd ⊢
  generalize hq1 : numS bs maxI 0 s = q1 at HN1 HN2 hd
  clear hq1
  generalize hq2 : numS bs maxI 0 q1.2 = q2 at HN2 hd
  clear hq2
  have HD := hid hd
  have hlt := h.lt
  have b1 := below_new w (.cells #[.int .i64 0, .int .i64 0] 35)
  have k1 := Blk.new w 35 #[.int .i64 0, .int .i64 0]
  have hs1 := size_new w (.cells #[.int .i64 0, .int .i64 0] 35)
  have HH := hid h
  clear h hd
  go_enter Try.func44, Try.ntmps44
  go_wp2_with fail
  generalize w.alloc (.cells #[.int .i64 0, .int .i64 0] 35) = w1 at b1 k1 hs1 ⊢
  have K1 := hid k1; have B1 := hid b1
  refine (HN1.out w1 (HH.out.keep b1)).mono ?_
  rintro _ w2 ⟨rfl, h2, c2⟩
  have K2 := hid (K1.out.chg c2 (not_in2 hlt.1 hlt.2 (Nat.le_refl _)))
  have C2 := hid ((Chg.of_below (L := [g, f]) B1.out).trans c2 (fun _ hb => .inl hb))
  have H2 := hid h2
  have hz2 := c2.size
  have b3 := below_new w2 (.cells #[.int .i64 (q1.1 : Int), .int .i64 0] 35)
  have k3 := Blk.new w2 35 #[.int .i64 (q1.1 : Int), .int .i64 0]
  clear h2 c2 k1 b1
  go_wp2_with fail
  generalize w2.alloc (.cells #[.int .i64 (q1.1 : Int), .int .i64 0] 35) = w3 at b3 k3 ⊢
  have B3 := hid b3; have K3 := hid k3
  clear b3 k3
  have hlt2 := H2.out.lt
  refine (HN2.out w3 (H2.out.keep B3.out)).mono ?_
  rintro _ w4 ⟨rfl, h4, c4⟩
  have K4 := hid (K3.out.chg c4 (not_in2 hlt2.1 hlt2.2 (Nat.le_refl _)))
  have K24 := hid ((K2.out.keep B3.out).chg c4 (not_in2 hlt.1 hlt.2 (Nat.le_refl _)))
  have C4 := hid (C2.out.trans ((Chg.of_below (L := [g, f]) B3.out).trans c4 (fun _ hb => .inl hb)) (fun _ hb => .inl hb))
  have H4 := hid h4
  have d1 := K4.out.cell 1 rfl
  have f1 := K4.out.frozen 1
  clear h4 c4
  go_wp2_with fail
  have h5 := H4.out.chg (chg_set (w := w4) (d := w2.heap.size) (L := [w2.heap.size]) (by simp) 1 (.int .i64 (q2.1 : Int))) (fun b hb hm => by
    have := H2.out.fp_lt b hb
    simp at hm; omega)
  have k5 : Blk (w4.setCell ⟨w2.heap.size, 1, none⟩ (.int .i64 (q2.1 : Int))) w2.heap.size 35 #[.int .i64 (q1.1 : Int), .int .i64 (q2.1 : Int)] := K4.out.set_ 1 (.int .i64 (q2.1 : Int))
  have k25 := K24.out.far (p := ⟨w2.heap.size, 1, none⟩) (show w.heap.size ≠ w2.heap.size from by omega) (.int .i64 (q2.1 : Int))
  have c5 := C4.out.trans (chg_set (w := w4) (d := w2.heap.size) (L := [w2.heap.size]) (by simp) 1 (.int .i64 (q2.1 : Int))) (fun b hb => .inr (by simp at hb; omega))
  generalize w4.setCell ⟨w2.heap.size, 1, none⟩ (.int .i64 (q2.1 : Int)) = w5 at h5 k5 k25 c5 ⊢
  have H5 := hid h5; have K5 := hid k5; have K25 := hid k25; have C5 := hid c5
  clear h5 k5 k25 c5 d1 f1
  have e0 := K5.out.cell 0 rfl
  have e1 := K5.out.cell 1 rfl
  have g0 := K25.out.cell 0 rfl
  have g1 := K25.out.cell 1 rfl
  have f0 := K25.out.frozen 0
  have f1 := K25.out.frozen 1
  refine (reads_calls base g f r bs q2.2 w5 H5.out).mono ?_
  rintro _ _ ⟨rfl, rfl⟩
  by_cases he : q2.2.err = 0
  · have hd := HD.out
    rw [if_pos he] at hd
    have HD2 := hid hd
    rw [show decide (q2.2.err = 0) = true from by simp [he]]
    clear hd
    have K6 := hid (show Blk ((w5.setCell ⟨w.heap.size, 0, none⟩ (.int .i64 (q1.1 : Int))).setCell ⟨w.heap.size, 1, none⟩ (.int .i64 (q2.1 : Int))) w.heap.size 35 #[.int .i64 (q1.1 : Int), .int .i64 (q2.1 : Int)] from (K25.out.set_ 0 _).set_ 1 _)
    have HK := hid (show RdPost w base g f r bs q2.2 ((w5.setCell ⟨w.heap.size, 0, none⟩ (.int .i64 (q1.1 : Int))).setCell ⟨w.heap.size, 1, none⟩ (.int .i64 (q2.1 : Int))) from by
      have kc := (chg_set (w := w5) (d := w.heap.size) (L := [w.heap.size]) (by simp) 0 (.int .i64 (q1.1 : Int))).trans (chg_set (d := w.heap.size) (L := [w.heap.size]) (by simp) 1 (.int .i64 (q2.1 : Int))) (fun _ hb => .inl hb)
      refine ⟨H5.out.chg kc (fun b hb hm => ?_), C5.out.trans kc (fun b hb => .inr (by simp at hb; omega))⟩
      have := HH.out.fp_lt b hb
      simp at hm; omega)
    clear he
    go_wp2_with fail
    refine bodyPost_ret (v := .agg #[.int .i64 (q1.1 : Int), .int .i64 (q2.1 : Int)]) (results_cell_row rfl _ _ w.heap.size 35 _ (0, 0) _ rfl K6.out Try.underlying35 rfl (size_dot _ rfl)) rfl ⟨by rw [HD2.out], by rw [HD2.out]; exact HK.out⟩
  · have hd := HD.out
    rw [if_neg he] at hd
    have HD2 := hid hd
    rw [show decide (q2.2.err = 0) = false from by simp [he]]
    clear hd
    have K6 := hid (show Blk ((w5.setCell ⟨w.heap.size, 0, none⟩ (.int .i64 0)).setCell ⟨w.heap.size, 1, none⟩ (.int .i64 0)) w.heap.size 35 #[.int .i64 0, .int .i64 0] from (K25.out.set_ 0 _).set_ 1 _)
    have HK := hid (show RdPost w base g f r bs q2.2 ((w5.setCell ⟨w.heap.size, 0, none⟩ (.int .i64 0)).setCell ⟨w.heap.size, 1, none⟩ (.int .i64 0)) from by
      have kc := (chg_set (w := w5) (d := w.heap.size) (L := [w.heap.size]) (by simp) 0 (.int .i64 0)).trans (chg_set (d := w.heap.size) (L := [w.heap.size]) (by simp) 1 (.int .i64 0)) (fun _ hb => .inl hb)
      refine ⟨H5.out.chg kc (fun b hb hm => ?_), C5.out.trans kc (fun b hb => .inr (by simp at hb; omega))⟩
      have := HH.out.fp_lt b hb
      simp at hm; omega)
    clear he
    go_wp2_with fail
    refine bodyPost_ret (v := .agg #[.int .i64 0, .int .i64 0]) (results_cell_row rfl _ _ w.heap.size 35 _ (0, 0) _ rfl K6.out Try.underlying35 rfl (size_dot _ rfl)) rfl ⟨by rw [HD2.out]; rfl, by rw [HD2.out]; exact HK.out⟩
end Go.Proofs.Ytcpkjpeimnaimaa
