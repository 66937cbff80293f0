/- Contracts: a reader: NewReader, valid, reads, number, take, sized. -/
import Derived.Test.YtcpkjpeimnaimaaWrParse
import Derived.Test.YtcpkjpeimnaimaaWrOwnW
namespace Go.Proofs.Ytcpkjpeimnaimaa
open Go.RowKit

/-- a reader's state: where it is, or its first fault -/
inductive RS where
  | ok (at_ : Nat)
  | bad (e p : Nat)
def RS.err : RS → Nat | .ok _ => 0 | .bad e _ => e
def RS.fat : RS → Nat | .ok _ => 0 | .bad _ p => p
def RS.good (L : Nat) : RS → Prop | .ok a => a ≤ L | .bad e p => e ≠ 0 ∧ p ≤ L
/-- a number, as it stands there -/
def numS0 (bs : List UInt8) (a : Nat) : Nat × RS :=
  if (decN (bs.drop a)).2.2 = 0 then ((decN (bs.drop a)).1, .ok (a + (decN (bs.drop a)).2.1)) else (0, .bad (decN (bs.drop a)).2.2 a)
/-- a number up to a most -/
def limS (a : Nat) (most : Int) (above : Nat) : Nat × RS → Nat × RS
  | (n, .ok a') => if most < (n : Int) then (0, .bad above a) else (n, .ok a')
  | (_, s) => (0, s)
def numS (bs : List UInt8) (most : Int) (above : Nat) : RS → Nat × RS
  | .ok a => limS a most above (numS0 bs a)
  | s => (0, s)
/-- so many bytes, and where their thing begins -/
def takeS (bs : List UInt8) (n begin : Nat) : RS → List UInt8 × RS
  | .ok a => if bs.length - a < n then ([], .bad 6 begin) else ((bs.drop a).take n, .ok (a + n))
  | s => ([], s)
def restS (bs : List UInt8) : RS → Nat
  | .ok a => bs.length - a
  | _ => 0
theorem numS0_good (bs : List UInt8) (a : Nat) (h : a ≤ bs.length) : (numS0 bs a).2.good bs.length := by
  unfold numS0
  split
  · rename_i h0
    have := enc_dec (bs.drop a) (n := (decN (bs.drop a)).1) (s := (decN (bs.drop a)).2.1) (by rw [← h0])
    rw [List.length_drop] at this
    show a + _ ≤ _
    omega
  · rename_i h0
    exact ⟨h0, h⟩
theorem numS0_lt (bs : List UInt8) (a n a' : Nat) (h : numS0 bs a = (n, .ok a')) : n < 9223372036854775808 := by
  unfold numS0 at h
  split at h
  · rename_i h0
    have hd := enc_dec (bs.drop a) (n := (decN (bs.drop a)).1) (s := (decN (bs.drop a)).2.1) (by rw [← h0])
    simp only [Prod.mk.injEq] at h
    omega
  · simp at h
theorem limS_good (L a : Nat) (most : Int) (above : Nat) (q : Nat × RS) (ha : above ≠ 0 ∨ ∀ a', q.2 = .ok a' → ¬ most < (q.1 : Int)) (h : a ≤ L) (hq : q.2.good L) : (limS a most above q).2.good L := by
  obtain ⟨n, s'⟩ := q
  cases s' with
  | bad e p => exact hq
  | ok a' =>
    by_cases hm : most < (n : Int)
    · have e : limS a most above (n, .ok a') = (0, .bad above a) := if_pos hm
      rw [e]
      rcases ha with ha | ha
      · exact ⟨ha, h⟩
      · exact absurd hm (ha a' rfl)
    · have e : limS a most above (n, .ok a') = (n, .ok a') := if_neg hm
      rw [e]; exact hq
theorem numS_good (bs : List UInt8) (most : Int) (above : Nat) (s : RS) (ha : above ≠ 0 ∨ 9223372036854775807 ≤ most) (h : s.good bs.length) : (numS bs most above s).2.good bs.length := by
  cases s with
  | bad e p => exact h
  | ok a =>
    refine limS_good bs.length a most above (numS0 bs a) (ha.imp id fun hm a' he hlt => ?_) h (numS0_good bs a h)
    have := numS0_lt bs a (numS0 bs a).1 a' (by rw [← he])
    omega
theorem takeS_good (bs : List UInt8) (n begin : Nat) (s : RS) (hb : begin ≤ bs.length) (h : s.good bs.length) : (takeS bs n begin s).2.good bs.length := by
  cases s with
  | bad e p => exact h
  | ok a =>
    have h' : a ≤ bs.length := h
    by_cases hm : bs.length - a < n
    · have e : takeS bs n begin (.ok a) = ([], .bad 6 begin) := if_pos hm
      rw [e]; exact ⟨by omega, hb⟩
    · have e : takeS bs n begin (.ok a) = ((bs.drop a).take n, .ok (a + n)) := if_neg hm
      rw [e]; show a + n ≤ _; omega

/-- Blocks g and f are a reader of the bytes bs. -/
def RdB (w : World) (base g f : Nat) (r : Option Nat) (bs : List UInt8) (s : RS) : Prop :=
  ∃ A c, ∃ a : Nat, Blk w g 77 #[.pointer (some ⟨g, 0, none⟩), .pointer (some ⟨f, 0, none⟩), .slice A bs.length c, .int .i64 (a : Int)] ∧
    Blk w f 87 #[.int .i64 (s.err : Int), .int .i64 (s.fat : Int)] ∧ Own w base 5 (.slice A bs.length c) bs.length bs ∧ (Value.slice A bs.length c).ownBlock = r ∧ r ≠ some g ∧ r ≠ some f ∧ g ≠ f ∧ base ≤ g ∧ base ≤ f ∧ bs.length ≤ 549755813888 ∧ s.good bs.length ∧ (∀ a', s = .ok a' → a = a') ∧ a ≤ bs.length
section
variable {w w' : World} {base g f : Nat} {r : Option Nat} {bs : List UInt8} {s : RS} {L : List Nat}
theorem RdB.fp_lt (h : RdB w base g f r bs s) : ∀ b ∈ fpw g f r, base ≤ b ∧ b < w.heap.size := by
  obtain ⟨A, c, a, h1, h2, h3, h4, h5, h6, h7, h8, h9, h10⟩ := h
  intro b hb
  rw [mem_fpw] at hb
  rcases hb with rfl | rfl | hb
  · exact ⟨h9, h2.lt⟩
  · exact ⟨h8, h1.lt⟩
  · exact h3.block b (h4.trans hb)
theorem RdB.chg (h : RdB w base g f r bs s) (hc : Chg L w w') (hd : ∀ b ∈ fpw g f r, b ∉ L) : RdB w' base g f r bs s := by
  obtain ⟨A, c, a, h1, h2, h3, h4, h5⟩ := h
  exact ⟨A, c, a, h1.chg hc (hd g (by rw [mem_fpw]; exact .inr (.inl rfl))), h2.chg hc (hd f (by rw [mem_fpw]; exact .inl rfl)), h3.chg hc (fun b hb => hd b (by rw [mem_fpw]; exact .inr (.inr (h4 ▸ hb)))), h4, h5⟩
theorem RdB.keep (h : RdB w base g f r bs s) (hb : Below w.heap.size w w') : RdB w' base g f r bs s := h.chg (L := []) (Chg.of_below hb) (by simp)
theorem RdB.drew (h : RdB w base g f r bs s) : RdB w.drew base g f r bs s := h
/-- the reader moves on -/
theorem RdB.moved (h : RdB w base g f r bs s) {a : Nat} (hs : s = .ok a) (a' : Nat) (hl : a' ≤ bs.length) : RdB (w.setCell ⟨g, 3, none⟩ (.int .i64 (a' : Int))) base g f r bs (.ok a') := by
  subst hs
  obtain ⟨A, c, a1, h1, h2, h3, h4, h5, h6, h7, h8, h9, h10, h11, h12, h13⟩ := h
  refine ⟨A, c, a', h1.set_ 3 _, h2.far (fun e => h7 e.symm) _, h3.kept (grown_setCell w g 3 _) (.inr (by rw [h4]; exact h5)), h4, h5, h6, h7, h8, h9, h10, hl, (fun b e => by cases e; rfl), hl⟩
/-- the reader has a fault -/
theorem RdB.fault (h : RdB w base g f r bs s) (hc : Chg [f] w w') (e p : Nat) (hf : Blk w' f 87 #[.int .i64 (e : Int), .int .i64 (p : Int)]) (he : e ≠ 0) (hp : p ≤ bs.length) : RdB w' base g f r bs (.bad e p) := by
  obtain ⟨A, c, a1, h1, h2, h3, h4, h5, h6, h7, h8, h9, h10, h11, h12, h13⟩ := h
  refine ⟨A, c, a1, h1.chg hc (by simpa using h7), hf, h3.chg hc (fun b hb => ?_), h4, h5, h6, h7, h8, h9, h10, ⟨he, hp⟩, (fun b e => by cases e), h13⟩
  rw [h4] at hb
  simp
  intro e
  subst e
  exact h6 hb
end
theorem rvalid_calls (base g f : Nat) (r : Option Nat) (bs : List UInt8) (s : RS) (w : World) (h : RdB w base g f r bs s) :
    Calls Try.prog 70 #[.pointer (some ⟨g, 0, none⟩)] w fun e w' => e = .returned (.bool true) ∧ w = w' := by
  obtain ⟨A, c, a, hb, -⟩ := h
  have hsz : (Try.prog.info? 77).map (·.size) = some 4 := by kernel_rfl
  obtain ⟨j, hj, _⟩ := Option.map_eq_some_iff.1 hsz
  have he := fun W => run_eql_ptr_same (P := Try.prog) W (tp := 57) (te := 77) ⟨g, 0, none⟩ (by kernel_rfl) hj
  have c0 := hb.cell 0 rfl
  clear hb hj hsz
  go_enter Try.func70, Try.ntmps70
  go_wp2_with fail
  go_ret
  exact ⟨rfl, rfl⟩
theorem reads_calls (base g f : Nat) (r : Option Nat) (bs : List UInt8) (s : RS) (w : World) (h : RdB w base g f r bs s) :
    Calls Try.prog 68 #[.pointer (some ⟨g, 0, none⟩)] w fun e w' => e = .returned (.bool (decide (s.err = 0))) ∧ w = w' := by
  have HV := hid (rvalid_calls base g f r bs s w h)
  obtain ⟨A, c, a, h1, h2, -⟩ := h
  have HF := hid (failed_calls f s.err _ w h2)
  have c1 := h1.cell 1 rfl
  clear h1 h2
  by_cases he : s.err = 0
  · rw [show decide (s.err = 0) = true from by simp [he]]
    rw [show decide (s.err ≠ 0) = false from by simp [he]] at HF
    clear he
    go_enter Try.func68, Try.ntmps68
    go_wp2_with fail
    refine HV.out.mono ?_
    rintro _ _ ⟨rfl, rfl⟩
    go_wp2_with fail
    refine HF.out.mono ?_
    rintro _ _ ⟨rfl, rfl⟩
    go_wp2_with fail
    go_ret
    exact ⟨rfl, rfl⟩
  · rw [show decide (s.err = 0) = false from by simp [he]]
    rw [show decide (s.err ≠ 0) = true from by simp [he]] at HF
    clear he
    go_enter Try.func68, Try.ntmps68
    go_wp2_with fail
    refine HV.out.mono ?_
    rintro _ _ ⟨rfl, rfl⟩
    go_wp2_with fail
    refine HF.out.mono ?_
    rintro _ _ ⟨rfl, rfl⟩
    go_wp2_with fail
    go_ret
    exact ⟨rfl, rfl⟩
theorem good_err {L : Nat} {s : RS} (h : s.good L) (he : s.err = 0) : ∃ a, s = .ok a ∧ a ≤ L := by
  cases s with
  | ok a => exact ⟨a, rfl, h⟩
  | bad e p => exact absurd he h.1
theorem rest_calls (base g f : Nat) (r : Option Nat) (bs : List UInt8) (s : RS) (w : World) (h : RdB w base g f r bs s) :
    Calls Try.prog 51 #[.pointer (some ⟨g, 0, none⟩)] w fun e w' => e = .returned (.int .i64 (restS bs s : Int)) ∧ Below w.heap.size w w' ∧ RdB w' base g f r bs s := by
  have HR := hid (reads_calls base g f r bs s w h)
  have HH := hid h
  obtain ⟨A, c, a, h1, h2, -, -, -, -, -, -, -, hl, hg, ha, -⟩ := h
  by_cases he : s.err = 0
  · obtain ⟨a0, rfl, hal⟩ := good_err hg he
    rw [ha a0 rfl] at h1
    have c2 := h1.cell 2 rfl
    have c3 := h1.cell 3 rfl
    have HE := hid (show (bs.length : Int) - (a0 : Int) = ((bs.length - a0 : Nat) : Int) from by omega)
    clear h1 h2
    rw [show restS bs (.ok a0) = bs.length - a0 from rfl]
    go_enter Try.func51, Try.ntmps51
    go_wp2_with fail
    refine HR.out.mono ?_
    rintro _ _ ⟨rfl, rfl⟩
    rw [show decide ((RS.ok a0).err = 0) = true from rfl]
    go_wp2_with fail
    go_region
    go_wp2_with fail
    go_ret
    exact ⟨ret_int HE.out, (Below.refl _ _).drew, HH.out.drew⟩
  · have hr : restS bs s = 0 := by
      cases s with
      | ok a => exact absurd rfl he
      | bad e p => rfl
    rw [hr]
    clear h1 h2 ha
    go_enter Try.func51, Try.ntmps51
    go_wp2_with fail
    refine HR.out.mono ?_
    rintro _ _ ⟨rfl, rfl⟩
    rw [show decide (s.err = 0) = false from by simp [he]]
    go_wp2_with fail
    go_ret
    exact ⟨rfl, Below.refl _ _, HH.out⟩
attribute [local go_sem] steady
attribute [local irreducible] wpPhase
/-- what a call of a reader leaves -/
def RdPost (w : World) (base g f : Nat) (r : Option Nat) (bs : List UInt8) (s' : RS) (w' : World) : Prop := RdB w' base g f r bs s' ∧ Chg [g, f] w w'
theorem number_bad (base g f : Nat) (r : Option Nat) (bs : List UInt8) (s : RS) (most : Int) (above : Nat) (w : World) (h : RdB w base g f r bs s) (he : s.err ≠ 0) :
    Calls Try.prog 65 #[.pointer (some ⟨g, 0, none⟩), .int .i64 most, .int .i64 (above : Int)] w fun e w' => e = .returned (.int .i64 ((numS bs most above s).1 : Int)) ∧ RdPost w base g f r bs (numS bs most above s).2 w' := by
  have HR := hid (reads_calls base g f r bs s w h)
  have HK := hid (show RdPost w base g f r bs (numS bs most above s).2 w from by
    cases s with
    | ok a => exact absurd rfl he
    | bad e p => exact ⟨h, Chg.refl _ _⟩)
  have hv : (numS bs most above s).1 = 0 := by
    cases s with
    | ok a => exact absurd rfl he
    | bad e p => rfl
  rw [hv]
  generalize (numS bs most above s).2 = s' at HK ⊢
  rw [show decide (s.err = 0) = false from by simp [he]] at HR
  clear h he hv
  go_enter Try.func65, Try.ntmps65
  go_wp2_with fail
  refine HR.out.mono ?_
  rintro _ _ ⟨rfl, rfl⟩
  go_wp2_with fail
  go_ret
  exact ⟨rfl, HK.out⟩
set_option maxHeartbeats 2000000 in
set_option maxRecDepth 20000 in
theorem number_ok (base g f : Nat) (r : Option Nat) (bs : List UInt8) (a : Nat) (most : Int) (above : Nat) (hab : above ≠ 0 ∨ 9223372036854775807 ≤ most) (w : World) (h : RdB w base g f r bs (.ok a)) :
    Calls Try.prog 65 #[.pointer (some ⟨g, 0, none⟩), .int .i64 most, .int .i64 (above : Int)] w fun e w' => e = .returned (.int .i64 ((numS bs most above (.ok a)).1 : Int)) ∧ RdPost w base g f r bs (numS bs most above (.ok a)).2 w' := by
  have HR := hid (reads_calls base g f r bs _ w h)
  have HH := hid h
  have hgd := hid (numS_good bs most above (.ok a) hab (by obtain ⟨_, _, _, _, _, _, _, _, _, _, _, _, _, hg, _⟩ := h; exact hg))
  rw [show decide ((RS.ok a).err = 0) = true from rfl] at HR
  obtain ⟨A, c, a1, h1, h2, h3, h4, h5, h6, h7, h8, h9, hl, hg, ha, -⟩ := h
  rw [ha a rfl] at h1
  have hal : a ≤ bs.length := hg
  clear ha hg
  obtain ⟨A1, c1, e1, hnc, hs, -⟩ := h3.sb
  have e2 : A1 = A ∧ c1 = c := by injection e1 with e1 _ e3; exact ⟨e1.symm, e3.symm⟩
  rw [e2.1] at hs
  rw [e2.2] at hnc
  clear e1 e2
  have hs2 := hs.drop (k := a) (c := c) hal hnc
  have HP := hid (fun W (hb : Below w.heap.size w W) => parse_calls (bs.drop a) (bs.length - a) (c - a) w.heap.size (if c = a then A else A.map (·.add a)) W (hs2.keep hb) (by omega) (by omega))
  generalize hD : decN (bs.drop a) = D at HP
  have HD := hid hD
  have H1 := hid h1; have H2 := hid h2
  clear h1 h2 h3 h4 h5 h6 hs hs2 hD
  generalize hA2 : (if c = a then A else A.map (·.add a)) = A2 at HP
  have hac : (a : Int) ≤ (bs.length : Int) := by omega
  have hcc : (bs.length : Int) ≤ (c : Int) := by omega
  go_enter Try.func65, Try.ntmps65
  go_wp2_with fail
  refine HR.out.mono ?_
  rintro _ _ ⟨rfl, rfl⟩
  go_wp2_with fail
  refine wp_region_phase (fun _ w' => Below w.heap.size w w') (fun w' => Below w.heap.size w w') (fun k w' h => h) (by kernel_rfl) (by kernel_rfl) (by kernel_rfl) (Below.refl _ _).drew ?_
  intro S _ at_ hS
  have hc2 : ∀ x, (at_ x).cell? ⟨g, 2, none⟩ = some (.slice A bs.length c) := fun x => (H1.out.keep (hS x)).cell 2 rfl
  have hc3 : ∀ x, (at_ x).cell? ⟨g, 3, none⟩ = some (.int .i64 (a : Int)) := fun x => (H1.out.keep (hS x)).cell 3 rfl
  clear hS
  (refine phase_plain rfl (fun K hK => ?_); go_simp; refine hK _ ?_; clear hK K)
  (refine phase_plain rfl (fun K hK => ?_); go_simp; refine hK _ ?_; clear hK K)
  (refine phase_plain rfl (fun K hK => ?_); go_simp; refine hK _ ?_; clear hK K)
  (refine phase_plain rfl (fun K hK => ?_); go_simp; refine hK _ ?_; clear hK K)
  (refine phase_plain rfl (fun K hK => ?_); go_simp; refine hK _ ?_; clear hK K)
  (refine phase_plain rfl (fun K hK => ?_); go_simp; refine hK _ ?_; clear hK K)
  (refine phase_plain rfl (fun K hK => ?_); go_simp; refine hK _ ?_; clear hK K)
  (refine phase_plain rfl (fun K hK => ?_); go_simp; refine hK _ ?_; clear hK K)
  (refine phase_plain rfl (fun K hK => ?_); go_simp; refine hK _ ?_; clear hK K)
  refine phase_call rfl rfl 74 #[.slice A2 (bs.length - a) (c - a)] (fun w => by go_simp) (decV D) (fun w' hw => (HP.out w' hw).mono fun e w'' ⟨he, hw'⟩ => ⟨he, hw' ▸ hw⟩) ?_
  obtain ⟨dn, ds, de⟩ := D
  unfold decV
  (refine phase_plain rfl (fun K hK => ?_); go_simp; refine hK _ ?_; clear hK K)
  (refine phase_plain rfl (fun K hK => ?_); go_simp; refine hK _ ?_; clear hK K)
  (refine phase_plain rfl (fun K hK => ?_); go_simp; refine hK _ ?_; clear hK K)
  (refine phase_plain rfl (fun K hK => ?_); go_simp; refine hK _ ?_; clear hK K)
  (refine phase_plain rfl (fun K hK => ?_); go_simp; refine hK _ ?_; clear hK K)
  (refine phase_plain rfl (fun K hK => ?_); go_simp; refine hK _ ?_; clear hK K)
  (refine phase_plain rfl (fun K hK => ?_); go_simp; refine hK _ ?_; clear hK K)
  refine phase_nil ?_
  intro w2 hb2
  have B2 := hid hb2
  clear hc2 hc3 hb2
  by_cases hde : de = 0
  · subst hde
    have hn0 : numS0 bs a = (dn, .ok (a + ds)) := by
      have := HD.out
      unfold numS0; rw [this]; rfl
    by_cases hm : most < (dn : Int)
    · have hns : numS bs most above (.ok a) = (0, .bad above a) := by
        show limS a most above (numS0 bs a) = _
        rw [hn0]; exact if_pos hm
      have hdn := numS0_lt bs a dn _ hn0
      have HEE := hid (show above ≠ 0 from hab.elim id (fun h => by omega))
      have qe : ¬ (above : Int) = 0 := by have := HEE.out; omega
      have HQ := hid hns
      clear hns hn0 hab
      go_wp2_with fail
      refine wp_region_phase (fun k w' => Blk w' g 77 #[.pointer (some ⟨g, 0, none⟩), .pointer (some ⟨f, 0, none⟩), .slice A bs.length c, .int .i64 (a : Int)] ∧ (k = 0 → Below w.heap.size w w') ∧ (k ≠ 0 → Blk w' f 87 #[.int .i64 (above : Int), .int .i64 (a : Int)] ∧ Chg [f] w w')) (fun w' => Blk w' g 77 #[.pointer (some ⟨g, 0, none⟩), .pointer (some ⟨f, 0, none⟩), .slice A bs.length c, .int .i64 (a : Int)]) (fun k w' h => h.1) (by kernel_rfl) (by kernel_rfl) (by kernel_rfl) ⟨(H1.out.keep B2.out).drew, fun _ => B2.out.drew, fun h => absurd rfl h⟩ ?_
      intro S _ at_ hS
      have hc1 : ∀ x, (at_ x).cell? ⟨g, 1, none⟩ = some (.pointer (some ⟨f, 0, none⟩)) := fun x => (hS x).cell 1 rfl
      have hc3 : ∀ x, (at_ x).cell? ⟨g, 3, none⟩ = some (.int .i64 (a : Int)) := fun x => (hS x).cell 3 rfl
      clear hS
      (refine phase_plain rfl (fun K hK => ?_); go_simp; refine hK _ ?_; clear hK K)
      (refine phase_plain rfl (fun K hK => ?_); go_simp; refine hK _ ?_; clear hK K)
      (refine phase_plain rfl (fun K hK => ?_); go_simp; refine hK _ ?_; clear hK K)
      (refine phase_plain rfl (fun K hK => ?_); go_simp; refine hK _ ?_; clear hK K)
      (refine phase_plain rfl (fun K hK => ?_); go_simp; refine hK _ ?_; clear hK K)
      (refine phase_plain rfl (fun K hK => ?_); go_simp; refine hK _ ?_; clear hK K)
      (refine phase_plain rfl (fun K hK => ?_); go_simp; refine hK _ ?_; clear hK K)
      (refine phase_plain rfl (fun K hK => ?_); go_simp; refine hK _ ?_; clear hK K)
      (refine phase_plain rfl (fun K hK => ?_); go_simp; refine hK _ ?_; clear hK K)
      (refine phase_plain rfl (fun K hK => ?_); go_simp; refine hK _ ?_; clear hK K)
      refine phase_call rfl rfl 72 #[.pointer (some ⟨f, 0, none⟩), .agg #[.int .i64 (above : Int), .int .i64 (a : Int)]] (fun w => by go_simp) (.tuple #[]) (fun w' hw => (keep_calls f _ (above : Int) (a : Int) w' (H2.out.keep (hw.2.1 rfl))).mono fun e w'' ⟨he, hb, hc⟩ => ⟨he, hw.1.chg hc (by simpa using h7), fun h => absurd h (by omega), fun _ => ⟨hb, (Chg.of_below (hw.2.1 rfl)).trans hc (fun b hb => .inl hb)⟩⟩) ?_
      refine phase_nil ?_
      rintro w4 ⟨-, -, h2⟩
      obtain ⟨h2, k2⟩ := h2 (by omega)
      have HK := hid (show RdPost w base g f r bs (.bad above a) w4 from ⟨HH.out.fault k2 above a h2 HEE.out hal, k2.more (fun b hb => .inl (by simp at hb; simp [hb]))⟩)
      clear h2 k2 hc1 hc3
      go_wp2_with fail
      go_ret
      exact ⟨by rw [HQ.out]; rfl, by rw [HQ.out]; exact HK.out⟩
    · have hns : numS bs most above (.ok a) = (dn, .ok (a + ds)) := by
        show limS a most above (numS0 bs a) = _
        rw [hn0]; exact if_neg hm
      have hgd2 := hgd.out
      rw [hns] at hgd2
      have hds : a + ds ≤ bs.length := hgd2
      have qe : ¬ most < (dn : Int) := hm
      have e3 := (H1.out.keep B2.out).cell 3 rfl
      have f3 := (H1.out.keep B2.out).frozen 3
      have qs : (a : Int) + (ds : Int) = ((a + ds : Nat) : Int) := by omega
      have HK := hid (show RdPost w base g f r bs (.ok (a + ds)) (w2.setCell ⟨g, 3, none⟩ (.int .i64 ((a : Int) + (ds : Int)))) from by
        rw [qs]
        exact ⟨(HH.out.keep B2.out).moved rfl (a + ds) hds, (Chg.of_below B2.out).trans (chg_set (L := [g, f]) (by simp) 3 _) (fun b hb => .inl hb)⟩)
      have HQ := hid hns
      clear hns hn0 hab hgd2 qs hm
      go_wp2_with fail
      go_ret
      exact ⟨by rw [HQ.out]; rfl, by rw [HQ.out]; exact HK.out⟩
  · have hns : numS bs most above (.ok a) = (0, .bad de a) := by
      have hn0 : numS0 bs a = (0, .bad de a) := by
        have := HD.out
        unfold numS0; rw [this]; exact if_neg hde
      show limS a most above (numS0 bs a) = _
      rw [hn0]; rfl
    have HEE := hid hde
    have qe : ¬ (de : Int) = 0 := by omega
    have HQ := hid hns
    clear hns hde hab
    go_wp2_with fail
    refine wp_region_phase (fun k w' => Blk w' g 77 #[.pointer (some ⟨g, 0, none⟩), .pointer (some ⟨f, 0, none⟩), .slice A bs.length c, .int .i64 (a : Int)] ∧ (k = 0 → Below w.heap.size w w') ∧ (k ≠ 0 → Blk w' f 87 #[.int .i64 (de : Int), .int .i64 (a : Int)] ∧ Chg [f] w w')) (fun w' => Blk w' g 77 #[.pointer (some ⟨g, 0, none⟩), .pointer (some ⟨f, 0, none⟩), .slice A bs.length c, .int .i64 (a : Int)]) (fun k w' h => h.1) (by kernel_rfl) (by kernel_rfl) (by kernel_rfl) ⟨(H1.out.keep B2.out).drew, fun _ => B2.out.drew, fun h => absurd rfl h⟩ ?_
    intro S _ at_ hS
    have hc1 : ∀ x, (at_ x).cell? ⟨g, 1, none⟩ = some (.pointer (some ⟨f, 0, none⟩)) := fun x => (hS x).cell 1 rfl
    have hc3 : ∀ x, (at_ x).cell? ⟨g, 3, none⟩ = some (.int .i64 (a : Int)) := fun x => (hS x).cell 3 rfl
    clear hS
    (refine phase_plain rfl (fun K hK => ?_); go_simp; refine hK _ ?_; clear hK K)
    (refine phase_plain rfl (fun K hK => ?_); go_simp; refine hK _ ?_; clear hK K)
    (refine phase_plain rfl (fun K hK => ?_); go_simp; refine hK _ ?_; clear hK K)
    (refine phase_plain rfl (fun K hK => ?_); go_simp; refine hK _ ?_; clear hK K)
    (refine phase_plain rfl (fun K hK => ?_); go_simp; refine hK _ ?_; clear hK K)
    (refine phase_plain rfl (fun K hK => ?_); go_simp; refine hK _ ?_; clear hK K)
    (refine phase_plain rfl (fun K hK => ?_); go_simp; refine hK _ ?_; clear hK K)
    (refine phase_plain rfl (fun K hK => ?_); go_simp; refine hK _ ?_; clear hK K)
    (refine phase_plain rfl (fun K hK => ?_); go_simp; refine hK _ ?_; clear hK K)
    (refine phase_plain rfl (fun K hK => ?_); go_simp; refine hK _ ?_; clear hK K)
    refine phase_call rfl rfl 72 #[.pointer (some ⟨f, 0, none⟩), .agg #[.int .i64 (de : Int), .int .i64 (a : Int)]] (fun w => by go_simp) (.tuple #[]) (fun w' hw => (keep_calls f _ (de : Int) (a : Int) w' (H2.out.keep (hw.2.1 rfl))).mono fun e w'' ⟨he, hb, hc⟩ => ⟨he, hw.1.chg hc (by simpa using h7), fun h => absurd h (by omega), fun _ => ⟨hb, (Chg.of_below (hw.2.1 rfl)).trans hc (fun b hb => .inl hb)⟩⟩) ?_
    refine phase_nil ?_
    rintro w4 ⟨-, -, h2⟩
    obtain ⟨h2, k2⟩ := h2 (by omega)
    have HK := hid (show RdPost w base g f r bs (.bad de a) w4 from ⟨HH.out.fault k2 de a h2 HEE.out hal, k2.more (fun b hb => .inl (by simp at hb; simp [hb]))⟩)
    clear h2 k2 hc1 hc3
    go_wp2_with fail
    go_ret
    exact ⟨by rw [HQ.out]; rfl, by rw [HQ.out]; exact HK.out⟩
theorem number_calls (base g f : Nat) (r : Option Nat) (bs : List UInt8) (s : RS) (most : Int) (above : Nat) (hab : above ≠ 0 ∨ 9223372036854775807 ≤ most) (w : World) (h : RdB w base g f r bs s) :
    Calls Try.prog 65 #[.pointer (some ⟨g, 0, none⟩), .int .i64 most, .int .i64 (above : Int)] w fun e w' => e = .returned (.int .i64 ((numS bs most above s).1 : Int)) ∧ RdPost w base g f r bs (numS bs most above s).2 w' := by
  cases s with
  | ok a => exact number_ok base g f r bs a most above hab w h
  | bad e p => exact number_bad base g f r bs _ most above w h (by obtain ⟨_, _, _, _, _, _, _, _, _, _, _, _, _, hg, _⟩ := h; exact hg.1)
end Go.Proofs.Ytcpkjpeimnaimaa
