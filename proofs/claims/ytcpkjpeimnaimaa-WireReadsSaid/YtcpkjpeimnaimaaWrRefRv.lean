/- Contracts: a reader of the plain reference: Dot, Bool, Vector. -/
import Derived.Test.YtcpkjpeimnaimaaWrRefRl
namespace Go.Proofs.Ytcpkjpeimnaimaa
open Go.RowKit

theorem info_dot : (Try.prog.info? 35).map (fun i => (i.zero, i.size)) = some (some (.agg #[.int .i64 0, .int .i64 0]), 2) := by kernel_rfl
section
variable (g B c : Nat) (A : Option Addr) (bs : List UInt8) (s : RS) (w : World)
theorem RfB.errc {w : World} {g B c : Nat} {A : Option Addr} {bs : List UInt8} {s : RS} (h : RfB w g B c A bs s) : w.cell? ⟨g, 2, none⟩ = some (.int .i64 (s.err : Int)) := by
  obtain ⟨⟨a, h⟩, -⟩ := h
  exact h.1.cell 2 rfl
set_option maxHeartbeats 1000000 in
theorem refRDot_calls (h : RfB w g B c A bs s) :
    Calls Try.prog 45 #[.pointer (some ⟨g, 0, none⟩)] w fun e w' => e = .returned (.agg #[.int .i64 ((dotS bs s).1.1 : Int), .int .i64 ((dotS bs s).1.2 : Int)]) ∧ RfP w g B c A bs (dotS bs s).2 w' := by
  have HN1 := hid (fun w1 => refRNum_calls g B c A bs s w1)
  have HN2 := hid (fun w1 => refRNum_calls g B c A bs (numS bs maxI 0 s).2 w1)
  have hd : dotS bs s = (if (numS bs maxI 0 (numS bs maxI 0 s).2).2.err = 0 then ((numS bs maxI 0 s).1, (numS bs maxI 0 (numS bs maxI 0 s).2).1) else (0, 0), (numS bs maxI 0 (numS bs maxI 0 s).2).2) := rfl
  generalize dotS bs s = D at hd ⊢
  generalize numS bs maxI 0 s = q1 at HN1 HN2 hd
  generalize numS bs maxI 0 q1.2 = q2 at HN2 hd
  have HD := hid hd
  have hlt := h.lt
  have hB := h.hB
  have b1 := below_new w (.cells #[.int .i64 0, .int .i64 0] 35)
  have k1 := Blk.new w 35 #[.int .i64 0, .int .i64 0]
  have HH := hid h
  clear h hd
  go_enter Try.func45, Try.ntmps45
  go_wp2_with fail
  generalize w.alloc (.cells #[.int .i64 0, .int .i64 0] 35) = w1 at b1 k1 ⊢
  have K1 := hid k1; have B1 := hid b1
  refine (HN1.out w1 (HH.out.keep b1)).mono ?_
  rintro _ w2 ⟨rfl, hp⟩
  have K2 := hid (K1.out.chg hp.2 (by simp; omega))
  have P2 := hid (RfP.fresh B1.out hp)
  clear hp k1 b1 K1 B1
  go_wp2_with fail
  refine (HN2.out w2 P2.out.1).mono ?_
  rintro _ w3 ⟨rfl, hp⟩
  have K3 := hid (K2.out.chg hp.2 (by simp; omega))
  have P3 := hid (RfP.trans P2.out.2 hp)
  clear hp K2 P2
  have c2 := P3.out.1.errc
  have FIN := hid (fun x y => (⟨K3.out.setRow #[.int .i64 x, .int .i64 y], (by
    have kc : Chg [w.heap.size] w3 (w3.setRow w.heap.size #[.int .i64 x, .int .i64 y]) := Chg.of_grown (grown_setRow w3 _ _) (fun g e => by cases e; simp)
    exact ⟨P3.out.1.chg kc (by simp; omega) (fun b hb hm => by simp at hm; omega), P3.out.2.trans kc (fun b hb => .inr (by simp at hb; omega))⟩)⟩ : Blk (w3.setRow w.heap.size #[.int .i64 x, .int .i64 y]) w.heap.size 35 #[.int .i64 x, .int .i64 y] ∧ RfP w g B c A bs q2.2 (w3.setRow w.heap.size #[.int .i64 x, .int .i64 y])))
  by_cases he : q2.2.err = 0
  · have HE := hid (show D = ((q1.1, q2.1), q2.2) from by rw [HD.out, if_pos he])
    rw [he] at c2
    clear HD he
    go_wp2_with ((refine wpList_store_blk rfl 35 _ _ rfl w.heap.size #[.int .i64 (q1.1 : Int), .int .i64 (q2.1 : Int)] rfl rfl 35 _ K3.out (size_dot _ rfl) rfl rfl ?_); refine Held.go ?_)
    unfold Held
    go_wp2_with fail
    refine bodyPost_ret (v := .agg #[.int .i64 (q1.1 : Int), .int .i64 (q2.1 : Int)]) (results_cell_row rfl _ _ w.heap.size 35 _ (0, 0) _ rfl (FIN.out (q1.1 : Int) (q2.1 : Int)).1 Try.underlying35 rfl (size_dot _ rfl)) rfl ⟨by rw [HE.out]; try rfl, by rw [HE.out]; exact (FIN.out (q1.1 : Int) (q2.1 : Int)).2⟩
  · have HE := hid (show D = ((0, 0), q2.2) from by rw [HD.out, if_neg he])
    have he' : ¬ (q2.2.err : Int) = 0 := by omega
    generalize (q2.2.err : Int) = ee at c2 he'
    clear HD he
    go_wp2_with ((refine wpList_store_blk rfl 35 _ _ rfl w.heap.size #[.int .i64 0, .int .i64 0] rfl rfl 35 _ K3.out (size_dot _ rfl) rfl rfl ?_); refine Held.go ?_)
    unfold Held
    go_wp2_with fail
    refine bodyPost_ret (v := .agg #[.int .i64 0, .int .i64 0]) (results_cell_row rfl _ _ w.heap.size 35 _ (0, 0) _ rfl (FIN.out 0 0).1 Try.underlying35 rfl (size_dot _ rfl)) rfl ⟨by rw [HE.out]; try rfl, by rw [HE.out]; exact (FIN.out 0 0).2⟩
def BlP (w : World) (g B c : Nat) (A : Option Addr) (bs : List UInt8) (q : Nat × RS) (e : Ending) (w' : World) : Prop := e = .returned (.bool ((q.1 : Int) == 1)) ∧ RfP w g B c A bs q.2 w'
set_option maxHeartbeats 1000000 in
theorem refRBool_calls (h : RfB w g B c A bs s) :
    Calls Try.prog 50 #[.pointer (some ⟨g, 0, none⟩)] w (BlP w g B c A bs (numS bs 1 5 s)) := by
  have HN := hid (refRNum_calls g B c A bs s w h)
  obtain ⟨⟨at_, h⟩, hc⟩ := h
  have d1 : w.cell? ⟨g, 1, none⟩ = some (.int .i64 (at_ : Int)) := h.1.cell 1 rfl
  cases s with
  | bad e p =>
    have he : ¬ (e : Int) = 0 := by have := h.2.2.2.2.2.1.1; omega
    have he2 : ((e : Int) == 0) = false := by simpa using he
    rw [show numS bs maxI 0 (.bad e p) = (0, .bad e p) from rfl] at HN
    rw [show numS bs 1 5 (.bad e p) = (0, .bad e p) from rfl]
    have HQ := hid (show ∀ w', RfP w g B c A bs (.bad e p) w' → BlP w g B c A bs (0, .bad e p) (.returned (.bool false)) w' from fun w' hp => ⟨rfl, hp⟩)
    generalize BlP w g B c A bs (0, .bad e p) = Q at HQ ⊢
    clear h hc
    go_enter Try.func50, Try.ntmps50
    go_wp2_with fail
    refine HN.out.mono ?_
    rintro _ w1 ⟨rfl, hp⟩
    have d2 : w1.cell? ⟨g, 2, none⟩ = some (.int .i64 (e : Int)) := hp.1.errc
    have HP := hid (HQ.out _ hp)
    clear hp d1 HQ HN
    go_wp2_with fail
    first | exact HP.out | (go_ret; exact HP.out)
  | ok a' =>
    obtain rfl := h.2.2.2.2.2.2 a' rfl
    have hat : at_ ≤ bs.length := h.2.2.2.1
    have hS : numS bs 1 5 (.ok at_) = limS at_ 1 5 (numS0 bs at_) := rfl
    rw [numS_ok] at HN
    rw [hS]
    clear h hS
    generalize numS0 bs at_ = q at HN ⊢
    obtain ⟨m, s1⟩ := q
    cases s1 with
    | bad e p =>
      rw [show limS at_ 1 5 (m, .bad e p) = (0, .bad e p) from rfl]
      have HQ := hid (show ∀ w', RfP w g B c A bs (.bad e p) w' → BlP w g B c A bs (0, .bad e p) (.returned (.bool false)) w' from fun w' hp => ⟨rfl, hp⟩)
      generalize BlP w g B c A bs (0, .bad e p) = Q at HQ ⊢
      clear hat hc
      go_enter Try.func50, Try.ntmps50
      go_wp2_with fail
      refine HN.out.mono ?_
      rintro _ w1 ⟨rfl, hp⟩
      have he : ¬ (e : Int) = 0 := by have := hp.1.good.1; omega
      have he2 : ((e : Int) == 0) = false := by simpa using he
      have d2 : w1.cell? ⟨g, 2, none⟩ = some (.int .i64 (e : Int)) := hp.1.errc
      have HP := hid (HQ.out _ hp)
      generalize ((m, RS.bad e p).1 : Int) = z
      clear hp d1 HQ HN
      go_wp2_with fail
      first | exact HP.out | (go_ret; exact HP.out)
    | ok a1 =>
      dsimp only at HN
      by_cases hm : (1 : Int) < (m : Int)
      · rw [show limS at_ 1 5 (m, .ok a1) = (0, .bad 5 at_) from if_pos hm]
        have HQ := hid (show ∀ w', RfP w g B c A bs (.bad 5 at_) w' → BlP w g B c A bs (0, .bad 5 at_) (.returned (.bool false)) w' from fun w' hp => ⟨rfl, hp⟩)
        generalize BlP w g B c A bs (0, .bad 5 at_) = Q at HQ ⊢
        have HAT := hid hat
        clear hat hc
        go_enter Try.func50, Try.ntmps50
        go_wp2_with fail
        refine HN.out.mono ?_
        rintro _ w1 ⟨rfl, hp⟩
        have d2 : w1.cell? ⟨g, 2, none⟩ = some (.int .i64 0) := hp.1.errc
        obtain ⟨⟨a2, h1⟩, hcc⟩ := hp.1
        have HF := hid (refFail_calls g B bs.length c A bs a2 (.ok a1) 5 at_ w1 h1 (by omega) HAT.out)
        have HP := hid (fun w' (h2 : RfB w' g B c A bs (.bad 5 at_)) (h3 : Chg [g] w1 w') => HQ.out w' ⟨h2, hp.2.trans h3 (fun _ hb => .inl hb)⟩)
        have HCC := hid hcc
        clear hp h1 d1 HQ HN hcc
        go_wp2_with fail
        refine HF.out.mono ?_
        rintro _ w2 ⟨rfl, h2, h3⟩
        have h2' : RfB w2 g B c A bs (.bad 5 at_) := ⟨⟨_, h2⟩, HCC.out⟩
        have d3 : w2.cell? ⟨g, 2, none⟩ = some (.int .i64 5) := h2'.errc
        have HR := hid (HP.out _ h2' h3)
        clear h2 h2' h3 d2
        go_wp2_with fail
        first | exact HR.out | (go_ret; exact HR.out)
      · have hm' : ¬ (1 : Int) < (m : Int) := hm
        rw [show limS at_ 1 5 (m, .ok a1) = (m, .ok a1) from if_neg hm]
        have HQ := hid (show ∀ w', RfP w g B c A bs (.ok a1) w' → BlP w g B c A bs (m, .ok a1) (.returned (.bool ((m : Int) == 1))) w' from fun w' hp => ⟨rfl, hp⟩)
        generalize BlP w g B c A bs (m, .ok a1) = Q at HQ ⊢
        clear hat hc
        generalize (m : Int) = z at *
        go_enter Try.func50, Try.ntmps50
        go_wp2_with fail
        refine HN.out.mono ?_
        rintro _ w1 ⟨rfl, hp⟩
        have d2 : w1.cell? ⟨g, 2, none⟩ = some (.int .i64 0) := hp.1.errc
        have HP := hid (HQ.out _ hp)
        clear hp d1 HQ HN
        go_wp2_with fail
        first | exact HP.out | (go_ret; exact HP.out)
theorem bad_of {s : RS} (h : s.err ≠ 0) : ∃ e p, s = .bad e p := by
  cases s with
  | ok a => exact absurd rfl h
  | bad e p => exact ⟨e, p, rfl⟩
/-- what stands ahead of a vector's loop -/
def VcM (w : World) (g B c : Nat) (A : Option Addr) (bs : List UInt8) (q : List Int × RS) (m : Nat) (W : World) : Prop :=
  ∃ s2, RfP w g B c A bs s2 W ∧ (s2.err = 0 → vecLoop bs m [] s2 = q) ∧ (s2.err ≠ 0 → q = ([], s2))
def VcP (w : World) (g B c : Nat) (A : Option Addr) (bs : List UInt8) (q : List Int × RS) (e : Ending) (w' : World) : Prop := ∃ v, e = .returned v ∧ OwnI w' w.heap.size v q.1 ∧ RfP w g B c A bs q.2 w'
set_option maxHeartbeats 2000000 in
set_option maxRecDepth 20000 in
theorem refRVec_calls (most : Int) (h : RfB w g B c A bs s) :
    Calls Try.prog 48 #[.pointer (some ⟨g, 0, none⟩), .int .i64 most] w (VcP w g B c A bs (vecS bs most s)) := by
  have HN := hid (refRNum_calls g B c A bs s w h)
  have HGL := hid h.lt
  have HBL := hid (show bs.length ≤ 549755813888 from by obtain ⟨⟨a, h⟩, -⟩ := h; exact h.2.2.2.2.1)
  obtain ⟨⟨at_, h⟩, hc⟩ := h
  have d1 : w.cell? ⟨g, 1, none⟩ = some (.int .i64 (at_ : Int)) := h.1.cell 1 rfl
  have hat : at_ ≤ bs.length := h.2.2.2.1
  have HAT := hid hat
  have hv : vecS bs most s = vecLoop bs (numS bs most 4 s).1 [] (numS bs most 4 s).2 := rfl
  generalize vecS bs most s = q at hv ⊢
  -- the state behind Num, and whether there are too many
  have hg0 : (numS bs maxI 0 s).2.good bs.length := numS_good bs maxI 0 s (.inr (by simp [maxI])) h.2.2.2.2.2.1
  have HM : Hid (((numS bs maxI 0 s).2.err ≠ 0 ∨ ((numS bs maxI 0 s).1 : Int) ≤ most) → ((numS bs maxI 0 s).2.err = 0 → vecLoop bs (numS bs maxI 0 s).1 [] (numS bs maxI 0 s).2 = q) ∧ ((numS bs maxI 0 s).2.err ≠ 0 → q = ([], (numS bs maxI 0 s).2))) := fun hh => by
    have hg := hg0
    refine ⟨fun h0 => ?_, fun h0 => ?_⟩
    · cases s with
      | bad e p => exact absurd h0 hg.1
      | ok a' =>
        have hn : numS bs most 4 (.ok a') = limS a' most 4 (numS0 bs a') := rfl
        rw [numS_ok] at h0 hh hg ⊢
        rw [hv, hn]
        generalize numS0 bs a' = Q at *
        obtain ⟨m, s1⟩ := Q
        cases s1 with
        | bad e p => exact absurd h0 hg.1
        | ok a1 =>
          rw [show limS a' most 4 (m, .ok a1) = (m, .ok a1) from if_neg (by have := hh.resolve_left (fun h => h h0); dsimp only at this; omega)]
    · cases s with
      | bad e p => rw [hv]; rfl
      | ok a' =>
        have hn : numS bs most 4 (.ok a') = limS a' most 4 (numS0 bs a') := rfl
        rw [numS_ok] at h0 ⊢
        rw [hv, hn]
        generalize numS0 bs a' = Q at *
        obtain ⟨m, s1⟩ := Q
        cases s1 with
        | bad e p => rfl
        | ok a1 => exact absurd rfl h0
  have HF : Hid ((numS bs maxI 0 s).2.err = 0 → most < ((numS bs maxI 0 s).1 : Int) → q = ([], .bad 4 at_)) := fun h0 hh => by
    cases s with
    | bad e p => exact absurd h0 h.2.2.2.2.2.1.1
    | ok a' =>
      obtain rfl := h.2.2.2.2.2.2 a' rfl
      have hn : numS bs most 4 (.ok at_) = limS at_ most 4 (numS0 bs at_) := rfl
      rw [numS_ok] at h0 hh
      have hg := numS0_good bs at_ hat
      rw [hv, hn]
      clear HN
      generalize numS0 bs at_ = Q at *
      obtain ⟨m, s1⟩ := Q
      cases s1 with
      | bad e p => exact absurd h0 hg.1
      | ok a1 =>
        rw [show limS at_ most 4 (m, .ok a1) = (0, .bad 4 at_) from if_pos hh]; rfl
  have HML := hid (numS_lt bs maxI 0 s)
  clear h hc hv hat hg0
  generalize numS bs maxI 0 s = q1 at HN HM HF HML
  obtain ⟨m, s1⟩ := q1
  dsimp only at HN HM HF HML
  go_enter Try.func48, Try.ntmps48
  go_wp2_with fail
  refine HN.out.mono ?_
  rintro _ w1 ⟨rfl, hp⟩
  have d2 : w1.cell? ⟨g, 2, none⟩ = some (.int .i64 (s1.err : Int)) := hp.1.errc
  have hml : m < 9223372036854775808 := HML.out
  by_cases hmany : s1.err = 0 ∧ most < (m : Int)
  · obtain ⟨h0, hm⟩ := hmany
    have HQ0 := hid (HF.out h0 hm)
    obtain ⟨a2, rfl, -⟩ := good_err hp.1.good h0
    rw [show ((RS.ok a2).err : Int) = 0 from rfl] at d2
    obtain ⟨⟨a3, h1⟩, hcc⟩ := hp.1
    have HFL := hid (refFail_calls g B bs.length c A bs a3 (.ok a2) 4 at_ w1 h1 (by omega) HAT.out)
    have HCC := hid hcc
    have HC1 := hid hp.2
    clear hp h1 hcc h0 HM HF d1 HN
    go_wp2_with fail
    refine HFL.out.mono ?_
    rintro _ w2 ⟨rfl, h2, h3⟩
    have HR2 := hid (show RfP w g B c A bs (.bad 4 at_) w2 from ⟨⟨⟨_, h2⟩, HCC.out⟩, HC1.out.trans h3 (fun _ hb => .inl hb)⟩)
    clear h2 h3 HFL d2
    go_wp2_with fail
    go_loopw [7, 8] (fun v7 v8 wr => v7 = .slice none 0 0 ∧ v8 = .int .i64 0 ∧ Hid (wr = w2)) (fun _ _ _ => 0)
    case atStart => exact ⟨rfl, rfl, hid rfl⟩
    case round =>
      obtain ⟨rfl, rfl, hwr⟩ := hrel
      have hw := hwr.out
      subst hw
      have e2 : wr.cell? ⟨g, 2, none⟩ = some (.int .i64 4) := HR2.out.1.errc
      by_cases hm0 : (0 : Int) < (m : Int)
      · go_wp2_with fail
        go_ret
        exact ⟨_, rfl, by rw [HQ0.out]; exact World.ownsRow_nil _ _ _ _, by rw [HQ0.out]; exact HR2.out⟩
      · go_wp2_with fail
        go_ret
        exact ⟨_, rfl, by rw [HQ0.out]; exact World.ownsRow_nil _ _ _ _, by rw [HQ0.out]; exact HR2.out⟩
  · obtain ⟨hz2, he2⟩ := HM.out (by
      by_cases h : s1.err = 0
      · right
        have hx : ¬ most < (m : Int) := fun h' => hmany ⟨h, h'⟩
        omega
      · exact .inl h)
    have HZ2 := hid hz2; have HE2 := hid he2
    have HP1 := hid hp
    clear HM HF HN d1 hp hz2 he2
    have hgo : ((s1.err : Int) == 0) = true ∧ (m : Int) ≤ most ∨ ((s1.err : Int) == 0) = false := by
      by_cases h : s1.err = 0
      · left
        have hx : ¬ most < (m : Int) := fun h' => hmany ⟨h, h'⟩
        exact ⟨by simp [h], by omega⟩
      · right; simp; omega
    have HS0 := hid (show s1.good bs.length from HP1.out.1.good)
    have HR0 := hid (show OwnI w1 w.heap.size (.slice none 0 0) [] from World.ownsRow_nil _ _ _ _)
    clear hmany
    have hloop : ∀ (K : Prop), (((s1.err : Int) == 0) = true ∧ (m : Int) ≤ most → K) → (((s1.err : Int) == 0) = false → K) → K := fun K h1 h2 => hgo.elim h1 h2
    clear hgo
    have HREL := hid (show ∃ (k : Nat) (zs : List Int) (s2 : RS), k ≤ m ∧ (Value.int .i64 0) = .int .i64 (k : Int) ∧ Hid (zs.length = k) ∧ Hid (OwnI w1 w.heap.size (.slice none 0 0) zs) ∧ Hid (RfP w g B c A bs s2 w1) ∧ Hid (s2.err = 0 → vecLoop bs (m - k) zs s2 = q ∧ ∃ a, s2 = .ok a ∧ k ≤ a ∧ a ≤ bs.length) ∧ Hid (s2.err ≠ 0 → q = ([], s2)) from
      ⟨0, [], s1, Nat.zero_le _, rfl, hid rfl, HR0, HP1, hid (fun h => ⟨HZ2.out h, by obtain ⟨a, e, ha⟩ := good_err HS0.out h; exact ⟨a, e, Nat.zero_le _, ha⟩⟩), HE2⟩)
    clear HZ2 HE2 HP1 HS0 HR0
    have hstart : (((s1.err : Int) == 0) = true ∧ (m : Int) ≤ most) ∨ ((s1.err : Int) == 0) = false := hloop _ .inl .inr
    clear hloop
    rcases hstart with ⟨he, hm⟩ | he
    · have hm' : ¬ most < (m : Int) := by omega
      go_wp2_with fail
      clear d2 he hm hm'
      go_loopw [7, 8] (fun v7 v8 wr => ∃ (k : Nat) (zs : List Int) (s2 : RS), k ≤ m ∧ v8 = .int .i64 (k : Int) ∧ Hid (zs.length = k) ∧ Hid (OwnI wr w.heap.size v7 zs) ∧ Hid (RfP w g B c A bs s2 wr) ∧ Hid (s2.err = 0 → vecLoop bs (m - k) zs s2 = q ∧ ∃ a, s2 = .ok a ∧ k ≤ a ∧ a ≤ bs.length) ∧ Hid (s2.err ≠ 0 → q = ([], s2))) (fun _ v8 _ => m - (intOf v8).toNat)
      case atStart => exact HREL.out
      case round =>
        clear HREL
        obtain ⟨k, zs, s2, hk, rfl, HZ, HO, HR, HOK, HER⟩ := hrel
        have e2 : wr.cell? ⟨g, 2, none⟩ = some (.int .i64 (s2.err : Int)) := HR.out.1.errc
        by_cases h0 : s2.err = 0
        · obtain ⟨hvl, a, rfl, hka, hal⟩ := HOK.out h0
          rw [show ((RS.ok a).err : Int) = 0 from rfl] at e2
          by_cases hlk : k < m
          · have q0 : (k : Int) < (m : Int) := by omega
            rw [show m - k = (m - (k + 1)) + 1 from by omega] at hvl
            simp only [vecLoop] at hvl
            have HN2 := hid (refRNum_calls g B c A bs (.ok a) wr HR.out.1)
            have HST := hid (numS_step (bs := bs) (most := maxI) (above := 0) (a := a) hal · (.inr (by simp [maxI])))
            generalize numS bs maxI 0 (.ok a) = q2 at HN2 hvl HST
            have HVL := hid hvl
            have HKA := hid (And.intro hka hal)
            clear hvl hka hal HOK HER h0
            go_wp2_with fail
            refine HN2.out.mono ?_
            rintro _ w2 ⟨rfl, hp⟩
            have P2 := hid (RfP.trans HR.out.2 hp)
            have HO2 := hid (HO.out.chg hp.2 (fun b hb => by have := HGL.out; simp at hb; omega))
            clear hp HO HR HN2 e2
            go_wp2_with (at_builtin; refine Held.go ?_)
            refine wpList_pushI rfl _ _ rfl w.heap.size u7 zs rfl HO2.out (q2.1 : Int) rfl (by have := HZ.out; have := HKA.out; have := HBL.out; omega) P2.out.2.size ?_
            intro v3 w3 h3 g3
            have hrow := World.ownsRow.lt HO2.out
            have kc : Chg (u7.ownBlock.toList) w2 w3 := Chg.of_grown g3 (fun b e => by
              have : u7.ownBlock = some b := e
              rw [this]; simp)
            have P3 := hid (show RfP w g B c A bs q2.2 w3 from ⟨P2.out.1.chg kc (fun hm => by
                have h1 : u7.ownBlock = some g := by simpa using hm
                have := (hrow g h1).1
                have := HGL.out
                omega) (fun b hb hm => by
                have h1 : u7.ownBlock = some b := by simpa using hm
                have := (hrow b h1).1
                have := P2.out.1.hB
                have := HGL.out
                omega), P2.out.2.trans kc (fun b hb => .inr (by
                have h1 : u7.ownBlock = some b := by simpa using hb
                exact (hrow b h1).1))⟩)
            have HO3 := hid h3
            have HZ3 := hid (show (zs ++ [(q2.1 : Int)]).length = k + 1 from by rw [List.length_append, HZ.out]; rfl)
            have HOK3 := hid (show q2.2.err = 0 → vecLoop bs (m - (k + 1)) (zs ++ [(q2.1 : Int)]) q2.2 = q ∧ ∃ a, q2.2 = .ok a ∧ k + 1 ≤ a ∧ a ≤ bs.length from fun h => by
              have hv := HVL.out
              rw [if_pos h] at hv
              obtain ⟨a', e1, e2, e3⟩ := HST.out h
              exact ⟨hv, a', e1, by have := HKA.out; omega, e3⟩)
            have HER3 := hid (show q2.2.err ≠ 0 → q = ([], q2.2) from fun h => by
              have hv := HVL.out
              rw [if_neg h] at hv
              exact hv.symm)
            clear h3 g3 kc hrow HO2 P2 HST HVL
            go_wp2_with fail
            go_roundw
            case rel => exact ⟨k + 1, zs ++ [(q2.1 : Int)], q2.2, by omega, by go_num, HZ3, HO3, P3, HOK3, HER3⟩
            case measure => simp [intOf]; omega
          · obtain rfl : k = m := by omega
            have q0 : ¬ (k : Int) < (k : Int) := by omega
            rw [Nat.sub_self] at hvl
            have HQ := hid (show (zs, RS.ok a) = q from hvl)
            clear hvl HOK HER
            go_wp2_with fail
            go_ret
            exact ⟨_, rfl, by rw [← HQ.out]; exact HO.out, by rw [← HQ.out]; exact HR.out⟩
        · have h0' : ((s2.err : Int) == 0) = false := by simp; omega
          have h0n : ((s2.err : Int) != 0) = true := by simp; omega
          have HQ := hid (HER.out h0)
          clear HOK HER
          generalize hee : (s2.err : Int) = ee at e2 h0' h0n
          clear hee
          by_cases hlk : k < m
          · have q0 : (k : Int) < (m : Int) := by omega
            go_wp2_with fail
            go_ret
            exact ⟨_, rfl, by rw [HQ.out]; exact World.ownsRow_nil _ _ _ _, by rw [HQ.out]; exact HR.out⟩
          · have q0 : ¬ (k : Int) < (m : Int) := by omega
            go_wp2_with fail
            go_ret
            exact ⟨_, rfl, by rw [HQ.out]; exact World.ownsRow_nil _ _ _ _, by rw [HQ.out]; exact HR.out⟩
    · go_wp2_with fail
      clear d2 he
      go_loopw [7, 8] (fun v7 v8 wr => ∃ (k : Nat) (zs : List Int) (s2 : RS), k ≤ m ∧ v8 = .int .i64 (k : Int) ∧ Hid (zs.length = k) ∧ Hid (OwnI wr w.heap.size v7 zs) ∧ Hid (RfP w g B c A bs s2 wr) ∧ Hid (s2.err = 0 → vecLoop bs (m - k) zs s2 = q ∧ ∃ a, s2 = .ok a ∧ k ≤ a ∧ a ≤ bs.length) ∧ Hid (s2.err ≠ 0 → q = ([], s2))) (fun _ v8 _ => m - (intOf v8).toNat)
      case atStart => exact HREL.out
      case round =>
        clear HREL
        obtain ⟨k, zs, s2, hk, rfl, HZ, HO, HR, HOK, HER⟩ := hrel
        have e2 : wr.cell? ⟨g, 2, none⟩ = some (.int .i64 (s2.err : Int)) := HR.out.1.errc
        by_cases h0 : s2.err = 0
        · obtain ⟨hvl, a, rfl, hka, hal⟩ := HOK.out h0
          rw [show ((RS.ok a).err : Int) = 0 from rfl] at e2
          by_cases hlk : k < m
          · have q0 : (k : Int) < (m : Int) := by omega
            rw [show m - k = (m - (k + 1)) + 1 from by omega] at hvl
            simp only [vecLoop] at hvl
            have HN2 := hid (refRNum_calls g B c A bs (.ok a) wr HR.out.1)
            have HST := hid (numS_step (bs := bs) (most := maxI) (above := 0) (a := a) hal · (.inr (by simp [maxI])))
            generalize numS bs maxI 0 (.ok a) = q2 at HN2 hvl HST
            have HVL := hid hvl
            have HKA := hid (And.intro hka hal)
            clear hvl hka hal HOK HER h0
            go_wp2_with fail
            refine HN2.out.mono ?_
            rintro _ w2 ⟨rfl, hp⟩
            have P2 := hid (RfP.trans HR.out.2 hp)
            have HO2 := hid (HO.out.chg hp.2 (fun b hb => by have := HGL.out; simp at hb; omega))
            clear hp HO HR HN2 e2
            go_wp2_with (at_builtin; refine Held.go ?_)
            refine wpList_pushI rfl _ _ rfl w.heap.size u7 zs rfl HO2.out (q2.1 : Int) rfl (by have := HZ.out; have := HKA.out; have := HBL.out; omega) P2.out.2.size ?_
            intro v3 w3 h3 g3
            have hrow := World.ownsRow.lt HO2.out
            have kc : Chg (u7.ownBlock.toList) w2 w3 := Chg.of_grown g3 (fun b e => by
              have : u7.ownBlock = some b := e
              rw [this]; simp)
            have P3 := hid (show RfP w g B c A bs q2.2 w3 from ⟨P2.out.1.chg kc (fun hm => by
                have h1 : u7.ownBlock = some g := by simpa using hm
                have := (hrow g h1).1
                have := HGL.out
                omega) (fun b hb hm => by
                have h1 : u7.ownBlock = some b := by simpa using hm
                have := (hrow b h1).1
                have := P2.out.1.hB
                have := HGL.out
                omega), P2.out.2.trans kc (fun b hb => .inr (by
                have h1 : u7.ownBlock = some b := by simpa using hb
                exact (hrow b h1).1))⟩)
            have HO3 := hid h3
            have HZ3 := hid (show (zs ++ [(q2.1 : Int)]).length = k + 1 from by rw [List.length_append, HZ.out]; rfl)
            have HOK3 := hid (show q2.2.err = 0 → vecLoop bs (m - (k + 1)) (zs ++ [(q2.1 : Int)]) q2.2 = q ∧ ∃ a, q2.2 = .ok a ∧ k + 1 ≤ a ∧ a ≤ bs.length from fun h => by
              have hv := HVL.out
              rw [if_pos h] at hv
              obtain ⟨a', e1, e2, e3⟩ := HST.out h
              exact ⟨hv, a', e1, by have := HKA.out; omega, e3⟩)
            have HER3 := hid (show q2.2.err ≠ 0 → q = ([], q2.2) from fun h => by
              have hv := HVL.out
              rw [if_neg h] at hv
              exact hv.symm)
            clear h3 g3 kc hrow HO2 P2 HST HVL
            go_wp2_with fail
            go_roundw
            case rel => exact ⟨k + 1, zs ++ [(q2.1 : Int)], q2.2, by omega, by go_num, HZ3, HO3, P3, HOK3, HER3⟩
            case measure => simp [intOf]; omega
          · obtain rfl : k = m := by omega
            have q0 : ¬ (k : Int) < (k : Int) := by omega
            rw [Nat.sub_self] at hvl
            have HQ := hid (show (zs, RS.ok a) = q from hvl)
            clear hvl HOK HER
            go_wp2_with fail
            go_ret
            exact ⟨_, rfl, by rw [← HQ.out]; exact HO.out, by rw [← HQ.out]; exact HR.out⟩
        · have h0' : ((s2.err : Int) == 0) = false := by simp; omega
          have h0n : ((s2.err : Int) != 0) = true := by simp; omega
          have HQ := hid (HER.out h0)
          clear HOK HER
          generalize hee : (s2.err : Int) = ee at e2 h0' h0n
          clear hee
          by_cases hlk : k < m
          · have q0 : (k : Int) < (m : Int) := by omega
            go_wp2_with fail
            go_ret
            exact ⟨_, rfl, by rw [HQ.out]; exact World.ownsRow_nil _ _ _ _, by rw [HQ.out]; exact HR.out⟩
          · have q0 : ¬ (k : Int) < (m : Int) := by omega
            go_wp2_with fail
            go_ret
            exact ⟨_, rfl, by rw [HQ.out]; exact World.ownsRow_nil _ _ _ _, by rw [HQ.out]; exact HR.out⟩
end
end Go.Proofs.Ytcpkjpeimnaimaa
