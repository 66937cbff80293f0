/- The law QuotaKnown, walked. -/
import Derived.Test.YtjgnbmkhibdcfaaQtSame
namespace Go.Proofs.Ytjgnbmkhibdcfaa
open Go.RowKit

theorem foldl_dig2 : Array.foldl (fun (cs : Array Value) (x : Value × Nat) => cs.setIfInBounds x.snd x.fst) #[.int .u8 0, .int .u8 0, .int .u8 0, .int .u8 0, .int .u8 0, .int .u8 0, .int .u8 0, .int .u8 0, .int .u8 0, .int .u8 0, .int .u8 0, .int .u8 0, .int .u8 0, .int .u8 0, .int .u8 0, .int .u8 0, .int .u8 0, .int .u8 0, .int .u8 0, .int .u8 0, .int .u8 0, .int .u8 0, .int .u8 0, .int .u8 0, .int .u8 0, .int .u8 0, .int .u8 0, .int .u8 0, .int .u8 0, .int .u8 0, .int .u8 0, .int .u8 0] (bcells dig2).zipIdx 0 (bcells dig2).size = bcells dig2 := by kernel_rfl
theorem RepQ.row {w w' : World} {l : List (LKey × Int)} {e : Ending} (h : RepQ w l e w') : ∃ A c k rs, e = .returned (.slice A k c) ∧ TRow w' A k rs ∧ rs.Pairwise (fun a b => Lib.compareBytes a b < 0) ∧ (∀ r, r ∈ rs ↔ ofQ l r ≠ []) ∧ k ≤ 100000 := by
  obtain ⟨A, c, k, rs, h1, h2, h3, h4, h5, h6, _⟩ := h
  refine ⟨A, c, k, rs, h1, ⟨h2, fun hn => ?_⟩, h4, h5, h6⟩
  obtain ⟨g, e1, _, e3⟩ := h3 hn
  exact ⟨g, e1, fun i r hr => (e3 i r hr).1⟩
theorem IdsQ.row {w w' : World} {l : List (LKey × Int)} {r : List UInt8} {e : Ending} (h : IdsQ w l r e w') : ∃ A c k ids, e = .returned (.slice A k c) ∧ IRow w' A k ids ∧ ids.Pairwise (fun a b => cmpL a b < 0) ∧ (∀ id : List UInt8, id.length = 32 → (id ∈ ids ↔ (szQ l (r, id)).isSome = true)) ∧ (∀ id ∈ ids, id.length = 32) ∧ k ≤ 100000 := by
  obtain ⟨v, k, ids, h1, h2, h3, h4, h5, h6, h7, _⟩ := h
  obtain ⟨A, c, rfl, h8⟩ := IRow.of_own h2 h3 h6
  exact ⟨A, c, k, ids, h1, h8, h4, h5, h6, h7⟩
theorem sorted_two {rs : List (List UInt8)} (hp : rs.Pairwise (fun a b => Lib.compareBytes a b < 0)) {a b : List UInt8} (hab : Lib.compareBytes a b < 0) (hm : ∀ r, r ∈ rs ↔ r = a ∨ r = b) : rs = [a, b] := by
  match rs, hp, hm with
  | [], _, hm => exact absurd ((hm a).2 (.inl rfl)) (by simp)
  | [x], _, hm =>
    have h1 := (hm a).2 (.inl rfl)
    have h2 := (hm b).2 (.inr rfl)
    rw [List.mem_singleton] at h1 h2
    rw [h1, h2, cb_refl] at hab
    exact absurd hab (by decide)
  | x :: y :: t, hp, hm =>
    have hx := (hm x).1 (by simp)
    have hy := (hm y).1 (by simp)
    rw [List.pairwise_cons] at hp
    have hxy := hp.1 y (by simp)
    have hba : ¬ Lib.compareBytes b a < 0 := fun h => by
      have := cb_trans _ _ _ hab h
      rw [cb_refl] at this
      exact absurd this (by decide)
    have e1 : x = a := by
      rcases hx with h | h
      · exact h
      · rcases hy with h2 | h2
        · rw [h, h2] at hxy; exact absurd hxy hba
        · rw [h, h2, cb_refl] at hxy; exact absurd hxy (by decide)
    have e2 : y = b := by
      rcases hy with h | h
      · rw [e1, h, cb_refl] at hxy; exact absurd hxy (by decide)
      · exact h
    match t, hp, hm with
    | [], _, _ => rw [e1, e2]
    | z :: t, hp, hm =>
      have hz := (hm z).1 (by simp)
      have hp2 := List.pairwise_cons.1 hp.2
      have hyz := hp2.1 z (by simp)
      rcases hz with h | h
      · rw [e2, h] at hyz; exact absurd hyz hba
      · rw [e2, h, cb_refl] at hyz; exact absurd hyz (by decide)
theorem single_of {α : Type} {rs : List α} (hn : rs.Nodup) {a : α} (hm : ∀ r, r ∈ rs ↔ r = a) : rs = [a] := by
  match rs, hn, hm with
  | [], _, hm => exact absurd ((hm a).2 rfl) (by simp)
  | [x], _, hm => rw [(hm x).1 (by simp)]
  | x :: y :: t, hn, hm =>
    have hx := (hm x).1 (by simp)
    have hy := (hm y).1 (by simp)
    rw [hx, hy] at hn
    simp at hn
theorem nodup_of {rs : List (List UInt8)} (hp : rs.Pairwise (fun a b => Lib.compareBytes a b < 0)) : rs.Nodup :=
  hp.imp fun {a b} h e => by rw [e, cb_refl] at h; exact absurd h (by decide)
theorem cmpL_refl (a : List UInt8) : cmpL a a = 0 := by
  rw [cmp_same a a rfl, cb_refl]
theorem run_slice_s2 (a b : ByteArray) (W : World) : (Instr.buildSlice 41 2 #[(0, .string a), (1, .string b)]).run Try.prog W = .ok (.slice (some ⟨W.heap.size, 0, none⟩) 2 2) (W.alloc (.cells #[.string a, .string b] 9)) := by kernel_rfl
theorem trow_new (w : World) (rs : List (List UInt8)) (n : Nat) (hn : rs.length = n) : TRow (w.alloc (.cells (rs.map fun r => Value.string (strB r)).toArray 9)) (some ⟨w.heap.size, 0, none⟩) n rs := by
  have hb := Blk.new w 9 (rs.map fun r => Value.string (strB r)).toArray
  exact ⟨hn, fun _ => ⟨_, rfl, fun i r hr => hb.cell i (by simp [hr])⟩⟩
/-- the chapter's links, on the way -/
def k1 : List (LKey × Int) := [(([97], dig1), 6)]
def k2 : List (LKey × Int) := [(([97], dig1), 6), (([97], dig2), 5)]
def k3 : List (LKey × Int) := [(([97], dig1), 6), (([97], dig2), 5), (([98], dig1), 6)]
def k4 : List (LKey × Int) := [(([97], dig2), 5)]
theorem known_repos {rs : List (List UInt8)} (hp : rs.Pairwise (fun a b => Lib.compareBytes a b < 0)) (hm : ∀ r, r ∈ rs ↔ ofQ k3 r ≠ []) : rs = [[97], [98]] :=
  sorted_two hp (by decide +kernel) fun r => by
    rw [hm, ofQ_ne]
    constructor
    · rintro ⟨p, hp, rfl⟩
      simp only [k3, List.mem_cons, List.not_mem_nil, or_false] at hp
      rcases hp with rfl | rfl | rfl
      · exact .inl rfl
      · exact .inl rfl
      · exact .inr rfl
    · rintro (rfl | rfl)
      · exact ⟨_, by simp only [k3, List.mem_cons]; exact .inl rfl, rfl⟩
      · exact ⟨(([98], dig1), 6), by simp [k3], rfl⟩
theorem known_repos2 {rs : List (List UInt8)} (hp : rs.Pairwise (fun a b => Lib.compareBytes a b < 0)) (hm : ∀ r, r ∈ rs ↔ ofQ k4 r ≠ []) : rs = [[97]] :=
  single_of (nodup_of hp) fun r => by
    rw [hm, ofQ_ne]
    constructor
    · rintro ⟨p, hp, rfl⟩
      simp only [k4, List.mem_cons, List.not_mem_nil, or_false] at hp
      rw [hp]
    · rintro rfl
      exact ⟨(([97], dig2), 5), by simp [k4], rfl⟩
theorem known_ids {ids : List (List UInt8)} (hp : ids.Pairwise (fun a b => cmpL a b < 0)) (hm : ∀ id : List UInt8, id.length = 32 → (id ∈ ids ↔ (szQ k4 ([97], id)).isSome = true)) (h32 : ∀ id ∈ ids, id.length = 32) : ids = [dig2] :=
  single_of (hp.imp fun {a b} h e => by rw [e, cmpL_refl] at h; exact absurd h (by decide)) fun id => by
    have hd : dig2.length = 32 := by decide
    have hsz : ∀ id, (szQ k4 ([97], id)).isSome = true ↔ id = dig2 := fun id => by
      unfold k4
      rw [szQ_cons, szQ_nil]
      by_cases e : dig2 = id
      · rw [if_pos (by rw [e])]; simp [e]
      · rw [if_neg (fun h => e (by simpa using h))]
        simp [Ne.symm e]
    constructor
    · intro h
      exact (hsz id).1 ((hm id (h32 id h)).1 h)
    · rintro rfl
      exact (hm dig2 hd).2 ((hsz dig2).2 rfl)
set_option maxRecDepth 100000 in
set_option maxHeartbeats 8000000 in
theorem qknown_calls (w : World) : Calls Try.prog 5 #[] w fun e w' => e = .returned (.bool true) ∧ Below w.heap.size w w' := by
  have HN := hid (q1_new 10 (by omega) (by omega) w w (Below.refl _ _))
  go_enter Try.func5, Try.ntmps5
  go_wp2_with fail
  refine HN.out.mono ?_
  rintro _ w1 ⟨s, rfl, h1⟩
  have H1 := hid h1
  clear HN h1
  go_wp2_with fail
  refine (qnew_bad (-1) (.inl (by omega)) _).mono ?_
  rintro _ _ ⟨rfl, rfl⟩
  go_wp2_with fail
  refine (one_calls _).mono ?_
  rintro _ w2 ⟨rfl, hb⟩
  have H2 := hid (H1.out.keep hb)
  have HL := hid (ql_links (want := true) (err := 0) (q2 := qA k1) (H2.out : Q1 w w2 s 0 (qA [])) (ask_of (r := [97]) (id := dig1) (sz := 6) isR_a (by decide) (by decide) (by decide) (by decide) (by decide)) (by decide +kernel) (by kernel_rfl))
  clear hb H1
  go_wp2_with fail
  refine HL.out.mono ?_
  rintro _ w3 ⟨rfl, h3⟩
  have H3 := hid h3
  clear h3 HL H2
  go_wp2_with fail
  refine (one_calls _).mono ?_
  rintro _ w4 ⟨rfl, hb⟩
  have H4 := hid (H3.out.keep hb)
  have HL := hid (ql_links (want := false) (err := 17) (q2 := qA k1) H4.out (ask_of (r := [97]) (id := dig1) (sz := 5) isR_a (by decide) (by decide) (by decide) (by decide) (by decide)) (by decide +kernel) (by kernel_rfl))
  clear hb H3
  go_wp2_with fail
  refine HL.out.mono ?_
  rintro _ w5 ⟨rfl, h5⟩
  have H5 := hid h5
  clear h5 HL H4
  go_wp2_with fail
  refine (two_calls _).mono ?_
  rintro _ w6 ⟨rfl, hb⟩
  have H6 := hid (H5.out.keep hb)
  have HL := hid (H6.out.lay (ask_of (r := [97]) (id := dig2) (sz := 5) isR_a (by decide) (by decide) (by decide) (by decide) (by decide)))
  rw [show addR (qA k1) ([97], dig2) 5 true = (true, 0) from by decide +kernel, show addS (qA k1) ([97], dig2) 5 true = qA k2 from by kernel_rfl] at HL
  unfold resV at HL
  clear hb H5
  go_wp2_with fail
  refine HL.out.mono ?_
  rintro _ w7 ⟨rfl, h7⟩
  have H7 := hid h7
  have HU := hid (H7.out.use [97] (by unfold maxLen; decide))
  rw [show sumQ (qA k2).l [97] = 11 from by decide +kernel] at HU
  clear h7 HL H6
  go_wp2_with fail
  refine HU.out.mono ?_
  rintro _ _ ⟨rfl, rfl⟩
  clear HU
  have HM := hid (ql_mounts_any (w0 := w) (w := w7) (s := s) (r := [97]) (t := [98]) (want := true) (err := 0) (n2 := 4) (q2 := qA k3) (fun W hb => by
    have := (H7.out.keep hb).mount (r := [97]) (t := [98]) (id := dig1) (by decide) isR_a (ask_of isR_b (by decide) (by decide) (by decide) (by decide) (by decide))
    rw [show mntR (qA k2) ([97], dig1) ([98], dig1) = (true, 0) from by decide +kernel, show mntS (qA k2) ([97], dig1) ([98], dig1) = qA k3 from by kernel_rfl] at this
    exact this))
  go_wp2_with fail
  refine HM.out.mono ?_
  rintro _ w8 ⟨rfl, h8⟩
  have H8 := hid h8
  clear h8 HM H7
  have HM := hid (ql_mounts_any (w0 := w) (w := w8) (s := s) (r := [99]) (t := [98]) (want := false) (err := 14) (n2 := 5) (q2 := qA k3) (fun W hb => by
    have := (H8.out.keep hb).mount (r := [99]) (t := [98]) (id := dig1) (by decide) isR_c (ask_of isR_b (by decide) (by decide) (by decide) (by decide) (by decide))
    rw [show mntR (qA k3) ([99], dig1) ([98], dig1) = (false, 14) from by decide +kernel, show mntS (qA k3) ([99], dig1) ([98], dig1) = qA k3 from by kernel_rfl] at this
    exact this))
  go_wp2_with fail
  refine HM.out.mono ?_
  rintro _ w9 ⟨rfl, h9⟩
  have H9 := hid h9
  clear h9 HM H8
  have HM := hid (ql_mounts_any (w0 := w) (w := w9) (s := s) (r := [97]) (t := [66]) (want := false) (err := 7) (n2 := 5) (q2 := qA k3) (fun W hb => (H9.out.keep hb).mount_name true false isR_a isR_B (.inr rfl)))
  go_wp2_with fail
  refine HM.out.mono ?_
  rintro _ w10 ⟨rfl, h10⟩
  have H10 := hid h10
  have HR := hid (H10.out.repos (by omega))
  clear h10 HM H9
  go_wp2_with fail
  refine HR.out.mono ?_
  intro e w11 ⟨hr, h11⟩
  obtain ⟨A, c, k, rs, rfl, hrow, hpw, hm, hk⟩ := hr.row
  have hrs := known_repos hpw hm
  subst hrs
  obtain rfl : k = 2 := hrow.1.symm
  have H11 := hid h11
  have hsl := run_slice_s2 ⟨#[97]⟩ ⟨#[98]⟩ w11
  have hb12 := below_new w11 (.cells #[.string ⟨#[97]⟩, .string ⟨#[98]⟩] 9)
  have ht := trow_new w11 [[97], [98]] 2 rfl
  have HS := hid (sameTexts_calls (c := c) (c' := 2) (hrow.keep hb12) (show TRow (w11.alloc (.cells #[.string ⟨#[97]⟩, .string ⟨#[98]⟩] 9)) (some ⟨w11.heap.size, 0, none⟩) 2 [[97], [98]] from ht) (by omega))
  have H12 := hid (h11.keep hb12)
  clear hr h11 hrow hpw hm HR H10 hb12 ht H11
  go_wp2_with fail
  clear hsl
  generalize w11.alloc (.cells #[.string ⟨#[97]⟩, .string ⟨#[98]⟩] 9) = w12 at HS H12 ⊢
  refine HS.out.mono ?_
  rintro _ w13 ⟨rfl, hb13⟩
  have H13 := hid (H12.out.keep hb13)
  clear hb13 HS H12
  go_wp2_with fail
  refine (one_calls _).mono ?_
  rintro _ w14 ⟨rfl, hb⟩
  have HF := hid ((H13.out.keep hb).forget dig1 (by decide))
  rw [show ((qA k3).l.filter (fun p => decide (p.1.2 = dig1))).length = 2 from by decide +kernel, show ({ qA k3 with l := (qA k3).l.filter (fun p => decide (p.1.2 ≠ dig1)) } : QS) = qA k4 from by kernel_rfl] at HF
  clear hb H13
  go_wp2_with fail
  refine HF.out.mono ?_
  rintro _ w15 ⟨rfl, h15⟩
  have H15 := hid h15
  clear h15 HF
  rw [show ((2 : Nat) : Int) = 2 from rfl]
  go_wp2_with fail
  refine (qawake_calls _).mono ?_
  rintro _ w16 ⟨rfl, hb⟩
  have H16 := hid (H15.out.keep hb)
  have HR := hid (H16.out.repos (by omega))
  clear hb H15
  go_wp2_with fail
  refine HR.out.mono ?_
  intro e w17 ⟨hr, h17⟩
  obtain ⟨A2, c2, k2, rs2, rfl, hrow, hpw, hm, hk⟩ := hr.row
  have hrs := known_repos2 hpw hm
  subst hrs
  obtain rfl : k2 = 1 := hrow.1.symm
  have hsl := slice_one (P := Try.prog) Try.underlying41 infoS (.string ⟨#[97]⟩) rfl (by omega) (by omega) w17
  have hsl2 : (Instr.buildSlice 41 1 #[(0, .string ⟨#[97]⟩)]).run Try.prog w17 = .ok (.slice (some ⟨w17.heap.size, 0, none⟩) 1 1) (w17.alloc (.cells #[.string ⟨#[97]⟩] 9)) := hsl
  have hb18 := below_new w17 (.cells #[.string ⟨#[97]⟩] 9)
  have ht := trow_new w17 [[97]] 1 rfl
  have HS := hid (sameTexts_calls (c := c2) (c' := 1) (hrow.keep hb18) (show TRow (w17.alloc (.cells #[.string ⟨#[97]⟩] 9)) (some ⟨w17.heap.size, 0, none⟩) 1 [[97]] from ht) (by omega))
  have H18 := hid (h17.keep hb18)
  clear hr h17 hrow hpw hm HR H16 hb18 ht hsl
  go_wp2_with fail
  clear hsl2
  generalize w17.alloc (.cells #[.string ⟨#[97]⟩] 9) = w18 at HS H18 ⊢
  refine HS.out.mono ?_
  rintro _ w19 ⟨rfl, hb19⟩
  have H19 := hid (H18.out.keep hb19)
  have HU := hid (H19.out.use [98] (by unfold maxLen; decide))
  rw [show sumQ (qA k4).l [98] = 0 from by decide +kernel] at HU
  clear hb19 HS H18
  go_wp2_with fail
  refine HU.out.mono ?_
  rintro _ _ ⟨rfl, rfl⟩
  clear HU
  have HLm := hid (H19.out.limit)
  rw [show (qA k4).limit = 10 from rfl] at HLm
  go_wp2_with fail
  refine HLm.out.mono ?_
  rintro _ _ ⟨rfl, rfl⟩
  clear HLm
  have HI := hid (H19.out.ids (by omega) [97] (by unfold maxLen; decide))
  go_wp2_with fail
  refine HI.out.mono ?_
  intro e w20 ⟨hr, h20⟩
  obtain ⟨A3, c3, k3', ids, rfl, hrow, hpw, hm, h32, hk⟩ := hr.row
  have hid1 := known_ids hpw hm h32
  subst hid1
  obtain rfl : k3' = 1 := hrow.1.symm
  have HROW := hid hrow
  have H20 := hid h20
  clear hr h20 hrow hpw hm h32 HI H19
  go_wp2_with fail
  refine (two_calls _).mono ?_
  rintro _ w21 ⟨rfl, hb⟩
  have hsl := slice_one (P := Try.prog) Try.underlying55 infoID (.agg (bcells dig2)) (by show (bcells dig2).size = 32; rw [bcells_size]; rfl) (by omega) (by omega) w21
  have hsl2 : (Instr.buildSlice 55 1 #[(0, .agg (bcells dig2))]).run Try.prog w21 = .ok (.slice (some ⟨w21.heap.size, 0, none⟩) 1 1) (w21.alloc (.cells (bcells dig2) 32)) := hsl
  have hb22 := below_new w21 (.cells (bcells dig2) 32)
  have hk22 := Blk.new w21 32 (bcells dig2)
  have ht : IRow (w21.alloc (.cells (bcells dig2) 32)) (some ⟨w21.heap.size, 0, none⟩) 1 [dig2] := ⟨rfl, fun _ => ⟨_, rfl, fun i x hx => by
    have hi : i = 0 ∧ x = dig2 := by
      rcases i with _ | i
      · simp at hx; exact ⟨rfl, hx.symm⟩
      · simp at hx
    obtain ⟨rfl, rfl⟩ := hi
    have hc : ∀ (j : Nat) v, (bcells dig2)[j]? = some v → (w21.alloc (.cells (bcells dig2) 32)).cell? ⟨w21.heap.size, 0 * 32 + j, none⟩ = some v := fun j v hv => by
      rw [Nat.zero_mul, Nat.zero_add]
      exact hk22.cell j hv
    exact ⟨by decide, irow_load (by decide) hc, hc⟩⟩⟩
  have HS := hid (sameIDs_calls (c := c3) (c' := 1) ((HROW.out.keep hb).keep hb22) ht (by omega))
  have H22 := hid ((H20.out.keep hb).keep hb22).below
  clear hb hb22 hk22 ht hsl H20 HROW
  go_wp2_with fail
  clear hsl2
  rw [foldl_dig2]
  generalize w21.alloc (.cells (bcells dig2) 32) = w22 at HS H22 ⊢
  refine HS.out.mono ?_
  rintro _ w23 ⟨rfl, hb23⟩
  have HEnd := hid (H22.out.trans (hb23.mono H22.out.size))
  clear hb23 HS H22
  go_wp2_with fail
  go_ret
  exact ⟨rfl, HEnd.out⟩
end Go.Proofs.Ytjgnbmkhibdcfaa
