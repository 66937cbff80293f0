/- Contracts: what the plain reference's device is asked; its fuse. -/
import Derived.Test.YtoajnabdflikfaaDvRfM
import Derived.Test.YtoajnabdflikfaaDvNo
namespace Go.Proofs.Ytoajnabdflikfaa
open Go.RowKit

section
variable (base g m : Nat) (F : List Nat) (s : DS) (w : World)
theorem rSize_calls (h : RdB w base F g m s) : Calls Try.prog 14 #[.pointer (some ⟨g, 0, none⟩)] w fun e w' => e = .returned (.int .i64 (s.n : Int)) ∧ w = w' := by
  obtain ⟨A, R, cA, cR, vs, us, D, z, h, -⟩ := h
  have c0 := h.hd.cell 0 rfl
  clear h
  go_enter Try.func14, Try.ntmps14
  go_wp2_with fail
  go_ret
  exact ⟨rfl, rfl⟩
theorem rOut_calls (h : RdB w base F g m s) : Calls Try.prog 16 #[.pointer (some ⟨g, 0, none⟩)] w fun e w' => e = .returned (.bool s.out) ∧ w = w' := by
  obtain ⟨A, R, cA, cR, vs, us, D, z, h, -⟩ := h
  have c0 := h.hd.cell 4 rfl
  clear h
  go_enter Try.func16, Try.ntmps16
  go_wp2_with fail
  go_ret
  exact ⟨rfl, rfl⟩
theorem rLoose_calls (h : RdB w base F g m s) : Calls Try.prog 18 #[.pointer (some ⟨g, 0, none⟩)] w fun e w' => e = .returned (.int .i64 (s.loose.length : Int)) ∧ w = w' := by
  obtain ⟨A, R, cA, cR, vs, us, D, z, h, -⟩ := h
  have c0 := h.hd.cell 1 rfl
  clear h
  go_enter Try.func18, Try.ntmps18
  go_wp2_with fail
  go_ret
  exact ⟨rfl, rfl⟩
theorem ix_row (a n c k : Nat) (h : k < n) (W : World) : (Instr.indexAt 66 (.slice (some ⟨a, 0, none⟩) n c) (.int .i64 (k : Int))).run Try.prog W = .ok (.pointer (some ⟨a, k, none⟩)) W := by
  have hi : (Try.prog.info? 37).map (·.size) = some 1 := by kernel_rfl
  obtain ⟨i, hi, hs⟩ := Option.map_eq_some_iff.1 hi
  rw [run_indexAt_slice W _ _ _ _ _ _ (by kernel_rfl), if_pos ⟨by omega, by omega⟩]
  rw [show Try.prog.elem 66 = 37 from by kernel_rfl]
  simp [sizeOf, typeInfo, hi, hs, Addr.add_lit]
theorem ix_wr (a n c k : Nat) (h : k < n) (W : World) : (Instr.indexAt 67 (.slice (some ⟨a, 0, none⟩) n c) (.int .i64 (k : Int))).run Try.prog W = .ok (.pointer (some ⟨a, 2 * k, none⟩)) W := by
  have hi : (Try.prog.info? 75).map (·.size) = some 2 := by kernel_rfl
  obtain ⟨i, hi, hs⟩ := Option.map_eq_some_iff.1 hi
  rw [run_indexAt_slice W _ _ _ _ _ _ (by kernel_rfl), if_pos ⟨by omega, by omega⟩]
  rw [show Try.prog.elem 67 = 75 from by kernel_rfl]
  simp [sizeOf, typeInfo, hi, hs, Addr.add_lit, Nat.mul_comm]
theorem RdIn.secs {A R : Option Addr} {cA cR : Nat} {vs us : List Value} {D : List Nat} {z : Int} {m : Nat} (h : RdIn w base g A R cA cR vs us D m z s) {j : Nat} (hj : j < s.n) :
    ∃ a b c, A = some ⟨a, 0, none⟩ ∧ w.cell? ⟨a, j, none⟩ = some (.slice (some ⟨b, 0, none⟩) 64 c) ∧ b ∈ D ∧ SB w (b + 1) (some ⟨b, 0, none⟩) 64 (secAt s.img j) ∧ 64 ≤ c ∧ vs[j]? = some (.slice (some ⟨b, 0, none⟩) 64 c) := by
  obtain ⟨a, cap, e⟩ := Go.Joins.ownsRow_form h.lr (by omega)
  cases e
  obtain ⟨v, hv⟩ : ∃ v, vs[j]? = some v := ⟨_, List.getElem?_eq_getElem (by rw [h.vl]; exact hj)⟩
  obtain ⟨b, c, rfl, hb, hs, h64⟩ := h.lv j v hv
  exact ⟨a, b, c, rfl, (World.ownsRow.cellAt h.lr j (by omega)).trans hv, hb, hs, h64, hv⟩
theorem RdIn.wrs {A R : Option Addr} {cA cR : Nat} {vs us : List Value} {D : List Nat} {z : Int} {m : Nat} (h : RdIn w base g A R cA cR vs us D m z s) {k : Nat} (hk : k < s.loose.length) :
    ∃ r b c x, R = some ⟨r, 0, none⟩ ∧ s.loose[k]? = some x ∧ w.cell? ⟨r, 2 * k, none⟩ = some (.int .i64 (x.1 : Int)) ∧ w.cell? ⟨r, 2 * k + 1, none⟩ = some (.slice (some ⟨b, 0, none⟩) 64 c) ∧ b ∈ D ∧ SB w (b + 1) (some ⟨b, 0, none⟩) 64 x.2 ∧ us[k]? = some (.slice (some ⟨b, 0, none⟩) 64 c) ∧ 64 ≤ c := by
  obtain ⟨r, cap, e⟩ := Go.Joins.ownsRow_form h.wr (by omega)
  cases e
  obtain ⟨x, hx⟩ : ∃ x, s.loose[k]? = some x := ⟨_, List.getElem?_eq_getElem hk⟩
  obtain ⟨u, hu⟩ : ∃ u, us[k]? = some u := ⟨_, List.getElem?_eq_getElem (by rw [h.ul]; exact hk)⟩
  obtain ⟨b, c, rfl, hb, hs, h64⟩ := h.wv k x u hx hu
  obtain ⟨h1, h2⟩ := wcells_at _ _ h.ul k x _ hx hu
  exact ⟨r, b, c, x, rfl, hx, (World.ownsRow.cellAt h.wr (2 * k) (by omega)).trans h1, (World.ownsRow.cellAt h.wr (2 * k + 1) (by omega)).trans h2, hb, hs, hu, h64⟩
set_option maxRecDepth 20000 in
theorem rImage_calls (i : Int) (h : RdB w base F g m s) : Calls Try.prog 22 #[.pointer (some ⟨g, 0, none⟩), .int .i64 i] w (AskPost w (imageB s i) (imageE s i)) := by
  have HL := hid (imageB_len s h.ok i)
  obtain ⟨A, R, cA, cR, vs, us, D, z, h, hok, -⟩ := h
  have c0 := h.hd.cell 0 rfl
  by_cases hi : hasB s.n i = true
  · have hb' := hi
    simp only [hasB, decide_eq_true_eq] at hb'
    have EB := hid (show imageB s i = secAt s.img i.toNat from if_pos hi)
    have EE := hid (show imageE s i = 0 from if_pos hi)
    obtain ⟨j, rfl⟩ : ∃ j : Nat, i = (j : Int) := ⟨i.toNat, by omega⟩
    have hj : j < s.n := by omega
    rw [Int.toNat_natCast] at EB
    obtain ⟨a, b, c, rfl, hc, hbD, hs, -⟩ := RdIn.secs base g s w h hj
    have HS := hid (show SB w w.heap.size (some ⟨b, 0, none⟩) 64 (secAt s.img j) from hs.more (by have := (h.dd b hbD).2.1; omega))
    have HIX := hid (fun W => ix_row a s.n cA j hj W)
    have hix := HIX.out
    have q0 : ¬ (j : Int) < 0 := by omega
    have q1 : ¬ (s.n : Int) ≤ (j : Int) := by omega
    clear h hi hb' hok hs hbD
    go_enter Try.func22, Try.ntmps22
    have HN1 := hid (Own.lit w 5 w.heap.size [] #[] 0 rfl rfl (Nat.le_refl _) (by omega))
    have HN2 := hid (HS.out.keep (below_new w (.cells #[] 5)))
    have HN3 := hid (below_new w (.cells #[] 5))
    have c0' := (HN3.out.cell (lt_of_cell c0)).trans c0
    have hc' := (HN3.out.cell (lt_of_cell hc)).trans hc
    go_wp2_with (refine wpList_append_bytes _ rfl _ _ _ rfl _ Try.underlying37 info5' w.heap.size (.slice (some ⟨w.heap.size, 0, none⟩) 0 0) 0 [] rfl HN1.out w.heap.size (some ⟨b, 0, none⟩) 64 c _ rfl HN2.out (by omega) HN3.out.size ?_; intro v' w' h1 h2 h3; refine Held.go ?_)
    have ho := HN1.out
    have hb := HN3.out
    clear HN1 HN2 HN3
    unfold Held
    have HK := hid (show AskPost w (imageB s j) (imageE s j) (.returned (.tuple #[v', .int .i64 0])) w' from ⟨v', by rw [EE.out]; rfl, by rw [HL.out, EB.out, EE.out]; simpa using h1, hb.trans (below_of_grown h2 hb.size (fun g e => (ho.block g e).1))⟩)
    clear h1 h2 h3 ho hb c0' hc'
    go_wp2_with fail
    go_ret2
    exact HK.out
  · have HK := hid (show AskPost w (imageB s i) (imageE s i) (.returned (.tuple #[.slice none 0 0, .int .i64 3])) w from ⟨_, by rw [show imageE s i = 3 from if_neg hi]; rfl, by rw [show imageB s i = [] from if_neg hi]; exact Own.nil _ _ _, Below.refl _ _⟩)
    have hi' : ¬ (0 ≤ i ∧ i < (s.n : Int)) := by simpa [hasB] using hi
    clear h hok hi
    by_cases q0 : i < 0
    · go_enter Try.func22, Try.ntmps22
      go_wp2_with fail
      go_ret2
      exact HK.out
    · have q1 : (s.n : Int) ≤ i := by omega
      clear hi'
      go_enter Try.func22, Try.ntmps22
      go_wp2_with fail
      go_ret2
      exact HK.out
/-- what the image and the first writes make of a sector -/
def overL (s : DS) (i k : Nat) : List UInt8 := secAt (flushL s.img (s.loose.take k)) i
theorem overL_next {s : DS} (hok : s.OK) {i k : Nat} (hi : i < s.n) (x : Nat × List UInt8) (h : s.loose[k]? = some x) : overL s i (k + 1) = if x.1 = i then x.2 else overL s i k := by
  have hx := hok.lo x (List.mem_of_getElem? h)
  have hl := flushL_length (s.loose.take k) hok.n2 (fun y hy => hok.lo y (List.mem_of_mem_take hy))
  unfold overL
  rw [flushL_next _ _ _ _ h]
  by_cases e : x.1 = i
  · rw [if_pos e, ← e, secPut_same hl hx.1 hx.2]
  · rw [if_neg e, secPut_other hl hx.1 hx.2 hi (fun e2 => e e2.symm)]
set_option maxHeartbeats 4000000 in
set_option maxRecDepth 20000 in
theorem rRead_calls (i : Int) (hlo : s.loose.length ≤ 1000000) (h : RdB w base F g m s) : Calls Try.prog 20 #[.pointer (some ⟨g, 0, none⟩), .int .i64 i] w (AskPost w (readB s i) (readE s i)) := by
  have HI := hid (rImage_calls base g m F s w i h)
  have HL := hid (readB_len s h.ok i)
  have HLI := hid (imageB_len s h.ok i)
  have HS := hid h.sane
  obtain ⟨A, R, cA, cR, vs, us, D, z, h, hok, -⟩ := h
  have c4 := h.hd.cell 4 rfl
  by_cases ho : s.out = true
  · have HK := hid (show AskPost w (readB s i) (readE s i) (.returned (.tuple #[.slice none 0 0, .int .i64 22])) w from ⟨_, by rw [show readE s i = 22 from if_pos ho]; rfl, by rw [show readB s i = [] from if_pos ho]; exact Own.nil _ _ _, Below.refl _ _⟩)
    rw [ho] at c4
    clear h hok ho HI
    go_enter Try.func20, Try.ntmps20
    go_wp2_with fail
    go_ret2
    exact HK.out
  have ho' : s.out = false := by simpa using ho
  rw [ho'] at c4
  by_cases hi : hasB s.n i = true
  · have hb' := hi
    simp only [hasB, decide_eq_true_eq] at hb'
    have EE := hid (show imageE s i = 0 from if_pos hi)
    have EB := hid (show imageB s i = secAt s.img i.toNat from if_pos hi)
    have RE := hid (show readE s i = 0 from by unfold readE; rw [if_neg ho, if_pos hi])
    have RB := hid (show readB s i = secAt s.now i.toNat from by unfold readB; rw [if_neg ho, if_pos hi])
    obtain ⟨j, rfl⟩ : ∃ j : Nat, i = (j : Int) := ⟨i.toNat, by omega⟩
    have hj : j < s.n := by omega
    rw [Int.toNat_natCast] at EB RB
    have HFIN := hid (show readB s j = overL s j s.loose.length from by rw [RB.out]; unfold overL; rw [List.take_length, ← HS.out])
    have HIN := hid h
    have HNX := hid (fun k x (hx : s.loose[k]? = some x) => overL_next hok hj x hx)
    have HLN := hid (fun k => (show (overL s j k).length = 64 from secAt_length (flushL_length (s.loose.take k) hok.n2 (fun y hy => hok.lo y (List.mem_of_mem_take hy))) hj))
    have H0 := hid (show secAt s.img j = overL s j 0 from rfl)
    rw [EE.out] at HLI
    clear h hok hi hb' ho ho'
    go_enter Try.func20, Try.ntmps20
    go_wp2_with fail
    refine HI.out.mono ?_
    rintro _ w1 ⟨v, rfl, h1, h2⟩
    rw [EE.out]
    rw [HLI.out, EB.out, H0.out] at h1
    have HO := hid (show Own w1 w.heap.size 5 v 64 (overL s j 0) from h1)
    have HB := hid h2
    clear h1 h2 c4 HI
    go_wp2_with fail
    go_loopw [6, 8] (fun v i wr => ∃ k : Nat, k ≤ s.loose.length ∧ i = .int .i64 (k : Int) ∧ Hid (Own wr w.heap.size 5 v 64 (overL s j k)) ∧ Hid (Below w.heap.size w wr)) (fun _ i _ => s.loose.length - (intOf i).toNat)
    case atStart => exact ⟨0, Nat.zero_le _, rfl, HO, HB⟩
    case round =>
      clear HO HB
      obtain ⟨k, hk, rfl, HO, HB⟩ := hrel
      have HR := hid (HIN.out.keep HB.out)
      have c1 := HR.out.hd.cell 1 rfl
      by_cases hlt : k < s.loose.length
      · obtain ⟨r, b, c, x, rfl, hx, k1, k2, hbD, hs, -⟩ := RdIn.wrs base g s wr HR.out hlt
        have HSX := hid (show SB wr wr.heap.size (some ⟨b, 0, none⟩) 64 x.2 from hs.more (by have := (HR.out.dd b hbD).2.1; omega))
        have HN1 := hid (HNX.out k x hx)
        have hix := fun W => ix_wr r s.loose.length cR k hlt W
        have q0 : (k : Int) < (s.loose.length : Int) := by omega
        clear hs hbD hx
        obtain ⟨xi, xb⟩ := x
        simp only at k1 HSX HN1
        by_cases he : xi = j
        · have q1 : ((xi : Int) == (j : Int)) = true := by simp [he]
          rw [if_pos he] at HN1
          clear he
          have HN1 := hid (Own.lit wr 5 wr.heap.size [] #[] 0 rfl rfl (Nat.le_refl _) (by omega))
          have HN2 := hid (HSX.out.keep (below_new wr (.cells #[] 5)))
          have HN3 := hid (below_new wr (.cells #[] 5))
          have c1' := (HN3.out.cell (lt_of_cell c1)).trans c1
          have k2' := (HN3.out.cell (lt_of_cell k2)).trans k2
          go_wp2_with (refine wpList_append_bytes _ rfl _ _ _ rfl _ Try.underlying37 info5' wr.heap.size (.slice (some ⟨wr.heap.size, 0, none⟩) 0 0) 0 [] rfl HN1.out wr.heap.size (some ⟨b, 0, none⟩) 64 c _ rfl HN2.out (by omega) HN3.out.size ?_; intro v' w' h1 h2 h3; refine Held.go ?_)
          have ho := HN1.out
          have hb := HN3.out
          clear HN1 HN2 HN3
          unfold Held
          have HO3 := hid (show Own w' w.heap.size 5 v' 64 (overL s j (k + 1)) from by rw [HN1.out]; exact (show Own w' wr.heap.size 5 v' 64 xb from by simpa using h1).lower HB.out.size)
          have HB3 := hid (HB.out.trans ((hb.trans (below_of_grown h2 hb.size (fun g e => (ho.block g e).1))).mono HB.out.size))
          clear h1 h2 h3 ho hb HO HB HR HSX c1 k1 k2 c1' k2'
          go_wp2_with fail
          go_roundw
          case rel => exact ⟨k + 1, by omega, by go_num, HO3, HB3⟩
          case measure => simp [intOf]; omega
        · have q1 : ((xi : Int) == (j : Int)) = false := by simp; omega
          rw [if_neg he] at HN1
          have HO3 := hid (show Own wr w.heap.size 5 _ 64 (overL s j (k + 1)) from by rw [HN1.out]; exact HO.out)
          clear HO HSX he
          go_wp2_with fail
          go_roundw
          case rel => exact ⟨k + 1, by omega, by go_num, HO3, HB⟩
          case measure => simp [intOf]; omega
      · obtain rfl : k = s.loose.length := by omega
        have q0 : ¬ (s.loose.length : Int) < (s.loose.length : Int) := by omega
        have HK := hid (show AskPost w (readB s j) (readE s j) (.returned (.tuple #[_, .int .i64 0])) wr from ⟨_, by rw [RE.out]; rfl, by rw [HL.out, RE.out, HFIN.out]; exact HO.out, HB.out⟩)
        clear HO HB
        go_wp2_with fail
        go_ret2
        exact HK.out
  · have hi' : hasB s.n i = false := by simpa using hi
    have EE := hid (show imageE s i = 3 from if_neg hi)
    have EB := hid (show imageB s i = [] from if_neg hi)
    have RE := hid (show readE s i = 3 from by unfold readE; rw [if_neg ho, if_neg hi])
    have RB := hid (show readB s i = [] from by unfold readB; rw [if_neg ho, if_neg hi])
    have HIN := hid h
    clear h hok hi hi' ho ho'
    go_enter Try.func20, Try.ntmps20
    go_wp2_with fail
    refine HI.out.mono ?_
    rintro _ w1 ⟨v, rfl, h1, h2⟩
    rw [EE.out]
    have HK := hid (show AskPost w (readB s i) (readE s i) (.returned (.tuple #[v, .int .i64 3])) w1 from ⟨_, by rw [RE.out]; rfl, by rw [RB.out, ← EB.out]; exact h1, h2⟩)
    have c1 := (HIN.out.keep h2).hd.cell 1 rfl
    clear h1 h2 c4 HI HIN
    by_cases hz : 0 < s.loose.length
    · have q0 : (0 : Int) < (s.loose.length : Int) := by omega
      go_wp2_with fail
      go_loop [6, 8] (fun v' i => v' = v ∧ i = .int .i64 0) (fun _ _ => 0)
      case atStart => exact ⟨rfl, rfl⟩
      case round =>
        obtain ⟨rfl, rfl⟩ := hrel
        go_wp2_with fail
        go_ret2
        exact HK.out
    · have q0 : ¬ (0 : Int) < (s.loose.length : Int) := by omega
      go_wp2_with fail
      go_loop [6, 8] (fun v' i => v' = v ∧ i = .int .i64 0) (fun _ _ => 0)
      case atStart => exact ⟨rfl, rfl⟩
      case round =>
        obtain ⟨rfl, rfl⟩ := hrel
        go_wp2_with fail
        go_ret2
        exact HK.out
end
end Go.Proofs.Ytoajnabdflikfaa
