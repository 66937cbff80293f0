/- Contracts: what the laws of log ask beside it: an area, lists side by side, what an area has. And a log on one device. -/
import Derived.Test.YtgldhmmfofnmiaaLgWrite
namespace Go.Proofs.Ytgldhmmfofnmiaa
open Go.RowKit

section
variable {w0 w w1 : World} {g : Nat} {s : DS}
theorem Dev1.of_at {F : List Nat} {s' : DS} {w' : World} (hb : Below w0.heap.size w0 w) (hF : ∀ b ∈ F, w0.heap.size ≤ b) (hp : DevAt w w0.heap.size F g s' w') : Dev1 w0 w' g s' := by
  obtain ⟨F', h1, h2, -⟩ := hp
  exact ⟨hb.trans (h2.below hF hb.size), F', h1⟩
theorem d1_blank (a : AR) (h : Dev1 w0 w g s) (hf : fuseOK s) (hlo : s.loose.length + 65536 ≤ 1000000) : Calls Try.prog 45 #[.pointer (some ⟨g, 0, none⟩), arv a] w fun e w' => e = .returned (.int .i64 ((blankR s a).2 : Int)) ∧ Dev1 w0 w' g (blankR s a).1 := by
  obtain ⟨hb, F, hd⟩ := h
  exact (lgBlank_calls w0.heap.size g F s w a hd hb.size hf hlo).mono fun e w' ⟨he, hp⟩ => ⟨he, Dev1.of_at hb (fun b hb => (hd.lt b hb).1) hp⟩
theorem d1_lwrite (a : AR) (at_ : Int) (A : Option Addr) (n c B : Nat) (rec : List UInt8) (h : Dev1 w0 w g s) (hf : fuseOK s) (hlo : s.loose.length + 65536 ≤ 1000000) (hb1 : Below w.heap.size w w1) (hs : SB w1 B A n rec) (hc : n ≤ c) (hne : 0 < n → ∀ b off, A = some ⟨b, off, none⟩ → b < w0.heap.size ∨ w.heap.size ≤ b) :
    Calls Try.prog 63 #[.pointer (some ⟨g, 0, none⟩), arv a, .int .i64 at_, .slice A n c] w1 fun e w' => e = .returned (.tuple #[.int .i64 (logWR s a at_ rec).2.1, .int .i64 ((logWR s a at_ rec).2.2 : Int)]) ∧ Dev1 w0 w' g (logWR s a at_ rec).1 := by
  obtain ⟨hb, F, hd⟩ := h
  have hb' := hb.trans (hb1.mono hb.size)
  exact (lgWrite_calls w0.heap.size g F s w1 a at_ A n c B rec (hd.keep hb1) hb'.size hf hlo hs hc (fun hp b off e hm => by
    have := hd.lt b hm
    rcases hne hp b off e with h | h <;> omega)).mono fun e w' ⟨he, hp⟩ => ⟨he, Dev1.of_at hb' (fun b hb => (hd.lt b hb).1) hp⟩
theorem d1_scan (a : AR) (h : Dev1 w0 w g s) : Calls Try.prog 23 #[.pointer (some ⟨g, 0, none⟩), arv a] w fun e w' => ∃ v vs, e = .returned (.tuple #[v, .int .i64 ((scanR s a).2 : Int), .int .i64 (scanE s a : Int)]) ∧ Recs w' w.heap.size v (scanR s a).1 vs ∧ Below w.heap.size w w' := by
  obtain ⟨_, F, hd⟩ := h
  exact scan_calls w0.heap.size g F s w a hd
theorem d1_check (a : AR) (h : Dev1 w0 w g s) : Calls Try.prog 49 #[.pointer (some ⟨g, 0, none⟩), arv a] w fun e w' => e = .returned (.int .i64 (checkE s.n a : Int)) ∧ Below w.heap.size w w' := by
  obtain ⟨_, F, hd⟩ := h
  exact check_calls w0.heap.size g F s w a hd
end
theorem info_area : (Try.prog.info? 40).map (·.zero) = some (some (.agg #[.int .i64 0, .int .i64 0, .int .i64 0])) := by kernel_rfl
theorem size_area : (Try.prog.info? 40).map (·.size) = some 3 := by kernel_rfl
theorem under_area : (match Try.prog.underlying 40 with | some (.struct _) => true | _ => false) = true := by kernel_rfl
/-- lists side by side -/
theorem take_step {l1 l2 : List (List UInt8)} {k : Nat} {x y : List UInt8} (h : l1.take k = l2.take k) (h1 : l1[k]? = some x) (h2 : l2[k]? = some y) (hxy : x = y) : l1.take (k + 1) = l2.take (k + 1) := by
  rw [List.take_add_one, List.take_add_one, h, h1, h2, hxy]
attribute [local irreducible] wpQuiet
set_option maxHeartbeats 4000000 in
theorem sameLists_calls (A1 A2 : Option Addr) (l1 l2 : List (List UInt8)) (c1 c2 : Nat) (w : World) (h1 : SL w A1 l1) (h2 : SL w A2 l2) (hm : l1.length ≤ 1099511627776) :
    Calls Try.prog 25 #[.slice A1 l1.length c1, .slice A2 l2.length c2] w fun e w' => e = .returned (.bool (l1 == l2)) ∧ Below w.heap.size w w' := by
  have HS1 := hid h1; have HS2 := hid h2
  clear h1 h2
  go_enter Try.func25, Try.ntmps25
  go_wp2_with fail
  go_loopw [5, 6] (fun v5 v6 wr => ∃ (b : Bool) (k : Nat), v5 = .bool b ∧ v6 = .int .i64 (k : Int) ∧ k ≤ l1.length ∧ Hid (Below w.heap.size w wr) ∧ Hid (b = true → l1.length = l2.length ∧ l1.take k = l2.take k) ∧ Hid (b = false → ¬ l1 = l2)) (fun _ i _ => l1.length - (intOf i).toNat)
  case atStart => exact ⟨decide (l1.length = l2.length), 0, by rw [show (((l1.length : Int)) == (l2.length : Int)) = decide (l1.length = l2.length) from by rw [Bool.eq_iff_iff]; simp; omega], rfl, Nat.zero_le _, hid (Below.refl _ _), hid (fun h => ⟨of_decide_eq_true h, by simp⟩), hid (fun h e => by rw [e] at h; simp at h)⟩
  case round =>
    obtain ⟨b, k, rfl, rfl, hk, HB, HT, HF⟩ := hrel
    cases b with
    | false =>
      have hne := HF.out rfl
      have HE := hid (show (l1 == l2) = false from by simpa using hne)
      clear hne HT HF
      go_wp2_with fail
      go_ret
      exact ⟨by rw [HE.out]; rfl, HB.out⟩
    | true =>
      obtain ⟨hlen, htk⟩ := HT.out rfl
      by_cases hlt : k < l1.length
      · have hlt' : (k : Int) < (l1.length : Int) := by omega
        have hlt2 : k < l2.length := by omega
        have hlt2' : (k : Int) < (l2.length : Int) := by omega
        obtain ⟨vs1, hl1, hr1, he1⟩ := HS1.out.keep HB.out
        obtain ⟨vs2, hl2, hr2, he2⟩ := HS2.out.keep HB.out
        obtain ⟨b1, o1, rfl, hc1⟩ := hr1 (by omega)
        obtain ⟨b2, o2, rfl, hc2⟩ := hr2 (by omega)
        obtain ⟨x, hx⟩ : ∃ x, l1[k]? = some x := ⟨l1[k], List.getElem?_eq_getElem hlt⟩
        obtain ⟨y, hy⟩ : ∃ y, l2[k]? = some y := ⟨l2[k], List.getElem?_eq_getElem hlt2⟩
        obtain ⟨u, hu⟩ : ∃ u, vs1[k]? = some u := ⟨vs1[k]'(by omega), List.getElem?_eq_getElem (by omega)⟩
        obtain ⟨u2, hu2⟩ : ∃ u, vs2[k]? = some u := ⟨vs2[k]'(by omega), List.getElem?_eq_getElem (by omega)⟩
        have d1 := hc1 k u hu
        have d2 := hc2 k u2 hu2
        obtain ⟨B1, A1', q1, rfl, s1, -⟩ := he1 k x u hx hu
        obtain ⟨B2, A2', q2, rfl, s2, -⟩ := he2 k y u2 hy hu2
        have HSB := hid (fun W (hW : W = wr.drew) => sameBytes_calls B1 x.length q1 B2 y.length q2 A1' A2' x y W (by rw [hW]; exact s1.drew) (by rw [hW]; exact s2.drew))
        have D1 := hid d1; have D2 := hid d2; have HLN := hid hlen
        have HNX := hid (show ((x == y) = true → l1.length = l2.length ∧ l1.take (k + 1) = l2.take (k + 1)) ∧ ((x == y) = false → ¬ l1 = l2) from
          ⟨fun h => ⟨hlen, take_step htk hx hy (eq_of_beq h)⟩, fun h e => by
            subst e
            rw [hx] at hy
            cases hy
            simp at h⟩)
        clear hl1 hr1 he1 hl2 hr2 he2 hc1 hc2 hx hy hu hu2 s1 s2 d1 d2 HT HF htk HS1 HS2 hlen
        generalize hxy : (x == y) = bq at HSB HNX
        clear hxy
        go_wp2_with fail
        refine wp_region_class (fun w' => w' = wr.drew) (by kernel_rfl) (by kernel_rfl) rfl ?_
        intro S _ st hS hin
        have HhS := hid hS; have Hin := hid hin
        have e1 : ∀ z, (st z).cell? ⟨b1, o1 + k, none⟩ = some (.slice A1' x.length q1) := fun z => by rw [hS z]; exact D1.out
        have e2 : ∀ z, (st z).cell? ⟨b2, o2 + k, none⟩ = some (.slice A2' y.length q2) := fun z => by rw [hS z]; exact D2.out
        clear hS hin
        (refine wpQuiet_step (fun K hK => ?_); go_simp; refine hK _ ?_; clear hK K)
        (refine wpQuiet_step (fun K hK => ?_); go_simp; refine hK _ ?_; clear hK K)
        (refine wpQuiet_step (fun K hK => ?_); go_simp; refine hK _ ?_; clear hK K)
        (refine wpQuiet_step (fun K hK => ?_); go_simp; refine hK _ ?_; clear hK K)
        (refine wpQuiet_step (fun K hK => ?_); go_simp; refine hK _ ?_; clear hK K)
        (refine wpQuiet_step (fun K hK => ?_); go_simp; refine hK _ ?_; clear hK K)
        (refine wpQuiet_step (fun K hK => ?_); go_simp; refine hK _ ?_; clear hK K)
        (refine wpQuiet_step (fun K hK => ?_); go_simp; refine hK _ ?_; clear hK K)
        (refine wpQuiet_step (fun K hK => ?_); (refine quiet_callK rfl 60 #[.slice A1' x.length q1, .slice A2' y.length q2] (fun w => by go_simp) (.bool bq) (fun z => (HSB.out _ (HhS.out z)).mono fun e w' ⟨he, hw⟩ => ⟨he, z, hw.symm⟩) ?_); go_simp; refine hK _ ?_; clear hK K)
        (refine wpQuiet_step (fun K hK => ?_); go_simp; refine hK _ ?_; clear hK K)
        refine wpQuiet_nil ?_
        rintro _ rfl
        clear e1 e2 HhS Hin HSB D1 D2
        go_wp2_with fail
        go_roundw
        case rel =>
          exact ⟨bq, k + 1, rfl, by go_num, hlt, hid HB.out.drew, hid HNX.out.1, hid HNX.out.2⟩
        case measure => simp [intOf]; omega
      · have hlt' : ¬ (k : Int) < (l1.length : Int) := by omega
        have HE := hid (show (l1 == l2) = true from by
          rw [List.take_of_length_le (by omega), List.take_of_length_le (by omega)] at htk
          simpa using htk)
        clear HT HF htk
        go_wp2_with fail
        go_ret
        exact ⟨by rw [HE.out]; rfl, HB.out⟩
end Go.Proofs.Ytgldhmmfofnmiaa
