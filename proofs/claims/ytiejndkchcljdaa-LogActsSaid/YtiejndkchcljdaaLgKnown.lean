/- Contracts: what the laws of log ask beside it: an area, lists side by side, what an area has. And a log on one device. -/
import Derived.Test.YtiejndkchcljdaaLgWrite
namespace Go.Proofs.Ytiejndkchcljdaa
open Go.RowKit

section
variable {w0 w w1 : World} {g : Nat} {s : DS}
theorem Dev1.of_at {F : List Nat} {s' : DS} {w' : World} (hb : Below w0.heap.size w0 w) (hF : ∀ b ∈ F, w0.heap.size ≤ b) (hp : DevAt w w0.heap.size F g s' w') : Dev1 w0 w' g s' := by
  obtain ⟨F', h1, h2, -⟩ := hp
  exact ⟨hb.trans (h2.below hF hb.size), F', h1⟩
theorem d1_blank (a : AR) (h : Dev1 w0 w g s) (hf : fuseOK s) (hlo : s.loose.length + 65536 ≤ 1000000) : Calls Try.prog 15 #[.pointer (some ⟨g, 0, none⟩), arv a] w fun e w' => e = .returned (.int .i64 ((blankR s a).2 : Int)) ∧ Dev1 w0 w' g (blankR s a).1 := by
  obtain ⟨hb, F, hd⟩ := h
  exact (lgBlank_calls w0.heap.size g F s w a hd hb.size hf hlo).mono fun e w' ⟨he, hp⟩ => ⟨he, Dev1.of_at hb (fun b hb => (hd.lt b hb).1) hp⟩
theorem d1_lwrite (a : AR) (at_ : Int) (A : Option Addr) (n c B : Nat) (rec : List UInt8) (h : Dev1 w0 w g s) (hf : fuseOK s) (hlo : s.loose.length + 65536 ≤ 1000000) (hb1 : Below w.heap.size w w1) (hs : SB w1 B A n rec) (hc : n ≤ c) (hne : 0 < n → ∀ b off, A = some ⟨b, off, none⟩ → b < w0.heap.size ∨ w.heap.size ≤ b) :
    Calls Try.prog 17 #[.pointer (some ⟨g, 0, none⟩), arv a, .int .i64 at_, .slice A n c] w1 fun e w' => e = .returned (.tuple #[.int .i64 (logWR s a at_ rec).2.1, .int .i64 ((logWR s a at_ rec).2.2 : Int)]) ∧ Dev1 w0 w' g (logWR s a at_ rec).1 := by
  obtain ⟨hb, F, hd⟩ := h
  have hb' := hb.trans (hb1.mono hb.size)
  exact (lgWrite_calls w0.heap.size g F s w1 a at_ A n c B rec (hd.keep hb1) hb'.size hf hlo hs hc (fun hp b off e hm => by
    have := hd.lt b hm
    rcases hne hp b off e with h | h <;> omega)).mono fun e w' ⟨he, hp⟩ => ⟨he, Dev1.of_at hb' (fun b hb => (hd.lt b hb).1) hp⟩
theorem d1_scan (a : AR) (h : Dev1 w0 w g s) : Calls Try.prog 30 #[.pointer (some ⟨g, 0, none⟩), arv a] w fun e w' => ∃ v vs, e = .returned (.tuple #[v, .int .i64 ((scanR s a).2 : Int), .int .i64 (scanE s a : Int)]) ∧ Recs w' w.heap.size v (scanR s a).1 vs ∧ Below w.heap.size w w' := by
  obtain ⟨_, F, hd⟩ := h
  exact scan_calls w0.heap.size g F s w a hd
theorem d1_check (a : AR) (h : Dev1 w0 w g s) : Calls Try.prog 33 #[.pointer (some ⟨g, 0, none⟩), arv a] w fun e w' => e = .returned (.int .i64 (checkE s.n a : Int)) ∧ Below w.heap.size w w' := by
  obtain ⟨_, F, hd⟩ := h
  exact check_calls w0.heap.size g F s w a hd
end
theorem info_area : (Try.prog.info? 33).map (·.zero) = some (some (.agg #[.int .i64 0, .int .i64 0, .int .i64 0])) := by kernel_rfl
theorem size_area : (Try.prog.info? 33).map (·.size) = some 3 := by kernel_rfl
theorem under_area : (match Try.prog.underlying 33 with | some (.struct _) => true | _ => false) = true := by kernel_rfl
set_option maxHeartbeats 1000000 in
theorem area_calls (x : Int) (w : World) : Calls Try.prog 41 #[.int .i64 x] w fun e w' => e = .returned (arv ⟨1, 4, x⟩) ∧ Below w.heap.size w w' := by
  unfold arv
  dsimp only
  have hb := Blk.new w 33 #[.int .i64 0, .int .i64 0, .int .i64 0]
  have HN := hid (new_set w 33 #[.int .i64 0, .int .i64 0, .int .i64 0] #[.int .i64 1, .int .i64 4, .int .i64 x])
  obtain ⟨fs, hu⟩ : ∃ fs, Try.prog.underlying 33 = some (.struct fs) := by
    have h := under_area
    split at h
    · rename_i fs he
      exact ⟨fs, he⟩
    · cases h
  have HU := hid hu
  clear hu
  go_enter Try.func41, Try.ntmps41
  go_wp2_with (first
    | (refine wpList_alloc_blk rfl 33 rfl _ info_area ?_)
    | (refine wpList_store_blk rfl 33 _ _ rfl w.heap.size _ rfl rfl 33 _ hb size_area rfl rfl ?_))
  refine bodyPost_ret (v := .agg #[.int .i64 1, .int .i64 4, .int .i64 x]) (results_cell_row rfl _ _ w.heap.size 33 _ (0, 0) _ rfl HN.out.2 HU.out rfl size_area) rfl ⟨rfl, HN.out.1⟩
/-- lists side by side -/
theorem take_step {l1 l2 : List (List UInt8)} {k : Nat} {x y : List UInt8} (h : l1.take k = l2.take k) (h1 : l1[k]? = some x) (h2 : l2[k]? = some y) (hxy : x = y) : l1.take (k + 1) = l2.take (k + 1) := by
  rw [List.take_add_one, List.take_add_one, h, h1, h2, hxy]
attribute [local irreducible] wpQuiet
set_option maxHeartbeats 4000000 in
theorem sameLists_calls (A1 A2 : Option Addr) (l1 l2 : List (List UInt8)) (c1 c2 : Nat) (w : World) (h1 : SL w A1 l1) (h2 : SL w A2 l2) (hm : l1.length ≤ 1099511627776) :
    Calls Try.prog 32 #[.slice A1 l1.length c1, .slice A2 l2.length c2] w fun e w' => e = .returned (.bool (l1 == l2)) ∧ Below w.heap.size w w' := by
  have HS1 := hid h1; have HS2 := hid h2
  clear h1 h2
  go_enter Try.func32, Try.ntmps32
  go_wp2_with fail
  go_loopw [5, 6] (fun v5 v6 wr => ∃ (b : Bool) (k : Nat), v5 = .bool b ∧ v6 = .int .i64 (k : Int) ∧ k ≤ l1.length ∧ Hid (Below w.heap.size w wr) ∧ Hid (b = true → l1.length = l2.length ∧ l1.take k = l2.take k) ∧ Hid (b = false → ¬ l1 = l2)) (fun _ i _ => l1.length - (intOf i).toNat)
  case atStart => exact ⟨decide (l1.length = l2.length), 0, by rw [show (((l1.length : Int)) == (l2.length : Int)) = decide (l1.length = l2.length) from by rw [Bool.eq_iff_iff]; simp; omega], rfl, Nat.zero_le _, hid (Below.refl _ _), hid (fun h => ⟨of_decide_eq_true h, by simp⟩), hid (fun h e => by rw [e] at h; simp at h)⟩
  case round =>
    obtain ⟨b, k, rfl, rfl, hk, HB, HT, HF⟩ := hrel
    cases b with
    | false =>
      have hne := HF.out rfl
      have HE := hid (show (l1 == l2) = false from by simpa using hne)
      clear hne HT HF
      go_wp2_with fail
      go_ret
      exact ⟨by rw [HE.out]; rfl, HB.out⟩
    | true =>
      obtain ⟨hlen, htk⟩ := HT.out rfl
      by_cases hlt : k < l1.length
      · have hlt' : (k : Int) < (l1.length : Int) := by omega
        have hlt2 : k < l2.length := by omega
        have hlt2' : (k : Int) < (l2.length : Int) := by omega
        obtain ⟨vs1, hl1, hr1, he1⟩ := HS1.out.keep HB.out
        obtain ⟨vs2, hl2, hr2, he2⟩ := HS2.out.keep HB.out
        obtain ⟨b1, o1, rfl, hc1⟩ := hr1 (by omega)
        obtain ⟨b2, o2, rfl, hc2⟩ := hr2 (by omega)
        obtain ⟨x, hx⟩ : ∃ x, l1[k]? = some x := ⟨l1[k], List.getElem?_eq_getElem hlt⟩
        obtain ⟨y, hy⟩ : ∃ y, l2[k]? = some y := ⟨l2[k], List.getElem?_eq_getElem hlt2⟩
        obtain ⟨u, hu⟩ : ∃ u, vs1[k]? = some u := ⟨vs1[k]'(by omega), List.getElem?_eq_getElem (by omega)⟩
        obtain ⟨u2, hu2⟩ : ∃ u, vs2[k]? = some u := ⟨vs2[k]'(by omega), List.getElem?_eq_getElem (by omega)⟩
        have d1 := hc1 k u hu
        have d2 := hc2 k u2 hu2
        obtain ⟨B1, A1', q1, rfl, s1, -⟩ := he1 k x u hx hu
        obtain ⟨B2, A2', q2, rfl, s2, -⟩ := he2 k y u2 hy hu2
        have HSB := hid (fun W (hW : W = wr.drew) => sameBytes_calls B1 x.length q1 B2 y.length q2 A1' A2' x y W (by rw [hW]; exact s1.drew) (by rw [hW]; exact s2.drew))
        have D1 := hid d1; have D2 := hid d2; have HLN := hid hlen
        have HNX := hid (show ((x == y) = true → l1.length = l2.length ∧ l1.take (k + 1) = l2.take (k + 1)) ∧ ((x == y) = false → ¬ l1 = l2) from
          ⟨fun h => ⟨hlen, take_step htk hx hy (eq_of_beq h)⟩, fun h e => by
            subst e
            rw [hx] at hy
            cases hy
            simp at h⟩)
        clear hl1 hr1 he1 hl2 hr2 he2 hc1 hc2 hx hy hu hu2 s1 s2 d1 d2 HT HF htk HS1 HS2 hlen
        generalize hxy : (x == y) = bq at HSB HNX
        clear hxy
        go_wp2_with fail
        refine wp_region_class (fun w' => w' = wr.drew) (by kernel_rfl) (by kernel_rfl) rfl ?_
        intro S _ st hS hin
        have HhS := hid hS; have Hin := hid hin
        have e1 : ∀ z, (st z).cell? ⟨b1, o1 + k, none⟩ = some (.slice A1' x.length q1) := fun z => by rw [hS z]; exact D1.out
        have e2 : ∀ z, (st z).cell? ⟨b2, o2 + k, none⟩ = some (.slice A2' y.length q2) := fun z => by rw [hS z]; exact D2.out
        clear hS hin
        (refine wpQuiet_step (fun K hK => ?_); go_simp; refine hK _ ?_; clear hK K)
        (refine wpQuiet_step (fun K hK => ?_); go_simp; refine hK _ ?_; clear hK K)
        (refine wpQuiet_step (fun K hK => ?_); go_simp; refine hK _ ?_; clear hK K)
        (refine wpQuiet_step (fun K hK => ?_); go_simp; refine hK _ ?_; clear hK K)
        (refine wpQuiet_step (fun K hK => ?_); go_simp; refine hK _ ?_; clear hK K)
        (refine wpQuiet_step (fun K hK => ?_); go_simp; refine hK _ ?_; clear hK K)
        (refine wpQuiet_step (fun K hK => ?_); go_simp; refine hK _ ?_; clear hK K)
        (refine wpQuiet_step (fun K hK => ?_); go_simp; refine hK _ ?_; clear hK K)
        (refine wpQuiet_step (fun K hK => ?_); (refine quiet_callK rfl 69 #[.slice A1' x.length q1, .slice A2' y.length q2] (fun w => by go_simp) (.bool bq) (fun z => (HSB.out _ (HhS.out z)).mono fun e w' ⟨he, hw⟩ => ⟨he, z, hw.symm⟩) ?_); go_simp; refine hK _ ?_; clear hK K)
        (refine wpQuiet_step (fun K hK => ?_); go_simp; refine hK _ ?_; clear hK K)
        refine wpQuiet_nil ?_
        rintro _ rfl
        clear e1 e2 HhS Hin HSB D1 D2
        go_wp2_with fail
        go_roundw
        case rel =>
          exact ⟨bq, k + 1, rfl, by go_num, hlt, hid HB.out.drew, hid HNX.out.1, hid HNX.out.2⟩
        case measure => simp [intOf]; omega
      · have hlt' : ¬ (k : Int) < (l1.length : Int) := by omega
        have HE := hid (show (l1 == l2) = true from by
          rw [List.take_of_length_le (by omega), List.take_of_length_le (by omega)] at htk
          simpa using htk)
        clear HT HF htk
        go_wp2_with fail
        go_ret
        exact ⟨by rw [HE.out]; rfl, HB.out⟩
end Go.Proofs.Ytiejndkchcljdaa
/- Contracts: what an area has; so many bytes. -/
namespace Go.Proofs.Ytiejndkchcljdaa
open Go.RowKit

theorem scanL_len (gen : Nat) (sec : Nat → List UInt8) (fuel i : Nat) (rec : List UInt8) (recs : List (List UInt8)) (e : Nat) : (scanL gen sec fuel i rec recs e).1.length ≤ recs.length + fuel := by
  induction fuel generalizing i rec recs e with
  | zero => exact Nat.le_refl _
  | succ n ih =>
    rw [scan_succ]
    split
    · split
      · split
        · simp
        · have := ih (i + 1) [] (recs ++ [rec ++ partL (sec i)]) (i + 1)
          simp only [List.length_append, List.length_cons, List.length_nil] at this
          omega
      · have := ih (i + 1) (rec ++ partL (sec i)) recs e
        omega
    · simp
theorem scanR_len (s : DS) (a : AR) (h : s.n ≤ 65536) : (scanR s a).1.length ≤ 65536 := by
  unfold scanR
  split
  · rename_i hc
    have hk := check_ok hc.1
    obtain ⟨k1, k2, k3, -, -⟩ := hk
    have := scanL_len a.g.toNat (secsOf s a.a.toNat) (a.b - a.a).toNat 0 [] [] 0
    simp only [List.length_nil] at this
    omega
  · simp
/-- has an area just these records? -/
def hasL (s : DS) (a : AR) (next : Int) (l : List (List UInt8)) : Bool := scanE s a == 0 && ((scanR s a).2 : Int) == next && (scanR s a).1 == l
set_option maxHeartbeats 4000000 in
theorem lgHas_calls {w0 w : World} {g : Nat} {s : DS} (a : AR) (next : Int) (A : Option Addr) (c : Nat) (l : List (List UInt8)) (h : Dev1 w0 w g s) (hl : SL w A l) :
    Calls Try.prog 43 #[.pointer (some ⟨g, 0, none⟩), arv a, .int .i64 next, .slice A l.length c] w fun e w' => e = .returned (.bool (hasL s a next l)) ∧ Below w.heap.size w w' := by
  have hn := h.ok.nb
  have hlen := scanR_len s a hn
  have HSC := hid (fun W (hW : Below w.heap.size w W) => d1_scan a (h.keep hW))
  have HH := hid (show hasL s a next l = (scanE s a == 0 && ((scanR s a).2 : Int) == next && (scanR s a).1 == l) from rfl)
  rw [HH.out]
  have HL := hid hl
  clear h hl HH
  generalize scanR s a = R at HSC hlen ⊢
  generalize scanE s a = E at HSC ⊢
  obtain ⟨a0, a1, a2⟩ := a
  unfold arv at HSC ⊢
  dsimp only at HSC ⊢
  have kA := Blk.new w 33 #[.int .i64 a0, .int .i64 a1, .int .i64 a2]
  have bA := below_new w (.cells #[.int .i64 a0, .int .i64 a1, .int .i64 a2] 33)
  have c0 := kA.cell 0 rfl
  have c1 := kA.cell 1 rfl
  have c2 := kA.cell 2 rfl
  have BA := hid bA
  clear kA bA
  go_enter Try.func43, Try.ntmps43
  go_wp2_with fail
  refine (HSC.out _ BA.out).mono ?_
  rintro _ w1 ⟨v, vs, rfl, hr, hb1⟩
  have BW := hid (BA.out.trans (hb1.mono BA.out.size))
  obtain ⟨A1, q1, rfl, hsl1, -⟩ := hr.sl
  have HSL := hid (sameLists_calls A1 A R.1 l q1 c w1 hsl1 (HL.out.keep BW.out) (by omega))
  clear c0 c1 c2 HSC BA hb1 hr hsl1 HL
  by_cases hE : E = 0
  · subst hE
    by_cases hN : (R.2 : Int) = next
    · have HE := hid (show (((0 : Nat) == 0) && ((R.2 : Int) == next) && (R.1 == l)) = (R.1 == l) from by rw [hN]; simp)
      go_wp2_with fail
      refine HSL.out.mono ?_
      rintro _ w2 ⟨rfl, hb2⟩
      have BW2 := hid (BW.out.trans (hb2.mono BW.out.size))
      clear hb2 HSL
      go_wp2_with fail
      go_ret
      exact ⟨by rw [HE.out]; rfl, BW2.out⟩
    · have HE := hid (show (((0 : Nat) == 0) && ((R.2 : Int) == next) && (R.1 == l)) = false from by
        have : ((R.2 : Int) == next) = false := by simpa using hN
        rw [this]; simp)
      clear HSL
      go_wp2_with fail
      go_ret
      exact ⟨by rw [HE.out]; rfl, BW.out⟩
  · have HE := hid (show ((E == 0) && ((R.2 : Int) == next) && (R.1 == l)) = false from by
      have : (E == 0) = false := by simpa using hE
      rw [this]; simp)
    have hE' : ¬ (E : Int) = 0 := by omega
    clear HSL hE
    go_wp2_with fail
    go_ret
    exact ⟨by rw [HE.out]; rfl, BW.out⟩
def manyB (n : Nat) : List UInt8 := (List.range n).map fun i => UInt8.ofNat (i * 7)
theorem manyB_succ (n : Nat) : manyB (n + 1) = manyB n ++ [UInt8.ofNat (n * 7)] := by simp [manyB, List.range_succ]
theorem manyB_len (n : Nat) : (manyB n).length = n := by simp [manyB]
set_option maxHeartbeats 2000000 in
theorem many_calls (n : Nat) (hn : n ≤ 1000) (w : World) : Calls Try.prog 42 #[.int .i64 (n : Int)] w fun e w' => ∃ v, e = .returned v ∧ Own w' w.heap.size 5 v n (manyB n) ∧ Below w.heap.size w w' := by
  go_enter Try.func42, Try.ntmps42
  go_wp2_with fail
  go_loopw [3, 4] (fun v i wr => ∃ k : Nat, k ≤ n ∧ i = .int .i64 (k : Int) ∧ Hid (Own wr w.heap.size 5 v k (manyB k)) ∧ Hid (Below w.heap.size w wr)) (fun _ i _ => n - (intOf i).toNat)
  case atStart => exact ⟨0, Nat.zero_le _, rfl, hid (Own.nil _ _ _), hid (Below.refl _ _)⟩
  case round =>
    obtain ⟨k, hk, rfl, HO, HB⟩ := hrel
    by_cases hlt : k < n
    · have hlt' : (k : Int) < (n : Int) := by omega
      have hX : ((k : Int) * 7) % 256 = ((UInt8.ofNat (k * 7)).toNat : Int) := by
        rw [UInt8.toNat_ofNat']
        exact (Int.natCast_emod (k * 7) 256).symm
      have HX := hid hX
      clear hX
      go_wp2_with (at_builtin; refine Held.go ?_)
      refine wpList_push wr rfl _ _ 34 rfl 5 Try.underlying34 info5' w.heap.size u3 k (manyB k) rfl HO.out (UInt8.ofNat (k * 7)) _ ?_ rfl (by omega) HB.out.size ?_
      · first
          | exact HX.out
          | (rw [← HX.out]; congr 1; omega)
      intro v' w' h1 h2 h3
      have HO1 := hid (show Own w' w.heap.size 5 v' (k + 1) (manyB (k + 1)) from by rw [manyB_succ]; exact h1)
      have HB1 := hid (HB.out.trans (below_of_grown h2 HB.out.size (fun b e => (HO.out.block b e).1)))
      clear h1 h2 h3 HO HB HX
      go_wp2_with fail
      go_roundw
      case rel => exact ⟨k + 1, by omega, by go_num, HO1, HB1⟩
      case measure => simp [intOf]; omega
    · obtain rfl : k = n := by omega
      go_wp2_with fail
      go_ret
      exact ⟨_, rfl, HO.out, HB.out⟩
end Go.Proofs.Ytiejndkchcljdaa
/- Two devices side by side; lists of bytes handed in. -/
namespace Go.Proofs.Ytiejndkchcljdaa
open Go.RowKit

/-- Since w0 only new blocks have changed; two of them are devices that share none. -/
def Dev2 (w0 w : World) (g : Nat) (s : DS) (g2 : Nat) (s2 : DS) : Prop :=
  Below w0.heap.size w0 w ∧ ∃ F G, DevB w w0.heap.size F g s ∧ DevB w w0.heap.size G g2 s2 ∧ ∀ b ∈ F, b ∉ G
section
variable {w0 w w1 w2 : World} {g g2 : Nat} {s s2 : DS}
theorem Dev2.swap (h : Dev2 w0 w g s g2 s2) : Dev2 w0 w g2 s2 g s := by
  obtain ⟨h0, F, G, h1, h2, h3⟩ := h
  exact ⟨h0, G, F, h2, h1, fun b hb hm => h3 b hm hb⟩
theorem Dev2.keep (h : Dev2 w0 w g s g2 s2) (hb : Below w.heap.size w w1) : Dev2 w0 w1 g s g2 s2 := by
  obtain ⟨h0, F, G, h1, h2, h3⟩ := h
  exact ⟨h0.trans (hb.mono h0.size), F, G, h1.keep hb, h2.keep hb, h3⟩
theorem Dev2.fst (h : Dev2 w0 w g s g2 s2) : Dev1 w0 w g s := by
  obtain ⟨h0, F, G, h1, h2, h3⟩ := h
  exact ⟨h0, F, h1⟩
theorem dev_lower {base base' : Nat} {F : List Nat} (h : DevB w base F g s) (hle : base' ≤ base) : DevB w base' F g s := by
  obtain ⟨a, m, A, c, q, h, h2, h3, h4⟩ := h
  exact ⟨a, m, A, c, q, { hd := h.hd, now := h.now, img := h.img, row := row_lower h.row hle, fz := h.fz, ga := h.ga, gm := h.gm, am := h.am, rs := h.rs, qs := fun f hf => by have := h.qs f hf; exact ⟨this.1, this.2.1, this.2.2.1, Nat.le_trans hle this.2.2.2.1, this.2.2.2.2⟩, hg := Nat.le_trans hle h.hg, ha := Nat.le_trans hle h.ha, hm := Nat.le_trans hle h.hm }, h2, h3, fun b hb => ⟨Nat.le_trans hle (h4 b hb).1, (h4 b hb).2⟩⟩
theorem dev2_of (h1 : Dev1 w0 w1 g s) (h2 : Dev1 w1 w2 g2 s2) : Dev2 w0 w2 g s g2 s2 := by
  obtain ⟨a0, F, a1⟩ := h1
  obtain ⟨b0, G, b1⟩ := h2
  exact ⟨a0.trans (b0.mono a0.size), F, G, a1.keep b0, dev_lower b1 a0.size, fun b hb hm => by have := (a1.lt b hb).2; have := (b1.lt b hm).1; omega⟩
theorem Dev2.on {F G : List Nat} {s' : DS} {w' : World} (h0 : Below w0.heap.size w0 w) (h1 : DevB w w0.heap.size F g s) (h2 : DevB w w0.heap.size G g2 s2) (h3 : ∀ b ∈ F, b ∉ G) (hp : DevAt w w0.heap.size F g s' w') : Dev2 w0 w' g s' g2 s2 := by
  obtain ⟨F', a1, a2, a3⟩ := hp
  refine ⟨h0.trans (a2.below (fun b hb => (h1.lt b hb).1) h0.size), F', G, a1, h2.chg a2 (fun b hb hm => h3 b hm hb), fun b hb hm => ?_⟩
  rcases a3 b hb with h | h
  · exact h3 b h hm
  · have := (h2.lt b hm).2; omega
theorem d2_lwrite (a : AR) (at_ : Int) (A : Option Addr) (n c B : Nat) (rec : List UInt8) (h : Dev2 w0 w g s g2 s2) (hf : fuseOK s) (hlo : s.loose.length + 65536 ≤ 1000000) (hb1 : Below w.heap.size w w1) (hs : SB w1 B A n rec) (hc : n ≤ c) (hne : 0 < n → ∀ b off, A = some ⟨b, off, none⟩ → b < w0.heap.size ∨ w.heap.size ≤ b) :
    Calls Try.prog 17 #[.pointer (some ⟨g, 0, none⟩), arv a, .int .i64 at_, .slice A n c] w1 fun e w' => e = .returned (.tuple #[.int .i64 (logWR s a at_ rec).2.1, .int .i64 ((logWR s a at_ rec).2.2 : Int)]) ∧ Dev2 w0 w' g (logWR s a at_ rec).1 g2 s2 := by
  obtain ⟨hb, F, G, h1, h2, h3⟩ := h
  have hb' := hb.trans (hb1.mono hb.size)
  exact (lgWrite_calls w0.heap.size g F s w1 a at_ A n c B rec (h1.keep hb1) hb'.size hf hlo hs hc (fun hp b off e hm => by
    have := h1.lt b hm
    rcases hne hp b off e with h | h <;> omega)).mono fun e w' ⟨he, hp⟩ => ⟨he, Dev2.on hb' (h1.keep hb1) (h2.keep hb1) h3 hp⟩
theorem d2_flush (h : Dev2 w0 w g s g2 s2) (hf : fuseOK s) : Calls Try.prog 20 #[.pointer (some ⟨g, 0, none⟩)] w fun e w' => e = .returned (.int .i64 (flushE s : Int)) ∧ Dev2 w0 w' g (flushD s) g2 s2 := by
  obtain ⟨hb, F, G, h1, h2, h3⟩ := h
  exact (dFlush_calls w0.heap.size g F s w h1 hf.1 hf.2).mono fun e w' hp => ⟨(DevAt.of_post hp).1, Dev2.on hb h1 h2 h3 (DevAt.of_post hp).2⟩
theorem d2_crash (nk ck : Nat) (Ak : Option Addr) (keep : List Bool) (t : Int) (h : Dev2 w0 w g s g2 s2) (hf : fuseOK s) (hb1 : Below w.heap.size w w1) (hk : KB w1 Ak nk keep) (hne : 0 < nk → ∀ b off, Ak = some ⟨b, off, none⟩ → b < w0.heap.size ∨ w.heap.size ≤ b) (hnk : nk ≤ 1099511627776) :
    Calls Try.prog 22 #[.pointer (some ⟨g, 0, none⟩), .slice Ak nk ck, .int .i64 t] w1 fun e w' => e = .returned (.int .i64 (crashE t : Int)) ∧ Dev2 w0 w' g (crashD s keep t) g2 s2 := by
  obtain ⟨hb, F, G, h1, h2, h3⟩ := h
  have hb' := hb.trans (hb1.mono hb.size)
  exact (dCrash_calls w0.heap.size g F s w1 nk ck Ak keep t (h1.keep hb1) hf.2 hk (fun hn b off e hm => by
    have := h1.lt b hm
    rcases hne hn b off e with h | h <;> omega) hnk).mono fun e w' hp => ⟨(DevAt.of_post hp).1, Dev2.on hb' (h1.keep hb1) (h2.keep hb1) h3 (DevAt.of_post hp).2⟩
end
/-- a list of slices that a call made -/
theorem sl_new (w : World) (t : TypeId) (us : List Value) (l : List (List UInt8)) (hn : us.length = l.length)
    (each : ∀ (k : Nat) x u, l[k]? = some x → us[k]? = some u → ∃ B A' c, u = .slice A' x.length c ∧ SB w B A' x.length x ∧ x.length ≤ c) : SL (w.alloc (.cells us.toArray t)) (some ⟨w.heap.size, 0, none⟩) l := by
  refine ⟨us, hn, fun _ => ⟨w.heap.size, 0, rfl, fun j u hj => ?_⟩, fun k x u hx hu => ?_⟩
  · rw [Nat.zero_add]
    exact (Blk.new w t us.toArray).cell j (by simpa using hj)
  · obtain ⟨B, A', c, e, hs, hc⟩ := each k x u hx hu
    exact ⟨B, A', c, e, hs.keep (below_new w _), hc⟩
end Go.Proofs.Ytiejndkchcljdaa
/- The chapter's examples of a log, reckoned. -/
namespace Go.Proofs.Ytiejndkchcljdaa
open Go.RowKit

def abcL : List UInt8 := [97, 98, 99]
def ar7 (g : Int) : AR := ⟨1, 4, g⟩
def m0 : DS := startS 4
def m1 : DS := (blankR m0 (ar7 7)).1
def m2 : DS := (logWR m1 (ar7 7) 0 abcL).1
def m3 : DS := flushD m2
def manyL (n : Nat) : List UInt8 := (List.range n).map fun i => UInt8.ofNat (i * 7)
def m4 : DS := (logWR m3 (ar7 7) 1 (manyL 50)).1
def m4b : DS := (logWR m4 (ar7 7) 3 []).1
def m5 : DS := flushD m4b
def m6 : DS := crashD m4 [true] 63
theorem ex1 : (blankR m0 (ar7 7)).2 = 0 := by decide +kernel
theorem ex2 : (logWR m1 (ar7 7) 0 abcL).2 = (1, 0) := by decide +kernel
theorem ex3 : flushE m2 = 0 := by decide +kernel
theorem ex4 : scanR m3 (ar7 7) = ([abcL], 1) := by decide +kernel
theorem ex5 : scanR m3 (ar7 8) = ([], 0) := by decide +kernel
theorem ex6 : (logWR m3 (ar7 7) 1 (manyL 50)).2 = (3, 0) := by decide +kernel
theorem ex7 : (logWR m4 (ar7 7) 3 []).2 = (0, 10) := by decide +kernel
theorem ex8 : flushE m4b = 0 := by decide +kernel
theorem ex9 : scanR m5 (ar7 7) = ([abcL, manyL 50], 3) := by decide +kernel
theorem ex10 : scanR m5 (ar7 8) = ([], 0) := by decide +kernel
theorem ex11 : crashE 63 = 0 := by decide +kernel
theorem ex12 : scanR m6 (ar7 7) = ([abcL], 1) := by decide +kernel
end Go.Proofs.Ytiejndkchcljdaa
/- The chapter's examples of a log, walked: made, awake, LogKnown. -/
namespace Go.Proofs.Ytiejndkchcljdaa
open Go.RowKit

theorem many_eq (n : Nat) : manyB n = manyL n := rfl

set_option maxHeartbeats 4000000 in
set_option maxRecDepth 20000 in
theorem made_calls (w0 w : World) (hb : Below w0.heap.size w0 w) : Calls Try.prog 40 #[] w fun e w' => ∃ g, e = .returned (.pointer (some ⟨g, 0, none⟩)) ∧ Dev1 w0 w' g m3 := by
  have HB := hid hb
  clear hb
  go_enter Try.func40, Try.ntmps40
  go_wp2_with fail
  refine (d1_new w0 4 w HB.out (by omega) (by omega)).mono ?_
  rintro _ w1 ⟨g, rfl, h⟩
  have H := hid h
  clear h HB
  go_wp2_with fail
  refine (area_calls 7 w1).mono ?_
  rintro _ w2 ⟨rfl, h⟩
  have H := hid (H.out.keep h)
  clear h
  go_wp2_with fail
  refine (d1_blank (ar7 7) (s := m0) H.out (fuseOK_of (by decide +kernel)) (by decide +kernel)).mono ?_
  rintro _ w3 ⟨rfl, h⟩
  rw [show (((blankR m0 (ar7 7)).2 : Int)) = 0 from by rw [ex1]; rfl]
  have H := hid h
  clear h
  go_wp2_with fail
  refine (area_calls 7 w3).mono ?_
  rintro _ w4 ⟨rfl, h⟩
  have H := hid (H.out.keep h)
  clear h
  go_wp2_with fail
  refine upon_text _ 34 5 Try.underlying34 Try.underlying5 _ abcL rfl 3 rfl ?_
  intro w5 hs hb
  have HW := hid (d1_lwrite (s := m1) (ar7 7) 0 _ 3 3 _ _ H.out (fuseOK_of (by decide +kernel)) (by decide +kernel) hb hs (by omega) (fun _ b off e => by cases e; exact .inr (Nat.le_refl _)))
  clear hs hb H
  try dsimp only
  go_wp2_with fail
  refine HW.out.mono ?_
  rintro _ w6 ⟨rfl, h⟩
  have H := hid (show Dev1 w0 w6 g m2 from h)
  rw [ex2]
  clear h HW
  go_wp2_with fail
  refine (d1_flush (s := m2) H.out (fuseOK_of (by decide +kernel))).mono ?_
  rintro _ w7 ⟨rfl, h⟩
  rw [show ((flushE m2 : Int)) = 0 from by rw [ex3]; rfl]
  have H := hid (show Dev1 w0 w7 g m3 from h)
  clear h
  go_wp2_with fail
  go_ret
  exact ⟨g, rfl, H.out⟩
theorem ar_eq (g : Int) : (⟨1, 4, g⟩ : AR) = ar7 g := rfl
theorem sl_one (w : World) (t : TypeId) (x : List UInt8) (n c B : Nat) (A : Option Addr) (hn : x.length = n) (hs : SB w B A n x) (hc : n ≤ c) : SL (w.alloc (.cells #[.slice A n c] t)) (some ⟨w.heap.size, 0, none⟩) [x] :=
  sl_new w t [.slice A n c] [x] rfl (fun k y u hy hu => by
    match k with
    | 0 => cases hy; cases hu; subst hn; exact ⟨B, A, c, rfl, hs, hc⟩
    | k + 1 => simp at hy)
theorem sl_two (w : World) (t : TypeId) (x y : List UInt8) (n c B : Nat) (A : Option Addr) (n2 c2 B2 : Nat) (A2 : Option Addr) (hn : x.length = n) (hs : SB w B A n x) (hc : n ≤ c) (hn2 : y.length = n2) (hs2 : SB w B2 A2 n2 y) (hc2 : n2 ≤ c2) : SL (w.alloc (.cells #[.slice A n c, .slice A2 n2 c2] t)) (some ⟨w.heap.size, 0, none⟩) [x, y] :=
  sl_new w t [.slice A n c, .slice A2 n2 c2] [x, y] rfl (fun k z u hy hu => by
    match k with
    | 0 => cases hy; cases hu; subst hn; exact ⟨B, A, c, rfl, hs, hc⟩
    | 1 => cases hy; cases hu; subst hn2; exact ⟨B2, A2, c2, rfl, hs2, hc2⟩
    | k + 2 => simp at hy)
theorem exH1 : hasL m3 (ar7 7) 1 [abcL] = true := by decide +kernel
theorem exH2 : hasL m3 (ar7 8) 0 [] = true := by decide +kernel
theorem exH3 : hasL m5 (ar7 7) 3 [abcL, manyL 50] = true := by decide +kernel
theorem exH4 : hasL m5 (ar7 8) 0 [] = true := by decide +kernel
theorem exH5 : hasL m6 (ar7 7) 1 [abcL] = true := by decide +kernel
set_option maxHeartbeats 4000000 in
set_option maxRecDepth 20000 in
theorem awake_calls (w : World) : Calls Try.prog 10 #[] w fun e w' => e = .returned (.bool true) ∧ Below w.heap.size w w' := by
  go_enter Try.func10, Try.ntmps10
  go_wp2_with fail
  refine (made_calls w w (Below.refl _ _)).mono ?_
  rintro _ w1 ⟨g, rfl, h⟩
  have H := hid h
  clear h
  go_wp2_with fail
  refine (need_calls 50 w1).mono ?_
  rintro _ _ ⟨rfl, rfl⟩
  rw [show ((needE 50 : Int)) = 2 from by decide +kernel]
  go_wp2_with fail
  refine (area_calls 7 w1).mono ?_
  rintro _ w2 ⟨rfl, h⟩
  have H := hid (H.out.keep h)
  clear h
  go_wp2_with fail
  refine upon_text _ 34 5 Try.underlying34 Try.underlying5 _ abcL rfl 3 rfl ?_
  intro w3 hs hb
  have H := hid (H.out.keep hb)
  have HL := hid (sl_one w3 34 abcL 3 3 _ _ rfl hs (by omega))
  have H1 := hid (H.out.keep (below_new w3 (.cells #[.slice (some ⟨w2.heap.size, 0, none⟩) 3 3] 34)))
  clear hs hb H
  try dsimp only
  go_wp2_with fail
  refine (lgHas_calls (ar7 7) 1 _ 1 [abcL] H1.out HL.out).mono ?_
  rintro _ w4 ⟨rfl, h⟩
  rw [exH1]
  have H := hid (H1.out.keep h)
  clear h H1 HL
  go_wp2_with fail
  refine (area_calls 8 w4).mono ?_
  rintro _ w5 ⟨rfl, h⟩
  have H := hid (H.out.keep h)
  clear h
  go_wp2_with fail
  refine (lgHas_calls (s := m3) (ar7 8) 0 none 0 [] H.out (SL.nil _ _)).mono ?_
  rintro _ w6 ⟨rfl, h⟩
  rw [exH2]
  have H := hid (H.out.keep h)
  clear h
  go_wp2_with fail
  go_ret
  exact ⟨rfl, H.out.1⟩
set_option maxHeartbeats 8000000 in
set_option maxRecDepth 20000 in
theorem known_calls (w : World) : Calls Try.prog 6 #[] w fun e w' => e = .returned (.bool true) ∧ Below w.heap.size w w' := by
  go_enter Try.func6, Try.ntmps6
  go_wp2_with fail
  refine (made_calls w w (Below.refl _ _)).mono ?_
  rintro _ w1 ⟨g, rfl, h⟩
  have H0 := hid h
  clear h
  go_wp2_with fail
  refine (made_calls w1 w1 (Below.refl _ _)).mono ?_
  rintro _ w2 ⟨g2, rfl, h⟩
  have H := hid (dev2_of H0.out h)
  clear h H0
  go_wp2_with fail
  refine (area_calls 7 w2).mono ?_
  rintro _ w3 ⟨rfl, h⟩
  have H := hid (H.out.keep h)
  clear h
  go_wp2_with fail
  refine (many_calls 50 (by omega) w3).mono ?_
  rintro _ w4 ⟨v, rfl, ho, hb⟩
  obtain ⟨A, c, rfl, hc, hs, hblk⟩ := ho.sb
  have HW := hid (d2_lwrite (s := m3) (ar7 7) 1 A 50 c _ (manyL 50) H.out (fuseOK_of (by decide +kernel)) (by decide +kernel) hb hs hc (fun _ b off e => .inr (hblk b (by rw [e]; rfl)).1))
  clear ho hb hs hblk hc H
  go_wp2_with fail
  refine HW.out.mono ?_
  rintro _ w5 ⟨rfl, h⟩
  have H := hid (show Dev2 w w5 g m4 g2 m3 from h)
  rw [ex6]
  clear h HW
  go_wp2_with fail
  refine (area_calls 7 w5).mono ?_
  rintro _ w6 ⟨rfl, h⟩
  have H := hid (H.out.keep h)
  clear h
  go_wp2_with fail
  refine (d2_lwrite (s := m4) (ar7 7) 3 none 0 0 0 [] H.out (fuseOK_of (by decide +kernel)) (by decide +kernel) (Below.refl _ _) (SB.nil _ _ _) (by omega) (fun h => absurd h (by omega))).mono ?_
  rintro _ w7 ⟨rfl, h⟩
  have H := hid (show Dev2 w w7 g m4b g2 m3 from h)
  rw [ex7]
  clear h
  go_wp2_with fail
  refine (d2_flush (s := m4b) H.out (fuseOK_of (by decide +kernel))).mono ?_
  rintro _ w8 ⟨rfl, h⟩
  rw [show ((flushE m4b : Int)) = 0 from by rw [ex8]; rfl]
  have H := hid (show Dev2 w w8 g m5 g2 m3 from h)
  clear h
  go_wp2_with fail
  refine (area_calls 7 w8).mono ?_
  rintro _ w9 ⟨rfl, h⟩
  have H := hid (H.out.keep h)
  clear h
  go_wp2_with fail
  refine upon_text _ 34 5 Try.underlying34 Try.underlying5 _ abcL rfl 3 rfl ?_
  intro w10 hs hb
  have H := hid (H.out.keep hb)
  have HS := hid hs
  clear hs hb
  try dsimp only
  go_wp2_with fail
  refine (many_calls 50 (by omega) w10).mono ?_
  rintro _ w11 ⟨v, rfl, ho, hb⟩
  obtain ⟨A, c, rfl, hc, hs2, -⟩ := ho.sb
  have HL := hid (sl_two w11 34 abcL (manyL 50) 3 3 _ _ 50 c _ A rfl (HS.out.keep hb) (by omega) rfl hs2 hc)
  have H := hid ((H.out.keep hb).keep (below_new w11 (.cells #[.slice (some ⟨w9.heap.size, 0, none⟩) 3 3, .slice A 50 c] 34)))
  clear ho hb hs2 hc HS
  go_wp2_with fail
  refine (lgHas_calls (ar7 7) 3 _ 2 [abcL, manyL 50] H.out.fst HL.out).mono ?_
  rintro _ w12 ⟨rfl, h⟩
  rw [exH3]
  have H := hid (H.out.keep h)
  clear h HL
  go_wp2_with fail
  refine (area_calls 8 w12).mono ?_
  rintro _ w13 ⟨rfl, h⟩
  have H := hid (H.out.keep h)
  clear h
  go_wp2_with fail
  refine (lgHas_calls (s := m5) (ar7 8) 0 none 0 [] H.out.fst (SL.nil _ _)).mono ?_
  rintro _ w14 ⟨rfl, h⟩
  rw [exH4]
  have H := hid (H.out.keep h)
  clear h
  go_wp2_with fail
  refine (d1_check (s := m5) ⟨2, 5, 7⟩ H.out.fst).mono ?_
  rintro _ w15 ⟨rfl, h⟩
  rw [show ((checkE m5.n ⟨2, 5, 7⟩ : Int)) = 3 from by decide +kernel]
  have H := hid (H.out.keep h)
  clear h
  go_wp2_with fail
  refine (area_calls 0 w15).mono ?_
  rintro _ w16 ⟨rfl, h⟩
  have H := hid (H.out.keep h)
  clear h
  go_wp2_with fail
  refine (d1_check (s := m5) (ar7 0) H.out.fst).mono ?_
  rintro _ w17 ⟨rfl, h⟩
  rw [show ((checkE m5.n (ar7 0) : Int)) = 3 from by decide +kernel]
  have H := hid (H.out.keep h)
  clear h
  go_wp2_with fail
  refine (need_calls 0 w17).mono ?_
  rintro _ _ ⟨rfl, rfl⟩
  rw [show ((needE 0 : Int)) = 1 from by decide +kernel]
  go_wp2_with fail
  refine (need_calls 49 w17).mono ?_
  rintro _ _ ⟨rfl, rfl⟩
  rw [show ((needE 49 : Int)) = 1 from by decide +kernel]
  go_wp2_with fail
  refine (need_calls (-1) w17).mono ?_
  rintro _ _ ⟨rfl, rfl⟩
  rw [show ((needE (-1) : Int)) = 0 from by decide +kernel]
  go_wp2_with fail
  refine (area_calls 7 w17).mono ?_
  rintro _ w18 ⟨rfl, h⟩
  have H := hid (H.out.swap.keep h)
  clear h
  go_wp2_with fail
  refine (many_calls 50 (by omega) w18).mono ?_
  rintro _ w19 ⟨v, rfl, ho, hb⟩
  obtain ⟨A, c, rfl, hc, hs, hblk⟩ := ho.sb
  have HW := hid (d2_lwrite (s := m3) (ar7 7) 1 A 50 c _ (manyL 50) H.out (fuseOK_of (by decide +kernel)) (by decide +kernel) hb hs hc (fun _ b off e => .inr (hblk b (by rw [e]; rfl)).1))
  clear ho hb hs hblk hc H
  go_wp2_with fail
  refine HW.out.mono ?_
  rintro _ w20 ⟨rfl, h⟩
  have H := hid (show Dev1 w w20 g2 m4 from h.fst)
  rw [ex6]
  clear h HW
  go_wp2_with fail
  refine (awake_calls w20).mono ?_
  rintro _ w21 ⟨rfl, h⟩
  have H := hid (H.out.keep h)
  clear h
  go_wp2_with fail
  refine (d1_crash 1 1 (some ⟨w21.heap.size, 0, none⟩) [true] 63 (s := m4) H.out (fuseOK_of (by decide +kernel)) (below_new _ _) (kb_lit _ _ [true] _ 1 rfl rfl) (fun _ b off e => by cases e; exact .inr (Nat.le_refl _)) (by omega)).mono ?_
  rintro _ w22 ⟨rfl, h⟩
  rw [show ((crashE 63 : Int)) = 0 from by decide +kernel]
  have H := hid (show Dev1 w w22 g2 m6 from h)
  clear h
  go_wp2_with fail
  refine (area_calls 7 w22).mono ?_
  rintro _ w23 ⟨rfl, h⟩
  have H := hid (H.out.keep h)
  clear h
  go_wp2_with fail
  refine upon_text _ 34 5 Try.underlying34 Try.underlying5 _ abcL rfl 3 rfl ?_
  intro w24 hs hb
  have H := hid (H.out.keep hb)
  have HL := hid (sl_one w24 34 abcL 3 3 _ _ rfl hs (by omega))
  have H1 := hid (H.out.keep (below_new w24 (.cells #[.slice (some ⟨w23.heap.size, 0, none⟩) 3 3] 34)))
  clear hs hb H
  try dsimp only
  go_wp2_with fail
  refine (lgHas_calls (ar7 7) 1 _ 1 [abcL] H1.out HL.out).mono ?_
  rintro _ w25 ⟨rfl, h⟩
  rw [exH5]
  have H := hid (H1.out.keep h)
  clear h H1 HL
  go_wp2_with fail
  go_ret
  exact ⟨rfl, H.out.1⟩
end Go.Proofs.Ytiejndkchcljdaa
