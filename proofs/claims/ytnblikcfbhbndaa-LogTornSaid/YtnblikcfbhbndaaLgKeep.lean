/- What stands in a log's area behind writes: plain mathematics. -/
import Derived.Test.YtnblikcfbhbndaaLgKnown
namespace Go.Proofs.Ytnblikcfbhbndaa
open Go.RowKit

/-- sectors written one behind the other on a device that has no fuse -/
structure Put (s s' : DS) (i : Nat) (l : List (List UInt8)) : Prop where
  ok : s'.OK
  plain : Plain s'
  n : s'.n = s.n
  img : s'.img = s.img
  loose : s'.loose = s.loose ++ l.mapIdx fun k b => (i + k, b)
  sane : Sane s → Sane s'
  now : ∀ j, j < s.n → secAt s'.now j = if i ≤ j then l[j - i]?.getD (secAt s.now j) else secAt s.now j
theorem writes_plain {s : DS} (h : s.OK) (hp : Plain s) {i : Nat} {l : List (List UInt8)} (hi : i + l.length ≤ s.n) (hl : ∀ b ∈ l, b.length = 64) :
    (writesS s (i : Int) l).2 = 0 ∧ Put s (writesS s (i : Int) l).1 i l := by
  induction l generalizing s i with
  | nil => exact ⟨rfl, h, hp, rfl, rfl, by simp [writesS], fun h => h, fun j _ => by simp [writesS]⟩
  | cons b l ih =>
    have hb := hl b (by simp)
    have hin : i < s.n := by simp at hi; omega
    obtain ⟨e1, e2⟩ := write_plain hp hin hb
    rw [writes_ok b l e2, e1, show (i : Int) + 1 = ((i + 1 : Nat) : Int) by omega]
    obtain ⟨k1, k2⟩ := ih (s := putS s i b) (put_ok h hin hb) ⟨hp.1, hp.2⟩ (i := i + 1) (by show i + 1 + l.length ≤ s.n; simp at hi; omega) (fun x hx => hl x (by simp [hx]))
    refine ⟨k1, k2.ok, k2.plain, k2.n, k2.img, ?_, fun hs => k2.sane (sane_put hs i b), fun j hj => ?_⟩
    · rw [k2.loose]
      show (s.loose ++ [(i, b)]) ++ _ = _
      rw [List.mapIdx_cons, List.append_assoc]
      simp only [Nat.add_zero, List.cons_append, List.nil_append]
      congr 3
      funext k x
      rw [show i + 1 + k = i + (k + 1) by omega]
    · rw [k2.now j hj]
      show (if i + 1 ≤ j then l[j - (i + 1)]?.getD (secAt (secPut s.now i b) j) else secAt (secPut s.now i b) j) = _
      by_cases h1 : j = i
      · subst h1
        rw [if_neg (by omega), if_pos (Nat.le_refl _), secPut_same h.n1 hin hb]
        simp
      · rw [secPut_other h.n1 hin hb hj h1]
        by_cases h2 : i + 1 ≤ j
        · rw [if_pos h2, if_pos (by omega), show j - i = (j - (i + 1)) + 1 by omega, List.getElem?_cons_succ]
        · rw [if_neg h2, if_neg (by omega)]
/-- an area with records, and nothing behind them -/
structure LogS (f N gen at_ : Nat) (recs : List (List UInt8)) (s : DS) : Prop where
  ok : s.OK
  plain : Plain s
  room : f + N < s.n
  le : at_ ≤ N
  g1 : 1 ≤ gen
  g2 : gen ≤ 2147483647
  pre : ∀ (sec : Nat → List UInt8) (fuel : Nat), (∀ i, i < at_ → sec i = secsOf s f i) → scanL gen sec (fuel + at_) 0 [] [] 0 = scanL gen sec fuel at_ [] recs at_
  old : ∀ j, j < at_ → ∃ k p, k < 256 ∧ p.length ≤ 49 ∧ secsOf s f j = secL gen j k p
  free : ∀ j, at_ ≤ j → j < N → secsOf s f j = zeros64
def areaN (f N gen : Nat) : AR := ⟨(f : Int), ((f + N : Nat) : Int), (gen : Int)⟩
theorem check_area {n f N gen : Nat} (h : f + N ≤ n) (hn : 0 < n) (g1 : 1 ≤ gen) (g2 : gen ≤ 2147483647) : checkE n (areaN f N gen) = 0 := by
  unfold checkE
  rw [if_neg (by omega), if_pos]
  unfold arOK areaN
  dsimp only
  omega
theorem has_of {s : DS} {f N gen at_ : Nat} {recs : List (List UInt8)} (hp : Plain s) (h : f + N ≤ s.n) (hn : 0 < s.n) (g1 : 1 ≤ gen) (g2 : gen ≤ 2147483647) (hs : scanL gen (secsOf s f) N 0 [] [] 0 = (recs, at_)) : hasL s (areaN f N gen) (at_ : Int) recs = true := by
  have hc := check_area (n := s.n) h hn g1 g2
  have e1 : scanE s (areaN f N gen) = 0 := by unfold scanE; rw [if_pos hc, if_neg (by rw [hp.2]; simp)]
  have e2 : scanR s (areaN f N gen) = (recs, at_) := by
    unfold scanR
    rw [if_pos ⟨hc, hp.2⟩]
    unfold areaN
    dsimp only
    rw [Int.toNat_natCast, Int.toNat_natCast, show (((f + N : Nat) : Int) - (f : Int)).toNat = N by omega]
    exact hs
  unfold hasL
  rw [e1, e2]
  simp
section
variable {f N gen at_ : Nat} {recs : List (List UInt8)} {s s' : DS}
theorem scan_at (hle : at_ ≤ N) (pre : ∀ (sec : Nat → List UInt8) (fuel : Nat), (∀ i, i < at_ → sec i = secsOf s f i) → scanL gen sec (fuel + at_) 0 [] [] 0 = scanL gen sec fuel at_ [] recs at_)
    (hx : at_ < N → validB gen at_ (secsOf s f at_) = false) : scanL gen (secsOf s f) N 0 [] [] 0 = (recs, at_) := by
  have h := pre (secsOf s f) (N - at_) (fun _ _ => rfl)
  rw [show N - at_ + at_ = N by omega] at h
  rw [h]
  by_cases h1 : at_ < N
  · exact scan_stop (hx h1)
  · rw [show N - at_ = 0 by omega]; rfl
theorem LogS.has (h : LogS f N gen at_ recs s) : hasL s (areaN f N gen) (at_ : Int) recs = true :=
  has_of h.plain (by have := h.room; omega) (by have := h.room; omega) h.g1 h.g2 (scan_at h.le h.pre (fun hl => by rw [h.free at_ (Nat.le_refl _) hl]; exact not_valid_zeros _ _))
/-- nothing under another generation -/
theorem LogS.other (h : LogS f N gen at_ recs s) {g2 : Nat} (hg : g2 ≠ gen) (h1 : 1 ≤ g2) (h2 : g2 ≤ 2147483647) : hasL s (areaN f N g2) 0 [] = true := by
  refine has_of (at_ := 0) h.plain (by have := h.room; omega) (by have := h.room; omega) h1 h2 ?_
  by_cases hN : 0 < N
  · refine scan_stop ?_
    by_cases ha : 0 < at_
    · obtain ⟨k, p, -, hp, e⟩ := h.old 0 ha
      rw [e]
      cases hv : validB g2 0 (secL gen 0 k p)
      · rfl
      · have := h.g2
        exact absurd (valid_gen (by omega) (by omega) hv) hg
    · rw [h.free 0 (by omega) hN]; exact not_valid_zeros _ _
  · rw [show N = 0 by omega]; rfl
/-- nothing from the next sector on -/
theorem LogS.next (h : LogS f N gen at_ recs s) (hN : 0 < N) (hN2 : N ≤ 65536) : hasL s ⟨((f : Int) + 1), ((f + N : Nat) : Int), (gen : Int)⟩ 0 [] = true := by
  have h0 := has_of (s := s) (f := f + 1) (N := N - 1) (gen := gen) (at_ := 0) (recs := []) h.plain (by have := h.room; omega) (by have := h.room; omega) h.g1 h.g2 (by
    by_cases hN1 : 1 < N
    · refine scan_stop ?_
      have e1 : secsOf s (f + 1) 0 = secsOf s f 1 := by unfold secsOf; rw [show f + 1 + 0 = f + 1 by omega]
      rw [e1]
      by_cases ha : 1 < at_
      · obtain ⟨k, p, -, hp, e⟩ := h.old 1 ha
        rw [e]
        cases hv : validB gen 0 (secL gen 1 k p)
        · rfl
        · exact absurd (valid_idx (by omega) (by omega) hv) (by omega)
      · rw [h.free 1 (by omega) hN1]; exact not_valid_zeros _ _
    · rw [show N - 1 = 0 by omega]; rfl)
  have e : areaN (f + 1) (N - 1) gen = ⟨((f : Int) + 1), ((f + N : Nat) : Int), (gen : Int)⟩ := by
    unfold areaN
    congr 1
    omega
  rw [e] at h0
  exact h0
theorem recSecs_length (gen at_ : Nat) (rec : List UInt8) : (recSecs gen at_ rec).length = needN rec.length := by simp [recSecs]
theorem recSecs_get (gen at_ : Nat) (rec : List UInt8) {i : Nat} (hi : i < needN rec.length) : (recSecs gen at_ rec)[i]? = some (recSec gen at_ rec i) := by
  simp [recSecs, hi]
theorem recSec_length (gen at_ : Nat) (rec : List UInt8) (i : Nat) : (recSec gen at_ rec i).length = 64 := by
  have := partN_length rec i
  exact secL_length (by omega)
theorem recSecs_64 (gen at_ : Nat) (rec : List UInt8) : ∀ b ∈ recSecs gen at_ rec, b.length = 64 := by
  intro b hb
  simp only [recSecs, List.mem_map] at hb
  obtain ⟨i, _, rfl⟩ := hb
  exact recSec_length _ _ _ _
theorem LogS.write {rec : List UInt8} (h : LogS f N gen at_ recs s) (hr : rec.length ≤ 1048576) (hf : at_ + needN rec.length ≤ N) :
    ∃ s', logWR s (areaN f N gen) (at_ : Int) rec = (s', ((at_ + needN rec.length : Nat) : Int), 0) ∧ LogS f N gen (at_ + needN rec.length) (recs ++ [rec]) s' ∧ Put s s' (f + at_) (recSecs gen at_ rec) := by
  have hroom := h.room
  obtain ⟨k1, k2⟩ := writes_plain h.ok h.plain (i := f + at_) (l := recSecs gen at_ rec) (by rw [recSecs_length]; omega) (recSecs_64 _ _ _)
  have hold : ∀ j, j < at_ → secsOf (writesS s ((f + at_ : Nat) : Int) (recSecs gen at_ rec)).1 f j = secsOf s f j := fun j hj => by
    unfold secsOf
    rw [k2.now (f + j) (by omega), if_neg (by omega)]
  have hnew : ∀ i, i < needN rec.length → secsOf (writesS s ((f + at_ : Nat) : Int) (recSecs gen at_ rec)).1 f (at_ + i) = recSec gen at_ rec i := fun i hi => by
    unfold secsOf
    rw [k2.now (f + (at_ + i)) (by omega), if_pos (by omega), show f + (at_ + i) - (f + at_) = i by omega, recSecs_get _ _ _ hi]
    rfl
  refine ⟨(writesS s ((f + at_ : Nat) : Int) (recSecs gen at_ rec)).1, ?_, ⟨k2.ok, k2.plain, by rw [k2.n]; exact h.room, hf, h.g1, h.g2, fun sec fuel hs => ?_, fun j hj => ?_, fun j h1 h2 => ?_⟩, k2⟩
  · unfold logWR
    rw [if_pos (check_area (by omega) (by omega) h.g1 h.g2)]
    unfold areaN
    dsimp only
    rw [if_neg (by have := h.le; omega), if_neg (by omega), if_neg (by omega), Int.toNat_natCast, Int.toNat_natCast, show (f : Int) + (at_ : Int) = ((f + at_ : Nat) : Int) by omega, if_pos k1, show (at_ : Int) + (needN rec.length : Int) = ((at_ + needN rec.length : Nat) : Int) by omega]
  · rw [show fuel + (at_ + needN rec.length) = (fuel + needN rec.length) + at_ by omega, h.pre sec _ (fun i hi => by rw [hs i (by omega), hold i hi])]
    exact scan_rec fuel hr (fun i hi => by rw [hs (at_ + i) (by omega), hnew i hi])
  · by_cases h1 : j < at_
    · rw [hold j h1]; exact h.old j h1
    · have e := hnew (j - at_) (by omega)
      rw [show at_ + (j - at_) = j by omega] at e
      have hp := partN_length rec (j - at_)
      refine ⟨kindN (j - at_) (needN rec.length), partN rec (j - at_), kindN_lt _ _, by omega, ?_⟩
      rw [e, recSec, show at_ + (j - at_) = j by omega]
  · unfold secsOf
    rw [k2.now (f + j) (by omega), if_pos (by omega), List.getElem?_eq_none (by rw [recSecs_length]; omega)]
    exact h.free j (by omega) h2
theorem LogS.full {rec : List UInt8} (h : LogS f N gen at_ recs s) (hr : rec.length ≤ 1048576) (hf : ¬ at_ + needN rec.length ≤ N) : logWR s (areaN f N gen) (at_ : Int) rec = (s, 0, 10) := by
  have hroom := h.room
  unfold logWR
  rw [if_pos (check_area (by omega) (by omega) h.g1 h.g2)]
  unfold areaN
  dsimp only
  rw [if_neg (by have := h.le; omega), if_neg (by omega), if_pos (by omega)]
theorem LogS.of_now (h : LogS f N gen at_ recs s) (hok : s'.OK) (hp : Plain s') (hn : s'.n = s.n) (hw : ∀ j, j < N → secsOf s' f j = secsOf s f j) : LogS f N gen at_ recs s' :=
  ⟨hok, hp, by rw [hn]; exact h.room, h.le, h.g1, h.g2, fun sec fuel hs => h.pre sec fuel (fun i hi => by rw [hs i hi, hw i (by have := h.le; omega)]), fun j hj => by rw [hw j (by have := h.le; omega)]; exact h.old j hj, fun j h1 h2 => by rw [hw j h2]; exact h.free j h1 h2⟩
theorem LogS.flush (h : LogS f N gen at_ recs s) : flushE s = 0 ∧ flushD s = flushS s ∧ LogS f N gen at_ recs (flushD s) := by
  obtain ⟨e1, e2⟩ := flush_plain h.plain
  refine ⟨e2, e1, ?_⟩
  rw [e1]
  exact h.of_now (flush_ok h.ok) ⟨h.plain.1, h.plain.2⟩ rfl (fun _ _ => rfl)
/-- a blanked area of a new device -/
theorem blank_log (f N gen : Nat) (hn : f + N + 1 ≤ 65536) (g1 : 1 ≤ gen) (g2 : gen ≤ 2147483647) :
    ∃ s', blankR (startS (f + N + 1)) (areaN f N gen) = (s', 0) ∧ LogS f N gen 0 [] s' ∧ s'.loose = [] ∧ s'.n = f + N + 1 ∧ s'.now = s'.img := by
  obtain ⟨k1, k2⟩ := writes_plain (start_ok (f + N + 1) hn) ⟨rfl, rfl⟩ (i := f) (l := List.replicate N zeros64) (by rw [List.length_replicate]; show f + N ≤ f + N + 1; omega) (fun b hb => by rw [(List.mem_replicate.1 hb).2]; rfl)
  obtain ⟨e1, e2⟩ := flush_plain k2.plain
  have hs := k2.sane rfl
  refine ⟨flushS (writesS (startS (f + N + 1)) (f : Int) (List.replicate N zeros64)).1, ?_, ⟨flush_ok k2.ok, ⟨k2.plain.1, k2.plain.2⟩, ?_, Nat.zero_le _, g1, g2, fun sec fuel _ => rfl, fun j hj => absurd hj (by omega), fun j _ hj => ?_⟩, rfl, k2.n, hs⟩
  · unfold blankR
    rw [if_pos (check_area (n := (startS (f + N + 1)).n) (by show f + N ≤ f + N + 1; omega) (by show 0 < f + N + 1; omega) g1 g2)]
    unfold areaN
    dsimp only
    rw [show (((f + N : Nat) : Int) - (f : Int)).toNat = N by omega, if_pos k1, e1, e2]
  · show f + N < (writesS (startS (f + N + 1)) (f : Int) (List.replicate N zeros64)).1.n
    rw [k2.n]; show f + N < f + N + 1; omega
  · show secAt (writesS (startS (f + N + 1)) (f : Int) (List.replicate N zeros64)).1.now (f + j) = zeros64
    rw [k2.now (f + j) (by show f + j < f + N + 1; omega), if_pos (by omega), List.getElem?_eq_getElem (by rw [List.length_replicate]; omega), List.getElem_replicate]
    rfl
end
end Go.Proofs.Ytnblikcfbhbndaa
