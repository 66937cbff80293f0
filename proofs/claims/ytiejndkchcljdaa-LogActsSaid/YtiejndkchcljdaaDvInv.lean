/- What holds of a device in the laws' loops. -/
import Derived.Test.YtiejndkchcljdaaDvMath
import Derived.Test.YtiejndkchcljdaaDvOne
namespace Go.Proofs.Ytiejndkchcljdaa
open Go.RowKit

def Plain (s : DS) : Prop := s.fuse = none ∧ s.out = false
theorem Plain.ok {s : DS} (h : Plain s) (hl : s.loose.length ≤ 1000000) : fuseOK s := ⟨fun k hk => (by rw [h.1] at hk; cases hk), hl⟩
theorem burn_plain {s : DS} (h : Plain s) : burn s = s := by
  obtain ⟨n, now, img, loose, fuse, out⟩ := s
  obtain ⟨rfl, rfl⟩ := h
  rfl
theorem lets_plain {s : DS} (h : Plain s) : lets s = true := by unfold lets; rw [h.1]; rfl
theorem has_plain {n i : Nat} (hi : i < n) : hasB n (i : Int) = true := by simp [hasB]; omega
theorem write_plain {s : DS} (h : Plain s) {i : Nat} (hi : i < s.n) {bs : List UInt8} (hb : bs.length = 64) : writeS s i bs = putS s i bs ∧ writeE s i 64 = 0 := by
  have h1 := has_plain hi
  constructor
  · unfold writeS
    rw [if_neg (by simp [h.2]), if_neg (by simp [h1]), if_neg (by omega), if_neg (by simp [lets_plain h]), burn_plain h, Int.toNat_natCast]
  · unfold writeE
    rw [if_neg (by simp [h.2]), if_neg (by simp [h1]), if_neg (by omega), if_neg (by simp [lets_plain h])]
theorem flush_plain {s : DS} (h : Plain s) : flushD s = flushS s ∧ flushE s = 0 := by
  constructor
  · unfold flushD
    rw [if_neg (by simp [h.2]), if_neg (by simp [lets_plain h]), burn_plain h]
  · unfold flushE
    rw [if_neg (by simp [h.2]), if_neg (by simp [lets_plain h])]
theorem sane_put {s : DS} (h : Sane s) (i : Nat) (bs : List UInt8) : Sane (putS s i bs) := by
  unfold Sane putS flushL at *
  simp only [List.foldl_append, List.foldl_cons, List.foldl_nil]
  rw [← h]
/-- the first sectors are written -/
structure Q1 (N i : Nat) (s : DS) : Prop where
  ok : s.OK
  n : s.n = N
  plain : Plain s
  len : s.loose.length = i
  sane : Sane s
  secs : ∀ j, j < i → secAt s.now j = putB 200
theorem q1_start (N : Nat) (h : N ≤ 65536) : Q1 N 0 (startS N) := ⟨start_ok N h, rfl, ⟨rfl, rfl⟩, rfl, rfl, fun j hj => absurd hj (by omega)⟩
theorem q1_next {N i : Nat} {s : DS} (h : Q1 N i s) (hi : i < N) : Q1 N (i + 1) (writeS s i (putB 200)) ∧ writeE s i 64 = 0 := by
  have hn : i < s.n := by rw [h.n]; exact hi
  obtain ⟨e1, e2⟩ := write_plain h.plain hn (putB_len 200)
  refine ⟨?_, e2⟩
  rw [e1]
  refine ⟨put_ok h.ok hn (putB_len 200), h.n, h.plain, by simp [putS, h.len], sane_put h.sane _ _, fun j hj => ?_⟩
  show secAt (secPut s.now i (putB 200)) j = _
  by_cases e : j = i
  · subst e; exact secPut_same h.ok.n1 hn (putB_len 200)
  · rw [secPut_other h.ok.n1 hn (putB_len 200) (by omega) e]; exact h.secs j (by omega)
/-- all sectors are flushed -/
structure Q2 (N : Nat) (I : List UInt8) (s : DS) : Prop where
  ok : s.OK
  n : s.n = N
  plain : Plain s
  len : s.loose = []
  now : s.now = I
  img : s.img = I
  secs : ∀ j, j < N → secAt I j = putB 200
theorem q2_of {N : Nat} {s : DS} (h : Q1 N N s) : ∃ I, Q2 N I (flushD s) ∧ flushE s = 0 := by
  obtain ⟨e1, e2⟩ := flush_plain h.plain
  refine ⟨s.now, ?_, e2⟩
  rw [e1]
  exact ⟨flush_ok h.ok, h.n, h.plain, rfl, rfl, h.sane.symm, h.secs⟩
def cB (k : Nat) : UInt8 := UInt8.ofNat k
/-- writes since then -/
structure Q3 (N : Nat) (I : List UInt8) (since : List Int) (keep : List Bool) (k : Nat) (W : List UInt8) (last : Int) (s : DS) : Prop where
  ok : s.OK
  n : s.n = N
  plain : Plain s
  len : s.loose.length = k
  sane : Sane s
  img : s.img = I
  wl : W.length = N
  last : last = (crashP I s.loose keep k).2
  secs : ∀ j b, W[j]? = some b → secAt (crashP I s.loose keep k).1 j = putB b
  loose : ∀ l, l < k → ∃ z, since[l]? = some z ∧ s.loose[l]? = some ((z % (N : Int)).toNat, putB (cB (l + 1)))
theorem q3_start {N : Nat} {I : List UInt8} {s : DS} (h : Q2 N I s) (since : List Int) (keep : List Bool) : Q3 N I since keep 0 (List.replicate N 200) (-1) s :=
  ⟨h.ok, h.n, h.plain, by rw [h.len]; rfl, by unfold Sane; rw [h.len, h.now, h.img]; rfl, h.img, by simp, by rw [h.len]; rfl, fun j b hb => by
    obtain ⟨h1, h2⟩ := List.getElem?_eq_some_iff.1 hb
    simp at h1 h2
    subst h2
    exact h.secs j h1, fun l hl => absurd hl (by omega)⟩
theorem q3_next {N : Nat} {I : List UInt8} {since : List Int} {keep : List Bool} {k : Nat} {W : List UInt8} {last : Int} {s : DS} (h : Q3 N I since keep k W last s) (hN : 0 < N) {z : Int} (hz : since[k]? = some z) (at_ : Nat) (ha : at_ = (z % (N : Int)).toNat) :
    at_ < N ∧ writeE s at_ 64 = 0 ∧ Q3 N I since keep (k + 1) (if keptAt keep k = true then W.set at_ (cB (k + 1)) else W) (if keptAt keep k = true then last else (k : Int)) (writeS s at_ (putB (cB (k + 1)))) := by
  have h1 := Int.emod_lt_of_pos z (show (0 : Int) < N by omega)
  have h0 := Int.emod_nonneg z (show (N : Int) ≠ 0 by omega)
  have hat : at_ < N := by omega
  have hn : at_ < s.n := by rw [h.n]; exact hat
  obtain ⟨e1, e2⟩ := write_plain h.plain hn (putB_len (cB (k + 1)))
  refine ⟨hat, e2, ?_⟩
  rw [e1]
  have hok := put_ok h.ok hn (putB_len (cB (k + 1)))
  have hw : (putS s at_ (putB (cB (k + 1)))).loose[k]? = some (at_, putB (cB (k + 1))) := by
    show (s.loose ++ [_])[k]? = _
    rw [List.getElem?_append_right (by rw [h.len]; exact Nat.le_refl _), h.len, Nat.sub_self]; rfl
  have hp : crashP I (s.loose ++ [(at_, putB (cB (k + 1)))]) keep k = crashP I s.loose keep k := crashP_more I s.loose _ keep k (by rw [h.len]; exact Nat.le_refl _)
  have hnext := crashP_next I (s.loose ++ [(at_, putB (cB (k + 1)))]) keep k _ hw
  rw [hp] at hnext
  have hpl := (crashP_ok keep (h.img ▸ h.ok.n2) h.ok.lo k (by rw [h.len]; exact Nat.le_refl _)).1
  have hl : ∀ l, l < k + 1 → ∃ z, since[l]? = some z ∧ (s.loose ++ [(at_, putB (cB (k + 1)))])[l]? = some ((z % (N : Int)).toNat, putB (cB (l + 1))) := fun l hl => by
    by_cases e : l = k
    · subst e; exact ⟨z, hz, by rw [← ha]; exact hw⟩
    · obtain ⟨y, h1, h2⟩ := h.loose l (by omega)
      exact ⟨y, h1, by rw [List.getElem?_append_left (by rw [h.len]; omega), h2]⟩
  by_cases hk : keptAt keep k = true
  · rw [if_pos hk] at hnext
    rw [if_pos hk, if_pos hk]
    refine ⟨hok, h.n, h.plain, by simp [putS, h.len], sane_put h.sane _ _, h.img, by simp [h.wl], ?_, fun j b hb => ?_, hl⟩
    · show last = (crashP I (s.loose ++ [_]) keep (k + 1)).2
      rw [hnext]; exact h.last
    · show secAt (crashP I (s.loose ++ [_]) keep (k + 1)).1 j = _
      rw [hnext]
      by_cases e : j = at_
      · subst e
        rw [List.getElem?_set_self (by rw [h.wl]; exact hat)] at hb
        cases hb
        exact secPut_same hpl hn (putB_len _)
      · rw [List.getElem?_set_ne (fun e2 => e e2.symm)] at hb
        have hj : j < N := by have := (List.getElem?_eq_some_iff.1 hb).1; rw [h.wl] at this; exact this
        show secAt (secPut _ at_ _) j = _
        rw [secPut_other hpl hn (putB_len _) (by rw [h.n]; exact hj) e]
        exact h.secs j b hb
  · rw [if_neg hk] at hnext
    rw [if_neg hk, if_neg hk]
    refine ⟨hok, h.n, h.plain, by simp [putS, h.len], sane_put h.sane _ _, h.img, h.wl, ?_, fun j b hb => ?_, hl⟩
    · show (k : Int) = (crashP I (s.loose ++ [_]) keep (k + 1)).2
      rw [hnext]
    · show secAt (crashP I (s.loose ++ [_]) keep (k + 1)).1 j = _
      rw [hnext]; exact h.secs j b hb
/-- which write is torn where -/
def frontN (N : Nat) (since : List Int) (last : Int) (t i : Nat) : Nat := match since[last.toNat]? with
  | some z => if 0 ≤ last ∧ (z % (N : Int)).toNat = i then t else 0
  | none => 0
/-- what is there behind the crash -/
theorem q3_crash {N : Nat} {I : List UInt8} {since : List Int} {keep : List Bool} {k : Nat} {W : List UInt8} {last : Int} {s : DS} (h : Q3 N I since keep k W last s) (t : Nat) (ht : t < 64) :
    (crashD s keep t).OK ∧ (crashD s keep t).n = N ∧ Plain (crashD s keep t) ∧ (crashD s keep t).loose = [] ∧
    ∀ (i : Nat) b, W[i]? = some b → readE (crashD s keep t) i = 0 ∧ imageE (crashD s keep t) i = 0 ∧ readB (crashD s keep t) i = twoB (cB (last + 1).toNat) (frontN N since last t i) b ∧ imageB (crashD s keep t) i = twoB (cB (last + 1).toNat) (frontN N since last t i) b := by
  have hk : s.loose.length = k := h.len
  have e : crashD s keep t = { brokeS s keep t with fuse := none, out := false } := by unfold crashD; rw [if_pos ⟨by omega, by omega⟩, Int.toNat_natCast]
  have hb := broke_ok h.ok keep (Nat.le_of_lt ht)
  have hs := broke_sane h.ok h.sane keep (Nat.le_of_lt ht)
  have hpo := crashP_ok keep (h.img ▸ h.ok.n2) h.ok.lo k (by rw [hk]; exact Nat.le_refl _)
  rw [e]
  refine ⟨⟨hb.n1, hb.n2, hb.nb, hb.lo⟩, h.n, ⟨rfl, rfl⟩, rfl, fun i b hib => ?_⟩
  have hi : i < N := by have := (List.getElem?_eq_some_iff.1 hib).1; rw [h.wl] at this; exact this
  have hin : hasB s.n (i : Int) = true := has_plain (by rw [h.n]; exact hi)
  have key : secAt (brokeS s keep t).img i = twoB (cB (last + 1).toNat) (frontN N since last t i) b := by
    show secAt (crashI s.img s.loose keep t) i = _
    rw [h.img]
    have hl := h.last
    rw [← hk] at hl hpo
    have hsec := h.secs i b hib
    rw [← hk] at hsec
    by_cases h0 : 0 ≤ last
    · obtain ⟨l, rfl⟩ : ∃ l : Nat, last = (l : Int) := ⟨last.toNat, by omega⟩
      have hlk : l < k := by rw [← hl] at hpo; have := hpo.2.2; omega
      obtain ⟨z, hz, hx⟩ := h.loose l hlk
      rw [crashI_pos (p1 := (crashP I s.loose keep s.loose.length).1) (l := l) (by rw [hl]) hx]
      have hxo := h.ok.lo _ (List.mem_of_getElem? hx)
      have e1 : ((l : Int) + 1).toNat = l + 1 := by omega
      rw [e1]
      unfold frontN
      rw [Int.toNat_natCast, hz]
      simp only
      by_cases hq : (z % (N : Int)).toNat = i
      · rw [if_pos ⟨by omega, hq⟩]
        subst hq
        rw [tear_same hpo.1 hxo.1 (putB_len _) (Nat.le_of_lt ht), hsec]
        exact two_put _ _ t (Nat.le_of_lt ht)
      · rw [if_neg (fun h => hq h.2), tear_other hpo.1 hxo.1 (putB_len _) (Nat.le_of_lt ht) (by rw [h.n]; exact hi) (fun e => hq e.symm), hsec]
        exact two_zero _ _
    · rw [crashI_neg (by rw [← hl]; exact h0), hsec]
      have : frontN N since last t i = 0 := by
        unfold frontN
        split
        · rw [if_neg (fun h => h0 h.1)]
        · rfl
      rw [this]
      exact two_zero _ _
  refine ⟨?_, ?_, ?_, ?_⟩
  · unfold readE; rw [if_neg (by simp)]; exact if_pos hin
  · exact if_pos hin
  · unfold readB; rw [if_neg (by simp)]
    refine (if_pos hin).trans ?_
    rw [Int.toNat_natCast]
    show secAt (brokeS s keep t).now i = _
    rw [hs]; exact key
  · unfold imageB
    refine (if_pos hin).trans ?_
    rw [Int.toNat_natCast]; exact key
end Go.Proofs.Ytiejndkchcljdaa
