/- Contracts: what is asked of a device: Size, Out, Loose, Read, Image. -/
import Derived.Test.YtjenafbkalokoaaDvLow
namespace Go.Proofs.Ytjenafbkalokoaa
open Go.RowKit

/-- what Read tells -/
def readE (s : DS) (i : Int) : Nat := if s.out = true then 22 else if hasB s.n i = true then 0 else 3
def readB (s : DS) (i : Int) : List UInt8 := if s.out = true then [] else if hasB s.n i = true then secAt s.now i.toNat else []
/-- what Image tells -/
def imageE (s : DS) (i : Int) : Nat := if hasB s.n i = true then 0 else 3
def imageB (s : DS) (i : Int) : List UInt8 := if hasB s.n i = true then secAt s.img i.toNat else []
theorem readB_len (s : DS) (h : s.OK) (i : Int) : (readB s i).length = if readE s i = 0 then 64 else 0 := by
  unfold readB readE
  cases s.out
  · by_cases hh : hasB s.n i = true
    · have hh' := hh
      simp only [hasB, decide_eq_true_eq] at hh'
      simp [hh, secAt_length h.n1 (show i.toNat < s.n by omega)]
    · simp [hh]
  · simp
theorem imageB_len (s : DS) (h : s.OK) (i : Int) : (imageB s i).length = if imageE s i = 0 then 64 else 0 := by
  unfold imageB imageE
  by_cases hh : hasB s.n i = true
  · have hh' := hh
    simp only [hasB, decide_eq_true_eq] at hh'
    simp [hh, secAt_length h.n2 (show i.toNat < s.n by omega)]
  · simp [hh]
section
variable (base g : Nat) (F : List Nat) (s : DS) (w : World)
theorem dSize_calls (h : DevB w base F g s) : Calls Try.prog 13 #[.pointer (some ⟨g, 0, none⟩)] w fun e w' => e = .returned (.int .i64 (s.n : Int)) ∧ w = w' := by
  obtain ⟨a, m, A, c, q, h, -⟩ := h
  have HV := hid (valid_calls base g a m c A q s w h)
  have HS := hid (size_calls base g a m c A q s w h)
  clear h
  go_enter Try.func13, Try.ntmps13
  go_wp2_with fail
  refine HV.out.mono ?_
  rintro _ _ ⟨rfl, rfl⟩
  go_wp2_with fail
  refine HS.out.mono ?_
  rintro _ _ ⟨rfl, rfl⟩
  go_wp2_with fail
  go_ret
  exact ⟨rfl, rfl⟩
theorem dOut_calls (h : DevB w base F g s) : Calls Try.prog 15 #[.pointer (some ⟨g, 0, none⟩)] w fun e w' => e = .returned (.bool s.out) ∧ w = w' := by
  obtain ⟨a, m, A, c, q, h, -⟩ := h
  have HV := hid (valid_calls base g a m c A q s w h)
  have c5 := h.hd.cell 5 rfl
  clear h
  go_enter Try.func15, Try.ntmps15
  go_wp2_with fail
  refine HV.out.mono ?_
  rintro _ _ ⟨rfl, rfl⟩
  go_wp2_with fail
  go_ret
  exact ⟨rfl, rfl⟩
theorem dLoose_calls (h : DevB w base F g s) : Calls Try.prog 17 #[.pointer (some ⟨g, 0, none⟩)] w fun e w' => e = .returned (.int .i64 (s.loose.length : Int)) ∧ w = w' := by
  obtain ⟨a, m, A, c, q, h, -⟩ := h
  have HV := hid (valid_calls base g a m c A q s w h)
  have c3 := h.hd.cell 3 rfl
  clear h
  go_enter Try.func17, Try.ntmps17
  go_wp2_with fail
  refine HV.out.mono ?_
  rintro _ _ ⟨rfl, rfl⟩
  go_wp2_with fail
  go_ret
  exact ⟨rfl, rfl⟩
theorem sec_sb {b : Nat} {t : TypeId} {l : List UInt8} {n i : Nat} (hb : Blk w b t (bcs l).toArray) (hl : l.length = 64 * n) (hi : i < n) : SB w w.heap.size (some ⟨b, i * 64, none⟩) 64 (secAt l i) :=
  part_sb (by rw [← show (bcs l).toArray = part (bcs (l.take (i * 64))) ((secAt l i).map bv) (bcs (l.drop (i * 64 + 64))) from sec_part l i]; exact hb) (i * 64) 64 (by rw [bcs_length, List.length_take]; omega) (secAt_length hl hi) hb.lt
/-- what Read and Image leave -/
def AskPost (w : World) (bs : List UInt8) (er : Nat) (e : Ending) (w' : World) : Prop :=
  ∃ v, e = .returned (.tuple #[v, .int .i64 (er : Int)]) ∧ Own w' w.heap.size 5 v bs.length bs ∧ Below w.heap.size w w'
theorem dImage_calls (i : Int) (h : DevB w base F g s) : Calls Try.prog 21 #[.pointer (some ⟨g, 0, none⟩), .int .i64 i] w (AskPost w (imageB s i) (imageE s i)) := by
  have HL := hid (imageB_len s h.ok i)
  obtain ⟨a, m, A, c, q, h, hok, -⟩ := h
  have HV := hid (valid_calls base g a m c A q s w h)
  have HH := hid (has_calls base g a m c A q s w i h)
  by_cases hi : hasB s.n i = true
  · have hb' := hi
    simp only [hasB, decide_eq_true_eq] at hb'
    have HB := hid (bytes_calls m (i.toNat * 64) _ w (sec_sb w h.img hok.n2 (show i.toNat < s.n by omega)))
    have c2 := h.hd.cell 2 rfl
    have EB := hid (show imageB s i = secAt s.img i.toNat from if_pos hi)
    have EE := hid (show imageE s i = 0 from if_pos hi)
    rw [hi] at HH
    clear h
    obtain ⟨j, rfl⟩ : ∃ j : Nat, i = (j : Int) := ⟨i.toNat, by omega⟩
    have hj : j < s.n := by omega
    have hnb := hok.nb
    clear hi hb' hok
    rw [Int.toNat_natCast] at HB EB
    go_enter Try.func21, Try.ntmps21
    go_wp2_with fail
    refine HV.out.mono ?_
    rintro _ _ ⟨rfl, rfl⟩
    go_wp2_with fail
    refine HH.out.mono ?_
    rintro _ _ ⟨rfl, rfl⟩
    go_wp2_with fail
    refine HB.out.mono ?_
    rintro _ w1 ⟨v, rfl, h1, h2⟩
    have HK := hid (show AskPost w (imageB s j) (imageE s j) (.returned (.tuple #[v, .int .i64 0])) w1 from ⟨v, by rw [EE.out]; rfl, by rw [HL.out, EB.out, EE.out]; exact h1, h2⟩)
    clear h1 h2
    go_wp2_with fail
    go_ret2
    exact HK.out
  · have HK := hid (show AskPost w (imageB s i) (imageE s i) (.returned (.tuple #[.slice none 0 0, .int .i64 3])) w from ⟨_, by rw [show imageE s i = 3 from if_neg hi]; rfl, by rw [show imageB s i = [] from if_neg hi]; exact Own.nil _ _ _, Below.refl _ _⟩)
    rw [show hasB s.n i = false by simpa using hi] at HH
    clear h hok hi
    go_enter Try.func21, Try.ntmps21
    go_wp2_with fail
    refine HV.out.mono ?_
    rintro _ _ ⟨rfl, rfl⟩
    go_wp2_with fail
    refine HH.out.mono ?_
    rintro _ _ ⟨rfl, rfl⟩
    go_wp2_with fail
    go_ret2
    exact HK.out
theorem dRead_calls (i : Int) (h : DevB w base F g s) : Calls Try.prog 19 #[.pointer (some ⟨g, 0, none⟩), .int .i64 i] w (AskPost w (readB s i) (readE s i)) := by
  have HL := hid (readB_len s h.ok i)
  obtain ⟨a, m, A, c, q, h, hok, -⟩ := h
  have HV := hid (state_calls base g a m c A q s w h)
  have HH := hid (has_calls base g a m c A q s w i h)
  by_cases ho : s.out = true
  · have HK := hid (show AskPost w (readB s i) (readE s i) (.returned (.tuple #[.slice none 0 0, .int .i64 22])) w from ⟨_, by rw [show readE s i = 22 from if_pos ho]; rfl, by rw [show readB s i = [] from if_pos ho]; exact Own.nil _ _ _, Below.refl _ _⟩)
    rw [if_pos ho] at HV
    clear h hok ho HH
    go_enter Try.func19, Try.ntmps19
    go_wp2_with fail
    refine HV.out.mono ?_
    rintro _ _ ⟨rfl, rfl⟩
    go_wp2_with fail
    go_ret2
    exact HK.out
  rw [if_neg ho] at HV
  by_cases hi : hasB s.n i = true
  · have hb' := hi
    simp only [hasB, decide_eq_true_eq] at hb'
    have HB := hid (bytes_calls a (i.toNat * 64) _ w (sec_sb w h.now hok.n1 (show i.toNat < s.n by omega)))
    have c1 := h.hd.cell 1 rfl
    have EB := hid (show readB s i = secAt s.now i.toNat from by unfold readB; rw [if_neg ho, if_pos hi])
    have EE := hid (show readE s i = 0 from by unfold readE; rw [if_neg ho, if_pos hi])
    rw [hi] at HH
    clear h
    obtain ⟨j, rfl⟩ : ∃ j : Nat, i = (j : Int) := ⟨i.toNat, by omega⟩
    have hj : j < s.n := by omega
    have hnb := hok.nb
    clear hi hb' hok ho
    rw [Int.toNat_natCast] at HB EB
    go_enter Try.func19, Try.ntmps19
    go_wp2_with fail
    refine HV.out.mono ?_
    rintro _ _ ⟨rfl, rfl⟩
    go_wp2_with fail
    refine HH.out.mono ?_
    rintro _ _ ⟨rfl, rfl⟩
    go_wp2_with fail
    refine HB.out.mono ?_
    rintro _ w1 ⟨v, rfl, h1, h2⟩
    have HK := hid (show AskPost w (readB s j) (readE s j) (.returned (.tuple #[v, .int .i64 0])) w1 from ⟨v, by rw [EE.out]; rfl, by rw [HL.out, EB.out, EE.out]; exact h1, h2⟩)
    clear h1 h2
    go_wp2_with fail
    go_ret2
    exact HK.out
  · have HK := hid (show AskPost w (readB s i) (readE s i) (.returned (.tuple #[.slice none 0 0, .int .i64 3])) w from ⟨_, by rw [show readE s i = 3 from by unfold readE; rw [if_neg ho, if_neg hi]]; rfl, by rw [show readB s i = [] from by unfold readB; rw [if_neg ho, if_neg hi]]; exact Own.nil _ _ _, Below.refl _ _⟩)
    rw [show hasB s.n i = false by simpa using hi] at HH
    clear h hok hi ho
    go_enter Try.func19, Try.ntmps19
    go_wp2_with fail
    refine HV.out.mono ?_
    rintro _ _ ⟨rfl, rfl⟩
    go_wp2_with fail
    refine HH.out.mono ?_
    rintro _ _ ⟨rfl, rfl⟩
    go_wp2_with fail
    go_ret2
    exact HK.out
end
end Go.Proofs.Ytjenafbkalokoaa
