/- Contracts: what is asked of a device: Size, Out, Loose, Read, Image. -/
import Derived.Test.YtiejndkchcljdaaDvLow
import Derived.Shelf.Abstract
import Derived.IntWalk
namespace Go.Proofs.Ytiejndkchcljdaa
open Go.RowKit

/-- what Read tells -/
def readE (s : DS) (i : Int) : Nat := if s.out = true then 22 else if hasB s.n i = true then 0 else 3
def readB (s : DS) (i : Int) : List UInt8 := if s.out = true then [] else if hasB s.n i = true then secAt s.now i.toNat else []
/-- what Image tells -/
def imageE (s : DS) (i : Int) : Nat := if hasB s.n i = true then 0 else 3
def imageB (s : DS) (i : Int) : List UInt8 := if hasB s.n i = true then secAt s.img i.toNat else []
theorem readB_len (s : DS) (h : s.OK) (i : Int) : (readB s i).length = if readE s i = 0 then 64 else 0 := by
  unfold readB readE
  cases s.out
  · by_cases hh : hasB s.n i = true
    · have hh' := hh
      simp only [hasB, decide_eq_true_eq] at hh'
      simp [hh, secAt_length h.n1 (show i.toNat < s.n by omega)]
    · simp [hh]
  · simp
theorem imageB_len (s : DS) (h : s.OK) (i : Int) : (imageB s i).length = if imageE s i = 0 then 64 else 0 := by
  unfold imageB imageE
  by_cases hh : hasB s.n i = true
  · have hh' := hh
    simp only [hasB, decide_eq_true_eq] at hh'
    simp [hh, secAt_length h.n2 (show i.toNat < s.n by omega)]
  · simp [hh]
section
variable (base g : Nat) (F : List Nat) (s : DS) (w : World)
theorem dSize_calls (h : DevB w base F g s) : Calls Try.prog 70 #[.pointer (some ⟨g, 0, none⟩)] w fun e w' => e = .returned (.int .i64 (s.n : Int)) ∧ w = w' := by
  obtain ⟨a, m, A, c, q, h, -⟩ := h
  have HV := hid (valid_calls base g a m c A q s w h)
  have HS := hid (size_calls base g a m c A q s w h)
  clear h
  go_enter Try.func70, Try.ntmps70
  go_wp2_with fail
  refine HV.out.mono ?_
  rintro _ _ ⟨rfl, rfl⟩
  go_wp2_with fail
  refine HS.out.mono ?_
  rintro _ _ ⟨rfl, rfl⟩
  go_wp2_with fail
  go_ret
  exact ⟨rfl, rfl⟩
theorem dOut_calls (h : DevB w base F g s) : Calls Try.prog 64 #[.pointer (some ⟨g, 0, none⟩)] w fun e w' => e = .returned (.bool s.out) ∧ w = w' := by
  obtain ⟨a, m, A, c, q, h, -⟩ := h
  have HV := hid (valid_calls base g a m c A q s w h)
  have c5 := h.hd.cell 5 rfl
  clear h
  go_enter Try.func64, Try.ntmps64
  go_wp2_with fail
  refine HV.out.mono ?_
  rintro _ _ ⟨rfl, rfl⟩
  go_wp2_with fail
  go_ret
  exact ⟨rfl, rfl⟩
theorem dLoose_calls (h : DevB w base F g s) : Calls Try.prog 35 #[.pointer (some ⟨g, 0, none⟩)] w fun e w' => e = .returned (.int .i64 (s.loose.length : Int)) ∧ w = w' := by
  obtain ⟨a, m, A, c, q, h, -⟩ := h
  have HV := hid (valid_calls base g a m c A q s w h)
  have c3 := h.hd.cell 3 rfl
  clear h
  go_enter Try.func35, Try.ntmps35
  go_wp2_with fail
  refine HV.out.mono ?_
  rintro _ _ ⟨rfl, rfl⟩
  go_wp2_with fail
  go_ret
  exact ⟨rfl, rfl⟩
theorem sec_sb {b : Nat} {t : TypeId} {l : List UInt8} {n i : Nat} (hb : Blk w b t (bcs l).toArray) (hl : l.length = 64 * n) (hi : i < n) : SB w w.heap.size (some ⟨b, i * 64, none⟩) 64 (secAt l i) :=
  part_sb (by rw [← show (bcs l).toArray = part (bcs (l.take (i * 64))) ((secAt l i).map bv) (bcs (l.drop (i * 64 + 64))) from sec_part l i]; exact hb) (i * 64) 64 (by rw [bcs_length, List.length_take]; omega) (secAt_length hl hi) hb.lt
/-- what Read and Image leave -/
def AskPost (w : World) (bs : List UInt8) (er : Nat) (e : Ending) (w' : World) : Prop :=
  ∃ v, e = .returned (.tuple #[v, .int .i64 (er : Int)]) ∧ Own w' w.heap.size 5 v bs.length bs ∧ Below w.heap.size w w'
theorem dRead_calls (i : Int) (h : DevB w base F g s) : Calls Try.prog 47 #[.pointer (some ⟨g, 0, none⟩), .int .i64 i] w (AskPost w (readB s i) (readE s i)) := by
  have HL := hid (readB_len s h.ok i)
  obtain ⟨a, m, A, c, q, h, hok, -⟩ := h
  have HV := hid (state_calls base g a m c A q s w h)
  have HH := hid (has_calls base g a m c A q s w i h)
  by_cases ho : s.out = true
  · have HK := hid (show AskPost w (readB s i) (readE s i) (.returned (.tuple #[.slice none 0 0, .int .i64 22])) w from ⟨_, by rw [show readE s i = 22 from if_pos ho]; rfl, by rw [show readB s i = [] from if_pos ho]; exact Own.nil _ _ _, Below.refl _ _⟩)
    rw [if_pos ho] at HV
    clear h hok ho HH
    go_enter Try.func47, Try.ntmps47
    go_wp2_with fail
    refine HV.out.mono ?_
    rintro _ _ ⟨rfl, rfl⟩
    go_wp2_with fail
    go_ret2
    exact HK.out
  rw [if_neg ho] at HV
  by_cases hi : hasB s.n i = true
  · have hb' := hi
    simp only [hasB, decide_eq_true_eq] at hb'
    have HB := hid (bytes_calls a (i.toNat * 64) _ w (sec_sb w h.now hok.n1 (show i.toNat < s.n by omega)))
    have c1 := h.hd.cell 1 rfl
    have EB := hid (show readB s i = secAt s.now i.toNat from by unfold readB; rw [if_neg ho, if_pos hi])
    have EE := hid (show readE s i = 0 from by unfold readE; rw [if_neg ho, if_pos hi])
    rw [hi] at HH
    clear h
    obtain ⟨j, rfl⟩ : ∃ j : Nat, i = (j : Int) := ⟨i.toNat, by omega⟩
    have hj : j < s.n := by omega
    have hnb := hok.nb
    clear hi hb' hok ho
    rw [Int.toNat_natCast] at HB EB
    go_enter Try.func47, Try.ntmps47
    go_wp2_with fail
    refine HV.out.mono ?_
    rintro _ _ ⟨rfl, rfl⟩
    go_wp2_with fail
    refine HH.out.mono ?_
    rintro _ _ ⟨rfl, rfl⟩
    go_wp2_with fail
    refine HB.out.mono ?_
    rintro _ w1 ⟨v, rfl, h1, h2⟩
    have HK := hid (show AskPost w (readB s j) (readE s j) (.returned (.tuple #[v, .int .i64 0])) w1 from ⟨v, by rw [EE.out]; rfl, by rw [HL.out, EB.out, EE.out]; exact h1, h2⟩)
    clear h1 h2
    go_wp2_with fail
    go_ret2
    exact HK.out
  · have HK := hid (show AskPost w (readB s i) (readE s i) (.returned (.tuple #[.slice none 0 0, .int .i64 3])) w from ⟨_, by rw [show readE s i = 3 from by unfold readE; rw [if_neg ho, if_neg hi]]; rfl, by rw [show readB s i = [] from by unfold readB; rw [if_neg ho, if_neg hi]]; exact Own.nil _ _ _, Below.refl _ _⟩)
    rw [show hasB s.n i = false by simpa using hi] at HH
    clear h hok hi ho
    go_enter Try.func47, Try.ntmps47
    go_wp2_with fail
    refine HV.out.mono ?_
    rintro _ _ ⟨rfl, rfl⟩
    go_wp2_with fail
    refine HH.out.mono ?_
    rintro _ _ ⟨rfl, rfl⟩
    go_wp2_with fail
    go_ret2
    exact HK.out
end
end Go.Proofs.Ytiejndkchcljdaa
/- Contracts: the fuse of a device. -/
namespace Go.Proofs.Ytiejndkchcljdaa
open Go.RowKit

def fpL (g a m : Nat) (A : Option Addr) (q : Option Nat) : List Nat := g :: a :: m :: ((rowOf A).toList ++ q.toList)
theorem mem_fpL {g a m b : Nat} {A : Option Addr} {q : Option Nat} : b ∈ fpL g a m A q ↔ fpD g a m A q b := by
  unfold fpL fpD
  cases rowOf A <;> cases q <;> simp [eq_comm]
/-- a block that is the old one, or new, or none -/
def MovedQ (B : Nat) (q q' : Option Nat) : Prop := q' = q ∨ ∀ f, q' = some f → B ≤ f
/-- what a call of a part of a device leaves -/
def InPost (w : World) (base g a m : Nat) (A : Option Addr) (q : Option Nat) (s' : DS) (v : Value) (e : Ending) (w' : World) : Prop :=
  e = .returned v ∧ ∃ A' c' q', DevIn w' base g a m A' c' q' s' ∧ Chg (fpL g a m A q) w w' ∧ MovedQ w.heap.size (rowOf A) (rowOf A') ∧ MovedQ w.heap.size q q'
theorem MovedQ.refl (B : Nat) (q : Option Nat) : MovedQ B q q := .inl rfl
theorem MovedQ.trans {B B' : Nat} {q q' q'' : Option Nat} (h : MovedQ B q q') (k : MovedQ B' q' q'') (hB : B ≤ B') : MovedQ B q q'' := by
  rcases k with rfl | k
  · exact h
  · exact .inr (fun f e => Nat.le_trans hB (k f e))
theorem fpD_moved {B g a m b : Nat} {A A' : Option Addr} {q q' : Option Nat} (hA : MovedQ B (rowOf A) (rowOf A')) (hq : MovedQ B q q') (h : fpD g a m A' q' b) : fpD g a m A q b ∨ B ≤ b := by
  rcases h with h | h | h | h | h
  · exact .inl (.inl h)
  · exact .inl (.inr (.inl h))
  · exact .inl (.inr (.inr (.inl h)))
  · rcases hA with e | k
    · exact .inl (.inr (.inr (.inr (.inl (e ▸ h)))))
    · exact .inr (k b h)
  · rcases hq with e | k
    · exact .inl (.inr (.inr (.inr (.inr (e ▸ h)))))
    · exact .inr (k b h)
theorem InPost.trans {w w1 w2 : World} {base g a m : Nat} {A A1 : Option Addr} {q q1 : Option Nat} {s2 : DS} {v : Value} {e : Ending} (hc : Chg (fpL g a m A q) w w1) (hA : MovedQ w.heap.size (rowOf A) (rowOf A1)) (hq : MovedQ w.heap.size q q1)
    (h : InPost w1 base g a m A1 q1 s2 v e w2) : InPost w base g a m A q s2 v e w2 := by
  obtain ⟨he, A', c', q', h1, h2, h3, h4⟩ := h
  refine ⟨he, A', c', q', h1, hc.trans h2 (fun b hb => ?_), hA.trans h3 hc.size, hq.trans h4 hc.size⟩
  rw [mem_fpL] at hb ⊢
  exact fpD_moved hA hq hb
theorem DevPost.of {w w' : World} {base g a m : Nat} {A : Option Addr} {q : Option Nat} {F : List Nat} {s' : DS} {v v' : Value} {e e' : Ending} (hF : ∀ b, fpD g a m A q b → b ∈ F) (hlt : ∀ b ∈ F, base ≤ b ∧ b < w.heap.size) (hok : s'.OK)
    (h : InPost w base g a m A q s' v e w') (he : e' = .returned v') : DevPost w base F g s' v' e' w' := by
  obtain ⟨-, A', c', q', h1, h2, h3, h4⟩ := h
  refine ⟨he, F ++ fpL g a m A' q', ⟨a, m, A', c', q', h1, hok, fun b hb => List.mem_append.2 (.inr (mem_fpL.2 hb)), fun b hb => ?_⟩, h2.more (fun b hb => .inl (hF b (mem_fpL.1 hb))), fun b hb => ?_⟩
  · rcases List.mem_append.1 hb with hb | hb
    · exact ⟨(hlt b hb).1, Nat.lt_of_lt_of_le (hlt b hb).2 h2.size⟩
    · exact h1.lt b (mem_fpL.1 hb)
  · rcases List.mem_append.1 hb with hb | hb
    · exact .inl hb
    · rcases fpD_moved h3 h4 (mem_fpL.1 hb) with hb | hb
      · exact .inl (hF b hb)
      · exact .inr hb

def lets (s : DS) : Bool := s.fuse != some 0
def burn (s : DS) : DS := { s with fuse := s.fuse.map (· - 1), out := s.fuse == some 0 }
theorem burn_ok {s : DS} (h : s.OK) : (burn s).OK := ⟨h.n1, h.n2, h.nb, h.lo⟩
theorem burn0_calls (w : World) : Calls Try.prog 49 #[.agg #[]] w fun e w' => e = .returned (.bool true) ∧ Below w.heap.size w w' := by
  go_enter Try.func49, Try.ntmps49
  go_wp2_with fail
  go_ret
  exact ⟨rfl, below_new _ _⟩
theorem burn_calls (f k : Nat) (w : World) (hk : k < 9223372036854775808) (h : Blk w f 102 #[.int .i64 (k : Int)]) :
    Calls Try.prog 61 #[.pointer (some ⟨f, 0, none⟩)] w fun e w' => e = .returned (.bool (k != 0)) ∧ Blk w' f 102 #[.int .i64 ((k - 1 : Nat) : Int)] ∧ Chg [f] w w' := by
  have c0 := h.cell 0 rfl
  have f0 := h.frozen 0
  by_cases h0 : k = 0
  · subst h0
    have HK := hid h
    clear h
    go_enter Try.func61, Try.ntmps61
    go_wp2_with fail
    go_ret
    exact ⟨rfl, HK.out, Chg.refl _ _⟩
  · obtain ⟨j, rfl⟩ : ∃ j, k = j + 1 := ⟨k - 1, by omega⟩
    have HK := hid (show Blk (w.setCell ⟨f, 0, none⟩ (.int .i64 (j : Int))) f 102 #[.int .i64 ((j + 1 - 1 : Nat) : Int)] from by rw [Nat.add_sub_cancel]; exact h.set_ 0 _)
    have e1 : ((((j + 1 : Nat) : Int)) == 0) = false := by simp; omega
    have e2 : IntKind.i64.wrap (((j + 1 : Nat) : Int) - 1) = (j : Int) := by rw [IntWalk.i64_in _ (by omega)]; omega
    generalize hkk : ((j + 1 : Nat) : Int) = z at c0 e1 e2
    clear hkk h h0
    go_enter Try.func61, Try.ntmps61
    go_wp2_with fail
    go_ret
    exact ⟨rfl, HK.out, (chg_set (L := [f]) (by simp) 0 _)⟩

/-- the device's own block, one cell of it set -/
theorem DevIn.set5 {w : World} {base g a m c : Nat} {A : Option Addr} {q : Option Nat} {s : DS} (h : DevIn w base g a m A c q s) (o : Bool) : DevIn (w.setCell ⟨g, 5, none⟩ (.bool o)) base g a m A c q { s with out := o } := by
  have hc : Chg [g] w (w.setCell ⟨g, 5, none⟩ (.bool o)) := chg_set (L := [g]) (by simp) 5 _
  exact { hd := h.hd.set_ 5 _, now := h.now.chg hc (by simpa using h.ga.symm), img := h.img.chg hc (by simpa using h.gm.symm), row := ownsRow_chg h.row hc (fun b hb => by simpa using (h.rs b (by rwa [own_row] at hb)).1),
          fz := h.fz.chg hc (fun f hf => by simpa using (h.qs f hf).1), ga := h.ga, gm := h.gm, am := h.am, rs := h.rs, qs := fun f hf => by simpa using h.qs f hf, hg := h.hg, ha := h.ha, hm := h.hm }
/-- the fuse's block, turned -/
theorem DevIn.fused {w w' : World} {base g a m c : Nat} {A : Option Addr} {f k : Nat} {s : DS} (h : DevIn w base g a m A c (some f) s) (hc : Chg [f] w w') (hb : Blk w' f 102 #[.int .i64 (k : Int)]) : DevIn w' base g a m A c (some f) { s with fuse := some k } := by
  have hq := h.qs f rfl
  exact { hd := h.hd.chg hc (by simpa using hq.1.symm), now := h.now.chg hc (by simpa using hq.2.1.symm), img := h.img.chg hc (by simpa using hq.2.2.1.symm), row := ownsRow_chg h.row hc (fun b hb => by
            have := (h.rs b (by rwa [own_row] at hb)).2.2.2
            simp only [List.mem_singleton]; rintro rfl; exact this rfl),
          fz := hb, ga := h.ga, gm := h.gm, am := h.am, rs := h.rs, qs := fun f' hf => ⟨(h.qs f' hf).1, (h.qs f' hf).2.1, (h.qs f' hf).2.2.1, (h.qs f' hf).2.2.2.1, Nat.lt_of_lt_of_le (h.qs f' hf).2.2.2.2 hc.size⟩, hg := h.hg, ha := h.ha, hm := h.hm }
section
variable (base g a m c : Nat) (A : Option Addr) (q : Option Nat) (s : DS) (w : World)
theorem goesOn_calls (hk : ∀ k, s.fuse = some k → k < 9223372036854775808) (h : DevIn w base g a m A c q s) :
    Calls Try.prog 56 #[.pointer (some ⟨g, 0, none⟩)] w fun e w' => e = .returned (.bool (lets s)) ∧ DevIn w' base g a m A c q (burn s) ∧ Chg (fpL g a m A q) w w' := by
  have hg : g ∈ fpL g a m A q := by simp [fpL]
  have c4 := h.hd.cell 4 rfl
  have hfz := h.fz
  cases hq : q with
  | none =>
    subst hq
    simp only [fnv] at c4
    have hf : s.fuse = none := by
      cases hs : s.fuse with
      | none => rfl
      | some k => simp [FuseB, hs] at hfz
    have HL := hid (show lets s = true from by unfold lets; rw [hf]; rfl)
    have HB := hid (show burn s = { s with out := false } from by unfold burn; rw [hf]; cases s; simp_all)
    have hE : Enters Try.prog 49 := enters_of Try.func49 (by kernel_rfl) rfl
    unfold Enters at hE
    have HH := hid h; have HG := hid hg
    clear h hfz hf hk hg
    go_enter Try.func56, Try.ntmps56
    go_wp2_with fail
    refine (burn0_calls w).mono ?_
    rintro _ w1 ⟨rfl, b1⟩
    have h1 := HH.out.keep b1
    have h2 := h1.set5 false
    have c5 := h2.hd.cell 5 rfl
    have f5 := h1.hd.frozen 5
    have d5 := h1.hd.cell 5 rfl
    have HK := hid (show DevIn (w1.setCell ⟨g, 5, none⟩ (.bool false)) base g a m A c none (burn s) ∧ Chg (fpL g a m A none) w (w1.setCell ⟨g, 5, none⟩ (.bool false)) from ⟨HB.out ▸ h2, (Chg.of_below b1).trans (chg_set HG.out 5 _) (fun b hb => .inl hb)⟩)
    clear h1 h2 b1 HH hE
    go_wp2_with fail
    go_ret
    exact ⟨by rw [HL.out]; rfl, HK.out⟩
  | some f =>
    subst hq
    simp only [fnv] at c4
    obtain ⟨k, hf, hb⟩ : ∃ k, s.fuse = some k ∧ Blk w f 102 #[.int .i64 (k : Int)] := by
      cases hs : s.fuse with
      | none => simp [FuseB, hs] at hfz
      | some k => exact ⟨k, rfl, by simpa [FuseB, hs] using hfz⟩
    have HL := hid (show lets s = (k != 0) from by unfold lets; rw [hf]; simp [bne])
    have HB := hid (show burn s = { s with fuse := some (k - 1), out := !(k != 0) } from by unfold burn; rw [hf]; cases s; simp [bne])
    have HC := hid (burn_calls f k w (hk k hf) hb)
    have hE : Enters Try.prog 61 := enters_of Try.func61 (by kernel_rfl) rfl
    unfold Enters at hE
    have HH := hid h; have HG := hid hg
    clear h hfz hf hb hk hg
    go_enter Try.func56, Try.ntmps56
    go_wp2_with fail
    refine HC.out.mono ?_
    rintro _ w1 ⟨rfl, hb, k1⟩
    have h1 := HH.out.fused k1 hb
    have h2 := h1.set5 (!(k != 0))
    have c5 := h2.hd.cell 5 rfl
    have f5 := h1.hd.frozen 5
    have d5 := h1.hd.cell 5 rfl
    have HK := hid (show DevIn (w1.setCell ⟨g, 5, none⟩ (.bool (!(k != 0)))) base g a m A c (some f) (burn s) ∧ Chg (fpL g a m A (some f)) w (w1.setCell ⟨g, 5, none⟩ (.bool (!(k != 0)))) from
      ⟨HB.out ▸ h2, (k1.more (L' := fpL g a m A (some f)) (fun b hb => .inl (by rw [mem_fpL]; exact .inr (.inr (.inr (.inr (by rw [List.mem_singleton] at hb; rw [hb]))))))).trans (chg_set HG.out 5 _) (fun b hb => .inl hb)⟩)
    clear h1 h2 k1 hb HH hE HC
    generalize (k != 0) = x at *
    go_wp2_with fail
    go_ret
    exact ⟨by rw [HL.out]; rfl, HK.out⟩
end
end Go.Proofs.Ytiejndkchcljdaa
