/- Manifests as bytes: what is read stands there, and is written as it stood; what is written is read as it was. Plain functions. -/
import Derived.Test.YtljnpaikjljmbaaMdEnc
import Derived.Test.YtljnpaikjljmbaaMdDec
namespace Go.Proofs.Ytljnpaikjljmbaa
open Go.RowKit

/-- From place a to place a' the bytes l stand. -/
def Spans (bs : List UInt8) (a a' : Nat) (l : List UInt8) : Prop := a ≤ a' ∧ a' ≤ bs.length ∧ (bs.drop a).take (a' - a) = l
theorem Spans.trans {bs l m : List UInt8} {a b c : Nat} (h : Spans bs a b l) (k : Spans bs b c m) : Spans bs a c (l ++ m) := by
  obtain ⟨h1, h2, h3⟩ := h
  obtain ⟨k1, k2, k3⟩ := k
  refine ⟨by omega, k2, ?_⟩
  rw [← h3, ← k3, show c - a = (b - a) + (c - b) by omega, List.take_add, List.drop_drop, show a + (b - a) = b by omega]
theorem numS_span {bs : List UInt8} {most : Int} {above a a' n : Nat} (h : numS bs most above (.ok a) = (n, .ok a')) : Spans bs a a' (enc n) ∧ a < a' ∧ n < 9223372036854775808 ∧ (n : Int) ≤ most := by
  have hns : numS bs most above (.ok a) = limS a most above (numS0 bs a) := rfl
  rw [hns] at h
  generalize hq : numS0 bs a = q at h
  obtain ⟨n', s'⟩ := q
  cases s' with
  | bad e p => simp [limS] at h
  | ok a2 =>
    by_cases hm : most < (n' : Int)
    · rw [show limS a most above (n', .ok a2) = (0, .bad above a) from if_pos hm] at h; simp at h
    · rw [show limS a most above (n', .ok a2) = (n', .ok a2) from if_neg hm] at h
      simp only [Prod.mk.injEq, RS.ok.injEq] at h
      obtain ⟨rfl, rfl⟩ := h
      unfold numS0 at hq
      split at hq
      · rename_i h0
        have hd := enc_dec (bs.drop a) (n := (decN (bs.drop a)).1) (s := (decN (bs.drop a)).2.1) (by rw [← h0])
        simp only [Prod.mk.injEq, RS.ok.injEq] at hq
        obtain ⟨rfl, rfl⟩ := hq
        obtain ⟨h1, h2, h3, h4, h5⟩ := hd
        rw [List.length_drop] at h2
        exact ⟨⟨by omega, by omega, by rw [Nat.add_sub_cancel_left]; exact h4.symm⟩, by omega, h3, by omega⟩
      · simp at hq
theorem takeS_span {bs cs : List UInt8} {n begin a a' : Nat} (ha : a ≤ bs.length) (h : takeS bs n begin (.ok a) = (cs, .ok a')) : Spans bs a a' cs ∧ cs.length = n := by
  by_cases hm : bs.length - a < n
  · rw [show takeS bs n begin (.ok a) = ([], .bad 6 begin) from if_pos hm] at h; simp at h
  · rw [show takeS bs n begin (.ok a) = ((bs.drop a).take n, .ok (a + n)) from if_neg hm] at h
    simp only [Prod.mk.injEq, RS.ok.injEq] at h
    obtain ⟨rfl, rfl⟩ := h
    exact ⟨⟨by omega, by omega, by rw [Nat.add_sub_cancel_left]⟩, by rw [List.length_take, List.length_drop]; omega⟩
theorem numI_nat (n : Nat) : numI (n : Int) = some (enc n) := by unfold numI; rw [if_neg (by omega), Int.toNat_natCast]
theorem sizedS_span {bs cs : List UInt8} {most : Int} {a a' : Nat} (h : sizedS bs most (.ok a) = (cs, .ok a')) : Spans bs a a' (enc cs.length ++ cs) ∧ a < a' := by
  have hq : sizedS bs most (.ok a) = takeS bs (numS bs most 4 (.ok a)).1 a (numS bs most 4 (.ok a)).2 := rfl
  rw [hq] at h
  generalize hn : numS bs most 4 (.ok a) = q at h
  obtain ⟨n, s'⟩ := q
  cases s' with
  | bad e p => simp [takeS] at h
  | ok a1 =>
    obtain ⟨h1, h2, _, _⟩ := numS_span hn
    obtain ⟨h3, h4⟩ := takeS_span h1.2.1 h
    subst h4
    exact ⟨h1.trans h3, by have := h3.1; omega⟩
theorem idS_span {bs l : List UInt8} {a a' : Nat} (ha : a ≤ bs.length) (h : idS bs (.ok a) = (l, .ok a')) : Spans bs a a' l ∧ a < a' ∧ l.length = 32 := by
  have hq : idS bs (.ok a) = (fill32 (takeS bs 32 a (.ok a)).1, (takeS bs 32 a (.ok a)).2) := rfl
  rw [hq] at h
  generalize ht : takeS bs 32 a (.ok a) = q at h
  obtain ⟨cs, s'⟩ := q
  simp only [Prod.mk.injEq] at h
  obtain ⟨rfl, rfl⟩ := h
  obtain ⟨h1, h2⟩ := takeS_span ha ht
  rw [fill32, if_pos h2]
  refine ⟨h1, ?_, h2⟩
  have := h1.2.2
  have h3 : cs.length ≤ a' - a := by rw [← this, List.length_take]; omega
  omega
def encI (z : Int) : List UInt8 := enc z.toNat
theorem num_read {bs rest : List UInt8} {a n : Nat} (h : bs.drop a = enc n ++ rest) (hn : n < 9223372036854775808) {most : Int} (above : Nat) (hm : (n : Int) ≤ most) : numS bs most above (.ok a) = (n, .ok (a + encSize n)) := by
  have h0 : numS0 bs a = (n, .ok (a + encSize n)) := by
    unfold numS0
    rw [h, dec_enc n hn]; simp
  show limS a most above (numS0 bs a) = _
  rw [h0]
  exact if_neg (by omega)
theorem take_read {bs cs rest : List UInt8} {a : Nat} (begin : Nat) (h : bs.drop a = cs ++ rest) : takeS bs cs.length begin (.ok a) = (cs, .ok (a + cs.length)) := by
  have hl : bs.length - a = cs.length + rest.length := by rw [← List.length_drop, h, List.length_append]
  show (if bs.length - a < cs.length then _ else _) = _
  rw [if_neg (by omega), h, List.take_append_of_le_length (Nat.le_refl _), List.take_length]
theorem drop_more {bs x y : List UInt8} {a : Nat} (h : bs.drop a = x ++ y) : bs.drop (a + x.length) = y := by
  rw [← List.drop_drop, h, List.drop_left]
/-- a description's bytes -/
def descB (d : DD) : List UInt8 := encI d.m ++ (d.id ++ (encI d.s ++ (enc d.p.length ++ d.p)))
def listB (ds : List DD) : List UInt8 := enc ds.length ++ ds.flatMap descB
def bodyB (m : MM) : List UInt8 := if m.k = 4 then listB m.u else descB m.c ++ listB m.l
def manBytes (m : MM) : List UInt8 := enc 77 ++ (encI m.k ++ (enc m.t.length ++ (m.t ++ bodyB m)))
theorem numS_bad (bs : List UInt8) (most : Int) (above e p : Nat) : numS bs most above (.bad e p) = (0, .bad e p) := rfl
theorem dscR_bad (bs : List UInt8) (e p : Nat) : (dscR bs (.bad e p)).2 = .bad e p := rfl
theorem sizedS_bad (bs : List UInt8) (most : Int) (e p : Nat) : (sizedS bs most (.bad e p)).2 = .bad e p := rfl
theorem dscN_bad (bs : List UInt8) (n e p : Nat) : (dscN bs n (.bad e p)).2 = .bad e p := by
  induction n with
  | zero => rfl
  | succ n ih => simp only [dscN]; rw [ih]; rfl
/-- a description that is read, and nothing was wrong -/
theorem dscR_span {bs : List UInt8} {a a' : Nat} {d : DD} (h : dscR bs (.ok a) = (d, .ok a')) : Spans bs a a' (descB d) ∧ 0 ≤ d.m ∧ 0 ≤ d.s ∧ DOK d := by
  unfold dscR at h
  generalize hq1 : numS bs maxI 0 (.ok a) = q1 at h
  obtain ⟨n1, s1⟩ := q1
  dsimp only at h
  generalize hq2 : idS bs s1 = q2 at h
  obtain ⟨l, s2⟩ := q2
  dsimp only at h
  generalize hq3 : numS bs maxI 0 s2 = q3 at h
  obtain ⟨n3, s3⟩ := q3
  dsimp only at h
  generalize hq4 : sizedS bs 4096 s3 = q4 at h
  obtain ⟨cs, s4⟩ := q4
  dsimp only at h
  simp only [Prod.mk.injEq] at h
  obtain ⟨rfl, rfl⟩ := h
  cases s3 with
  | bad e p => have := sizedS_bad bs 4096 e p; rw [hq4] at this; cases this
  | ok a3 =>
    cases s2 with
    | bad e p => rw [numS_bad] at hq3; cases hq3
    | ok a2 =>
      cases s1 with
      | bad e p =>
        have : (idS bs (.bad e p)).2 = .bad e p := rfl
        rw [hq2] at this; cases this
      | ok a1 =>
        obtain ⟨h1, h2, h3, -⟩ := numS_span hq1
        obtain ⟨h4, h5, h6⟩ := idS_span h1.2.1 hq2
        obtain ⟨h7, h8, h9, -⟩ := numS_span hq3
        obtain ⟨h10, h11⟩ := sizedS_span hq4
        have hlen : cs.length ≤ 549755813888 := by
          have := hq4
          have hq : sizedS bs 4096 (.ok a3) = takeS bs (numS bs 4096 4 (.ok a3)).1 a3 (numS bs 4096 4 (.ok a3)).2 := rfl
          rw [hq] at this
          generalize hn : numS bs 4096 4 (.ok a3) = qn at this
          obtain ⟨nn, ss⟩ := qn
          cases ss with
          | bad e p => simp [takeS] at this
          | ok a5 =>
            obtain ⟨g1, -, -, g4⟩ := numS_span hn
            obtain ⟨-, g5⟩ := takeS_span g1.2.1 this
            omega
        exact ⟨h1.trans (h4.trans (h7.trans h10)), by show (0 : Int) ≤ (n1 : Int); omega, by show (0 : Int) ≤ (n3 : Int); omega, h6, by unfold lt63; show (n1 : Int) < _; omega, by unfold lt63; show (n3 : Int) < _; omega, hlen⟩
theorem Spans.self {bs : List UInt8} {a : Nat} (h : a ≤ bs.length) : Spans bs a a [] := ⟨Nat.le_refl _, h, by simp⟩
theorem dscN_span {bs : List UInt8} {a : Nat} (ha : a ≤ bs.length) : ∀ (n : Nat) {a' : Nat} {ds : List DD}, dscN bs n (.ok a) = (ds, .ok a') → Spans bs a a' (ds.flatMap descB) ∧ ds.length = n ∧ ∀ d ∈ ds, 0 ≤ d.m ∧ 0 ≤ d.s ∧ DOK d
  | 0, a', ds, h => by
    simp only [dscN, Prod.mk.injEq, RS.ok.injEq] at h
    obtain ⟨rfl, rfl⟩ := h
    exact ⟨Spans.self ha, rfl, by simp⟩
  | n + 1, a', ds, h => by
    simp only [dscN] at h
    generalize hq : dscN bs n (.ok a) = q at h
    obtain ⟨ds0, s0⟩ := q
    dsimp only at h
    generalize hd : dscR bs s0 = qd at h
    obtain ⟨d, s1⟩ := qd
    dsimp only at h
    simp only [Prod.mk.injEq] at h
    obtain ⟨rfl, rfl⟩ := h
    cases s0 with
    | bad e p => have := dscR_bad bs e p; rw [hd] at this; cases this
    | ok a0 =>
      obtain ⟨h1, h2, h3⟩ := dscN_span ha n hq
      obtain ⟨h4, h5⟩ := dscR_span hd
      refine ⟨?_, by simp [h2], ?_⟩
      · rw [List.flatMap_append]; simpa using h1.trans h4
      · intro d' hd'
        rcases List.mem_append.1 hd' with hd' | hd'
        · exact h3 d' hd'
        · rw [List.mem_singleton.1 hd']; exact h5
theorem refuse_kept {s : RS} {rf : Nat × Nat} {e p : Nat} (h : rf.1 ≠ 0) : refuseF s rf e p = rf := by
  unfold refuseF readsB
  rw [if_neg (by simp [h])]
theorem refuse_ok {a : Nat} {e p : Nat} : refuseF (.ok a) (0, 0) e p = (e, p) := rfl
theorem refuse_bad {s : RS} {rf : Nat × Nat} {e p : Nat} (h : s.err ≠ 0) : refuseF s rf e p = rf := by
  unfold refuseF readsB
  rw [if_neg (by simp [h])]
/-- several descriptions that are read behind their number, and nothing was wrong -/
theorem lstR_span {bs : List UInt8} {a a' most : Nat} {ds : List DD} {rf' : Nat × Nat} (h : lstR bs (.ok a) (0, 0) most = (ds, .ok a', rf')) (hr : rf'.1 = 0) : Spans bs a a' (listB ds) ∧ ds.length ≤ most ∧ rf' = (0, 0) ∧ ∀ d ∈ ds, 0 ≤ d.m ∧ 0 ≤ d.s ∧ DOK d := by
  unfold lstR at h
  generalize hq1 : numS bs maxI 0 (.ok a) = q1 at h
  obtain ⟨n, s1⟩ := q1
  dsimp only at h
  split at h
  · simp only [Prod.mk.injEq] at h
    obtain ⟨-, rfl, rfl⟩ := h
    rw [refuse_ok] at hr
    cases hr
  · rename_i hn
    simp only [Prod.mk.injEq] at h
    obtain ⟨rfl, h2, rfl⟩ := h
    cases s1 with
    | bad e p => rw [dscN_bad] at h2; cases h2
    | ok a1 =>
      obtain ⟨h1, -, -, -⟩ := numS_span hq1
      obtain ⟨h4, h5, h6⟩ := dscN_span h1.2.1 n (a' := a') (ds := (dscN bs n (.ok a1)).1) (by rw [← h2])
      refine ⟨?_, by omega, rfl, h6⟩
      unfold listB
      rw [h5]
      exact h1.trans h4
end Go.Proofs.Ytljnpaikjljmbaa
