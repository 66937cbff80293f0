/- What is read of bytes is written as just these: plain functions. -/
import Derived.Test.YtcpkjpeimnaimaaWrOwnR2
import Derived.Test.YtcpkjpeimnaimaaWrThing
namespace Go.Proofs.Ytcpkjpeimnaimaa
open Go.RowKit

/-- From place a to place a' the bytes l stand. -/
def Spans (bs : List UInt8) (a a' : Nat) (l : List UInt8) : Prop := a ≤ a' ∧ a' ≤ bs.length ∧ (bs.drop a).take (a' - a) = l
theorem Spans.trans {bs l m : List UInt8} {a b c : Nat} (h : Spans bs a b l) (k : Spans bs b c m) : Spans bs a c (l ++ m) := by
  obtain ⟨h1, h2, h3⟩ := h
  obtain ⟨k1, k2, k3⟩ := k
  refine ⟨by omega, k2, ?_⟩
  rw [← h3, ← k3, show c - a = (b - a) + (c - b) by omega, List.take_add, List.drop_drop, show a + (b - a) = b by omega]
theorem numS_span {bs : List UInt8} {most : Int} {above a a' n : Nat} (h : numS bs most above (.ok a) = (n, .ok a')) : Spans bs a a' (enc n) ∧ a < a' ∧ n < 9223372036854775808 ∧ (n : Int) ≤ most := by
  have hns : numS bs most above (.ok a) = limS a most above (numS0 bs a) := rfl
  rw [hns] at h
  generalize hq : numS0 bs a = q at h
  obtain ⟨n', s'⟩ := q
  cases s' with
  | bad e p => simp [limS] at h
  | ok a2 =>
    by_cases hm : most < (n' : Int)
    · rw [show limS a most above (n', .ok a2) = (0, .bad above a) from if_pos hm] at h; simp at h
    · rw [show limS a most above (n', .ok a2) = (n', .ok a2) from if_neg hm] at h
      simp only [Prod.mk.injEq, RS.ok.injEq] at h
      obtain ⟨rfl, rfl⟩ := h
      unfold numS0 at hq
      split at hq
      · rename_i h0
        have hd := enc_dec (bs.drop a) (n := (decN (bs.drop a)).1) (s := (decN (bs.drop a)).2.1) (by rw [← h0])
        simp only [Prod.mk.injEq, RS.ok.injEq] at hq
        obtain ⟨rfl, rfl⟩ := hq
        obtain ⟨h1, h2, h3, h4, h5⟩ := hd
        rw [List.length_drop] at h2
        exact ⟨⟨by omega, by omega, by rw [Nat.add_sub_cancel_left]; exact h4.symm⟩, by omega, h3, by omega⟩
      · simp at hq
theorem takeS_span {bs cs : List UInt8} {n begin a a' : Nat} (ha : a ≤ bs.length) (h : takeS bs n begin (.ok a) = (cs, .ok a')) : Spans bs a a' cs ∧ cs.length = n := by
  by_cases hm : bs.length - a < n
  · rw [show takeS bs n begin (.ok a) = ([], .bad 6 begin) from if_pos hm] at h; simp at h
  · rw [show takeS bs n begin (.ok a) = ((bs.drop a).take n, .ok (a + n)) from if_neg hm] at h
    simp only [Prod.mk.injEq, RS.ok.injEq] at h
    obtain ⟨rfl, rfl⟩ := h
    exact ⟨⟨by omega, by omega, by rw [Nat.add_sub_cancel_left]⟩, by rw [List.length_take, List.length_drop]; omega⟩
theorem numI_nat (n : Nat) : numI (n : Int) = some (enc n) := by unfold numI; rw [if_neg (by omega), Int.toNat_natCast]
theorem sizedS_span {bs cs : List UInt8} {most : Int} {a a' : Nat} (h : sizedS bs most (.ok a) = (cs, .ok a')) : Spans bs a a' (enc cs.length ++ cs) ∧ a < a' := by
  have hq : sizedS bs most (.ok a) = takeS bs (numS bs most 4 (.ok a)).1 a (numS bs most 4 (.ok a)).2 := rfl
  rw [hq] at h
  generalize hn : numS bs most 4 (.ok a) = q at h
  obtain ⟨n, s'⟩ := q
  cases s' with
  | bad e p => simp [takeS] at h
  | ok a1 =>
    obtain ⟨h1, h2, _, _⟩ := numS_span hn
    obtain ⟨h3, h4⟩ := takeS_span h1.2.1 h
    subst h4
    exact ⟨h1.trans h3, by have := h3.1; omega⟩
theorem idS_span {bs l : List UInt8} {a a' : Nat} (ha : a ≤ bs.length) (h : idS bs (.ok a) = (l, .ok a')) : Spans bs a a' l ∧ a < a' ∧ l.length = 32 := by
  have hq : idS bs (.ok a) = (fill32 (takeS bs 32 a (.ok a)).1, (takeS bs 32 a (.ok a)).2) := rfl
  rw [hq] at h
  generalize ht : takeS bs 32 a (.ok a) = q at h
  obtain ⟨cs, s'⟩ := q
  simp only [Prod.mk.injEq] at h
  obtain ⟨rfl, rfl⟩ := h
  obtain ⟨h1, h2⟩ := takeS_span ha ht
  rw [fill32, if_pos h2]
  refine ⟨h1, ?_, h2⟩
  have := h1.2.2
  have h3 : cs.length ≤ a' - a := by rw [← this, List.length_take]; omega
  omega
theorem dotS_span {bs : List UInt8} {x y a a' : Nat} (h : dotS bs (.ok a) = ((x, y), .ok a')) : Spans bs a a' (enc x ++ enc y) ∧ a < a' ∧ x < 9223372036854775808 ∧ y < 9223372036854775808 := by
  unfold dotS at h
  generalize hq1 : numS bs maxI 0 (.ok a) = q1 at h
  obtain ⟨n1, s1⟩ := q1
  simp only at h
  generalize hq2 : numS bs maxI 0 s1 = q2 at h
  obtain ⟨n2, s2⟩ := q2
  simp only [Prod.mk.injEq] at h
  obtain ⟨h1, rfl⟩ := h
  rw [if_pos (show (RS.ok a').err = 0 from rfl)] at h1
  simp only [Prod.mk.injEq] at h1
  obtain ⟨rfl, rfl⟩ := h1
  cases s1 with
  | bad e p => simp [numS] at hq2
  | ok a1 =>
    obtain ⟨h1, h2, h3, _⟩ := numS_span hq1
    obtain ⟨h4, h5, h6, _⟩ := numS_span hq2
    exact ⟨h1.trans h4, by omega, h3, h6⟩
def encI (z : Int) : List UInt8 := enc z.toNat
theorem vecLoop_span {bs : List UInt8} (n : Nat) : ∀ {acc zs : List Int} {a a' : Nat}, a ≤ bs.length → vecLoop bs n acc (.ok a) = (zs, .ok a') → ∃ zs', zs = acc ++ zs' ∧ zs'.length = n ∧ Spans bs a a' (zs'.flatMap encI) ∧ ∀ z ∈ zs', 0 ≤ z ∧ z < 9223372036854775808 := by
  induction n with
  | zero =>
    intro acc zs a a' ha h
    simp only [vecLoop, Prod.mk.injEq, RS.ok.injEq] at h
    obtain ⟨rfl, rfl⟩ := h
    exact ⟨[], by simp, rfl, ⟨Nat.le_refl _, ha, by simp⟩, by simp⟩
  | succ n ih =>
    intro acc zs a a' ha h
    simp only [vecLoop] at h
    generalize hq : numS bs maxI 0 (.ok a) = q at h
    obtain ⟨n1, s1⟩ := q
    simp only at h
    by_cases he : s1.err = 0
    · rw [if_pos he] at h
      cases s1 with
      | bad e p =>
        have hg := numS_good bs maxI 0 (.ok a) (.inr (by simp [maxI])) ha
        rw [hq] at hg
        exact absurd he hg.1
      | ok a1 =>
        obtain ⟨h1, h2, h3, _⟩ := numS_span hq
        obtain ⟨zs', e1, e2, e3, e4⟩ := ih h1.2.1 h
        refine ⟨(n1 : Int) :: zs', by rw [e1]; simp, by simp [e2], ?_, ?_⟩
        · rw [List.flatMap_cons]
          exact h1.trans e3
        · intro z hz
          rcases List.mem_cons.1 hz with rfl | hz
          · omega
          · exact e4 z hz
    · rw [if_neg he] at h
      simp only [Prod.mk.injEq] at h
      rw [h.2] at he
      exact absurd rfl he
theorem vecS_span {bs : List UInt8} {most : Int} {zs : List Int} {a a' : Nat} (h : vecS bs most (.ok a) = (zs, .ok a')) : Spans bs a a' (enc zs.length ++ zs.flatMap encI) ∧ a < a' ∧ (∀ z ∈ zs, 0 ≤ z ∧ z < 9223372036854775808) ∧ (zs.length : Int) ≤ most := by
  have hq : vecS bs most (.ok a) = vecLoop bs (numS bs most 4 (.ok a)).1 [] (numS bs most 4 (.ok a)).2 := rfl
  rw [hq] at h
  generalize hn : numS bs most 4 (.ok a) = q at h
  obtain ⟨n, s'⟩ := q
  simp only at h
  cases s' with
  | bad e p =>
    exfalso
    have hg : n = 0 := by
      have := numS_zero bs most 4 (.ok a)
      rw [hn] at this
      have hgd := numS_good bs most 4 (.ok a) (.inl (by omega))
      rcases this with hh | hh
      · cases n with
        | zero => rfl
        | succ n =>
          have : numS bs most 4 (.ok a) = limS a most 4 (numS0 bs a) := rfl
          rw [this] at hn
          generalize numS0 bs a = q0 at hn
          obtain ⟨n0, s0⟩ := q0
          cases s0 with
          | bad e0 p0 => simp [limS] at hn
          | ok a0 =>
            by_cases hm : most < (n0 : Int)
            · rw [show limS a most 4 (n0, .ok a0) = (0, .bad 4 a) from if_pos hm] at hn; simp at hn
            · rw [show limS a most 4 (n0, .ok a0) = (n0, .ok a0) from if_neg hm] at hn; simp at hn
      · exact hh
    subst hg
    simp [vecLoop] at h
  | ok a1 =>
    obtain ⟨h1, h2, _, h5⟩ := numS_span hn
    obtain ⟨zs', e1, e2, e3, e4⟩ := vecLoop_span n h1.2.1 h
    rw [List.nil_append] at e1
    subst e1 e2
    exact ⟨h1.trans e3, by have := e3.1; omega, e4, h5⟩
theorem flat_nums (zs : List Int) (h : ∀ z ∈ zs, 0 ≤ z) : flat (zs.map numI) = zs.flatMap encI ∧ anyNeg (zs.map numI) = false := by
  induction zs with
  | nil => exact ⟨rfl, rfl⟩
  | cons z zs ih =>
    obtain ⟨h1, h2⟩ := ih (fun x hx => h x (List.mem_cons_of_mem _ hx))
    have hz := h z (List.mem_cons_self ..)
    have hn : numI z = some (enc z.toNat) := by unfold numI; rw [if_neg (by omega)]
    refine ⟨?_, ?_⟩
    · rw [List.map_cons, List.flatMap_cons, ← h1, hn]
      simp [flat, encI]
    · rw [List.map_cons, hn]
      simpa [anyNeg] using h2
/-- a thing that was read is written as the bytes it was read of -/
def Reads (bs : List UInt8) (a : Nat) (l : List Item) (s' : RS) : Prop := ∀ a', s' = .ok a' → anyNeg l = false ∧ Spans bs a a' (flat l) ∧ a < a'
theorem putW_reads {bs : List UInt8} {a a' lim : Nat} {l : List Item} (ha : a ≤ bs.length) (h : Reads bs a l (.ok a')) (hl : bs.length ≤ lim) : putW lim ⟨bs.take a, 0⟩ l = ⟨bs.take a', 0⟩ := by
  obtain ⟨h1, ⟨h2, h3, h4⟩, h5⟩ := h a' rfl
  have hfl : (flat l).length = a' - a := by rw [← h4, List.length_take, List.length_drop]; omega
  have htk : (bs.take a).length = a := by rw [List.length_take]; omega
  unfold putW
  rw [if_neg (by simp), if_neg (by simp [h1])]
  rw [if_neg (by show ¬ lim < (bs.take a).length + (flat l).length; omega)]
  show (⟨bs.take a ++ flat l, 0⟩ : WS) = _
  rw [← h4]
  congr 1
  have : a' = a + (a' - a) := by omega
  conv => rhs; rw [this, List.take_add]
end Go.Proofs.Ytcpkjpeimnaimaa
