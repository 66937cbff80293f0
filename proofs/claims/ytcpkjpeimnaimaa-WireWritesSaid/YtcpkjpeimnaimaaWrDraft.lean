/- Contracts: a draft: fits, number, raw, truth, err. -/
import Derived.Test.YtcpkjpeimnaimaaWrApp
namespace Go.Proofs.Ytcpkjpeimnaimaa
open Go.RowKit

/-- what a draft has: bytes, whether a number was negative, whether it is too long -/
structure DS where
  bs : List UInt8
  neg : Bool
  lng : Bool
def fitsM (lim : Nat) (s : DS) (n : Nat) : DS := { s with lng := s.lng || decide (lim < n + s.bs.length) }
def putM (lim : Nat) (s : DS) (cs : List UInt8) : DS := if (fitsM lim s cs.length).lng then fitsM lim s cs.length else { fitsM lim s cs.length with bs := s.bs ++ cs }
def numM (lim : Nat) (s : DS) (n : Int) : DS := if n < 0 then { s with neg := true } else putM lim s (enc n.toNat)
/-- Block d is a draft. -/
def DrB (w : World) (base d : Nat) (r : Option Nat) (lim : Nat) (s : DS) : Prop :=
  ∃ v, Blk w d 95 #[v, .int .i64 (lim : Int), .bool s.neg, .bool s.lng] ∧ Own w base 5 v s.bs.length s.bs ∧ v.ownBlock = r ∧ r ≠ some d ∧ s.bs.length ≤ lim ∧ lim ≤ 67108864 ∧ base ≤ d
/-- the blocks of a draft -/
def fp (d : Nat) : Option Nat → List Nat
  | none => [d]
  | some g => [d, g]
theorem fp_head (d : Nat) (r : Option Nat) : d ∈ fp d r := by cases r <;> simp [fp]
theorem fp_row {d g : Nat} {r : Option Nat} (h : r = some g) : g ∈ fp d r := by subst h; simp [fp]
theorem mem_fp {d b : Nat} {r : Option Nat} : b ∈ fp d r ↔ b = d ∨ r = some b := by
  cases r <;> simp [fp, eq_comm]
theorem fp_moved {d B : Nat} {r r' : Option Nat} (h : Moved B r r') : ∀ b ∈ fp d r', b ∈ fp d r ∨ B ≤ b := by
  intro b hb
  rw [mem_fp] at hb ⊢
  rcases hb with hb | hb
  · exact .inl (.inl hb)
  · rcases h with rfl | ⟨g, rfl, hg⟩
    · exact .inl (.inr hb)
    · cases hb; exact .inr hg
theorem chg_set {w : World} {d : Nat} {L : List Nat} (hd : d ∈ L) (i : Nat) (u : Value) : Chg L w (w.setCell ⟨d, i, none⟩ u) := Chg.of_grown (grown_setCell w d i u) (fun g e => by cases e; exact hd)

theorem DrB.lt {w : World} {base d : Nat} {r : Option Nat} {lim : Nat} {s : DS} (h : DrB w base d r lim s) : d < w.heap.size := by
  obtain ⟨v, hb, _⟩ := h; exact hb.lt
theorem DrB.drew {w : World} {base d : Nat} {r : Option Nat} {lim : Nat} {s : DS} (h : DrB w base d r lim s) : DrB w.drew base d r lim s := h
theorem DrB.set {w : World} {base d : Nat} {r : Option Nat} {lim : Nat} {s : DS} (h : DrB w base d r lim s) (i : Nat) (u : Value) (s' : DS) (hbs : s'.bs = s.bs)
    (hc : ∀ v, (#[v, .int .i64 (lim : Int), .bool s.neg, .bool s.lng] : Array Value).setIfInBounds i u = #[v, .int .i64 (lim : Int), .bool s'.neg, .bool s'.lng]) : DrB (w.setCell ⟨d, i, none⟩ u) base d r lim s' := by
  obtain ⟨v, hb, ho, hr, hne, hl, hlim, hbd⟩ := h
  refine ⟨v, hc v ▸ hb.set_ i u, ?_, hr, hne, by rw [hbs]; exact hl, hlim, hbd⟩
  rw [hbs]
  exact ho.kept (grown_setCell w d i u) (.inr (by rw [hr]; exact hne))
theorem DrB.setB {w : World} {base d : Nat} {r' : Option Nat} {lim : Nat} {s : DS} {v v' : Value} (hb : Blk w d 95 #[v, .int .i64 (lim : Int), .bool s.neg, .bool s.lng]) (s' : DS) (hbs : s'.neg = s.neg) (hbl : s'.lng = s.lng)
    (ho : Own w base 5 v' s'.bs.length s'.bs) (hr : v'.ownBlock = r') (hne : r' ≠ some d) (hl : s'.bs.length ≤ lim) (hlim : lim ≤ 67108864) (hbd : base ≤ d) : DrB (w.setCell ⟨d, 0, none⟩ v') base d r' lim s' := by
  refine ⟨v', ?_, ho.kept (grown_setCell w d 0 v') (.inr (by rw [hr]; exact hne)), hr, hne, hl, hlim, hbd⟩
  rw [hbs, hbl]
  exact hb.set_ 0 v'

set_option maxHeartbeats 1000000 in
theorem fits_calls (base d : Nat) (r : Option Nat) (lim : Nat) (s : DS) (n : Nat) (w : World) (h : DrB w base d r lim s) :
    Calls Try.prog 80 #[.pointer (some ⟨d, 0, none⟩), .int .i64 (n : Int)] w fun e w' => e = .returned (.bool (!(fitsM lim s n).lng)) ∧ DrB w' base d r lim (fitsM lim s n) ∧ Chg [d] w w' := by
  have key : ∀ b : Bool, (fitsM lim s n).lng = b → DrB (w.setCell ⟨d, 3, none⟩ (.bool b)) base d r lim (fitsM lim s n) ∧ Chg [d] w (w.setCell ⟨d, 3, none⟩ (.bool b)) := fun b hb => ⟨h.set 3 _ _ rfl (fun v => by rw [hb]; rfl), chg_set (by simp) _ _⟩
  have HK := hid key; clear key
  obtain ⟨v, hb, ho, hr, hne, hl, hlim, hbd⟩ := h
  obtain ⟨A, c, rfl, hc, -, -⟩ := ho.sb
  have c0 := hb.cell 0 rfl
  have c1 := hb.cell 1 rfl
  have c3 := hb.cell 3 rfl
  have f3 := hb.frozen 3
  clear hb ho
  cases hs : s.lng
  · have e : (fitsM lim s n).lng = decide ((lim : Int) - (s.bs.length : Int) < (n : Int)) := by
      simp only [fitsM, hs, Bool.false_or, decide_eq_decide]; omega
    have HK := HK.out _ e
    have HK := hid HK
    rw [hs] at c3
    generalize (fitsM lim s n) = s' at e HK ⊢
    have He := hid e
    clear e
    generalize s.bs.length = m at *
    go_enter Try.func80, Try.ntmps80
    go_wp2_with fail
    go_region
    go_wp2_with fail
    go_ret
    exact ⟨by rw [He.out]; rfl, HK.out.1.drew, HK.out.2.drew⟩
  · have e : (fitsM lim s n).lng = true := by simp [fitsM, hs]
    have HK := HK.out true e
    have HK := hid HK
    rw [hs] at c3
    generalize (fitsM lim s n) = s' at e HK ⊢
    generalize s.bs.length = m at *
    go_enter Try.func80, Try.ntmps80
    go_wp2_with fail
    go_region
    go_wp2_with fail
    go_ret
    exact ⟨by rw [e]; rfl, HK.out.1.drew, HK.out.2.drew⟩
theorem fits_len {lim n : Nat} {s : DS} (h : (fitsM lim s n).lng = false) : n + s.bs.length ≤ lim := by
  simp [fitsM] at h; omega
theorem fits_bs (lim n : Nat) (s : DS) : (fitsM lim s n).bs = s.bs := rfl
/-- what an operation on a draft leaves -/
def DrPost (w : World) (base d : Nat) (r : Option Nat) (lim : Nat) (s' : DS) (e : Ending) (w' : World) : Prop :=
  e = .returned (.tuple #[]) ∧ ∃ r', DrB w' base d r' lim s' ∧ Chg (fp d r) w w' ∧ Moved w.heap.size r r'
theorem num_calls (base d : Nat) (r : Option Nat) (lim : Nat) (s : DS) (n : Int) (hn : n < 9223372036854775808) (w : World) (h : DrB w base d r lim s) :
    Calls Try.prog 75 #[.pointer (some ⟨d, 0, none⟩), .int .i64 n] w (DrPost w base d r lim (numM lim s n)) := by
  by_cases h0 : n < 0
  · have key : DrPost w base d r lim (numM lim s n) (.returned (.tuple #[])) (w.setCell ⟨d, 2, none⟩ (.bool true)) := by
      refine ⟨rfl, r, h.set 2 _ _ ?_ (fun v => ?_), chg_set (fp_head d r) _ _, Moved.refl _ _⟩
      · rw [numM, if_pos h0]
      · rw [numM, if_pos h0]; rfl
    have HK := hid key; clear key
    obtain ⟨v, hb, ho, hr, hne, hl, hlim, hbd⟩ := h
    have c2 := hb.cell 2 rfl
    have f2 := hb.frozen 2
    clear hb ho
    generalize numM lim s n = s' at HK ⊢
    go_enter Try.func75, Try.ntmps75
    go_wp2_with fail
    go_end0
    exact HK.out
  · obtain ⟨N, rfl⟩ : ∃ N : Nat, n = (N : Int) := ⟨n.toNat, by omega⟩
    have hn' : N < 9223372036854775808 := by omega
    have he := encSize_le (n := N) (by omega)
    have hEL := hid (enc_length N)
    have HH := hid h
    have hp0 : numM lim s (N : Int) = putM lim s (enc N) := by rw [numM, if_neg h0, Int.toNat_natCast]
    generalize numM lim s (N : Int) = s' at hp0 ⊢
    have HP := hid hp0
    clear h hp0
    go_enter Try.func75, Try.ntmps75
    go_wp2_with fail
    refine (size_calls N w hn').mono ?_
    rintro _ _ ⟨rfl, rfl⟩
    go_wp2_with fail
    refine (fits_calls base d r lim s (encSize N) w HH.out).mono ?_
    rintro _ w1 ⟨rfl, h1, k1⟩
    cases hq : (fitsM lim s (encSize N)).lng
    · have HP2 := hid (show putM lim s (enc N) = { fitsM lim s (encSize N) with bs := s.bs ++ enc N } by rw [putM, hEL.out, hq]; rfl)
      have hfl := fits_len hq
      obtain ⟨v, hb, ho, hr, hne, hl, hlim, hbd⟩ := h1
      have c0 := hb.cell 0 rfl
      have HO := hid ho; have HB := hid hb; have K1 := hid k1; have HR := hid hr; have HNE := hid hne
      have lb := hb.lt
      clear hb ho k1 hr hne hq HH
      go_wp2_with fail
      rw [fits_bs] at HO hl
      refine (append_calls N hn' base s.bs.length v s.bs w1 HO.out (by omega) (by omega)).mono ?_
      rintro _ w2 ⟨v2, rfl, o2, g2, m2⟩
      obtain ⟨A2, cc2, rfl, -, -, -⟩ := o2.sb
      have hb2 := HB.out.grown g2 (by rw [HR.out]; exact HNE.out)
      have c2 := hb2.cell 0 rfl
      have f2 := hb2.frozen 0
      have hvr := HR.out
      have key : DrPost w base d r lim s' (.returned (.tuple #[])) (w2.setCell ⟨d, 0, none⟩ (.slice A2 (s.bs.length + encSize N) cc2)) := by
        rw [HP.out, HP2.out]
        rw [hvr] at g2 m2
        refine ⟨rfl, _, DrB.setB hb2 _ rfl rfl ?_ rfl ?_ ?_ hlim hbd, ?_, ?_⟩
        · show Own w2 base _ _ (s.bs ++ enc N).length (s.bs ++ enc N)
          rw [List.length_append, hEL.out]; exact o2
        · rcases m2 with m2 | ⟨g, m2, hg⟩
          · rw [m2]; exact HNE.out
          · rw [m2]; intro e; cases e; omega
        · show (s.bs ++ enc N).length ≤ lim
          rw [List.length_append, hEL.out]; omega
        · refine (K1.out.more (fun b hb => .inl (by rw [mem_fp]; simp at hb; exact .inl hb))).trans ((Chg.of_grown (L := fp d r) g2 (fun g e => fp_row e)).trans (chg_set (fp_head d r) 0 _) (fun b hb => .inl hb)) (fun b hb => .inl hb)
        · exact (Moved.refl w.heap.size r).trans m2 K1.out.size
      have HK := hid key
      clear key hb2 o2 g2 m2 c0 hvr hfl he h0
      go_wp2_with fail
      go_end0
      exact HK.out
    · have key : DrPost w base d r lim s' (.returned (.tuple #[])) w1 := by
        have hp : s' = fitsM lim s (encSize N) := by rw [HP.out, putM, hEL.out, hq]; rfl
        rw [hp]
        exact ⟨rfl, r, h1, k1.more (fun b hb => .inl (by rw [mem_fp]; simp at hb; exact .inl hb)), Moved.refl _ _⟩
      have HK := hid key
      clear key h1 k1 hq HH
      go_wp2_with fail
      go_end0
      exact HK.out
end Go.Proofs.Ytcpkjpeimnaimaa
