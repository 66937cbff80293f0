/- For QuotaSums: a row of sums beside the links. -/
import Derived.Test.YtjgnbmkhibdcfaaQtLong
namespace Go.Proofs.Ytjgnbmkhibdcfaa
open Go.RowKit

/-- one held block is written -/
theorem Q2.set {w0 w : World} {s n : Nat} {q : QS} {H : List HBlk} {b : Nat} {t : TypeId} {cs : Array Value} (h : Q2 w0 ((b, t, cs) :: H) w s n q) (h0 : w0.heap.size ≤ b) (hd : ∀ p ∈ H, p.1 ≠ b) (i : Nat) (v : Value) : Q2 w0 ((b, t, cs.setIfInBounds i v) :: H) (w.setCell ⟨b, i, none⟩ v) s n q := by
  obtain ⟨F, m, u, g, h1, h2, h3, h4⟩ := h
  have hg := grown_setCell w b i v
  have hc : Chg [b] w (w.setCell ⟨b, i, none⟩ v) := Chg.of_grown hg (fun g e => (by cases e; simp))
  have hb := h4 _ (List.mem_cons_self ..)
  refine ⟨F, m, u, g, h1.chg hc (fun x hx hm => ?_), h2, h3.trans (hc.below (fun x hx => (by rw [List.mem_singleton] at hx; rw [hx]; exact h0)) h3.size), fun p hp => ?_⟩
  · rw [List.mem_singleton] at hm
    rw [hm] at hx
    exact hb.1 hx
  · rcases List.mem_cons.1 hp with rfl | hp
    · exact ⟨hb.1, hb.2.set_ i v⟩
    · have := h4 p (List.mem_cons_of_mem _ hp)
      exact ⟨this.1, this.2.chg hc (fun hm => hd p hp (by simpa using hm))⟩
def nm4 : Nat → List UInt8
  | 0 => [97]
  | 1 => [98]
  | 2 => [99]
  | _ => [100]
theorem nm4_len (j : Nat) : (nm4 j).length = 1 := by rcases j with _ | _ | _ | j <;> rfl
theorem nm4_is (j : Nat) : IsR (nm4 j) true := by
  rcases j with _ | _ | _ | j
  · exact isR_a
  · exact isR_b
  · exact isR_c
  · exact isR_d
theorem nm4_inj {i j : Nat} (hi : i < 4) (hj : j < 4) (h : nm4 i = nm4 j) : i = j := by
  rcases i with _ | _ | _ | _ | i <;> rcases j with _ | _ | _ | _ | j <;> first | rfl | omega | (simp [nm4] at h)
/-- the row of sums -/
def sumsA (l : List (LKey × Int)) : Array Value := #[.int .i64 (sumQ l (nm4 0)), .int .i64 (sumQ l (nm4 1)), .int .i64 (sumQ l (nm4 2)), .int .i64 (sumQ l (nm4 3))]
theorem sumQ_other (l : List (LKey × Int)) (k : LKey) (y : Int) {r : List UInt8} (h : r ≠ k.1) : sumQ (l ++ [(k, y)]) r = sumQ l r := by
  unfold sumQ
  rw [ofQ_other l k y h]
theorem sumsA_app (l : List (LKey × Int)) {j : Nat} (hj : j < 4) (id : List UInt8) (y : Int) : sumsA (l ++ [((nm4 j, id), y)]) = (sumsA l).setIfInBounds j (.int .i64 (sumQ l (nm4 j) + y)) := by
  have h1 : ∀ i, i < 4 → i ≠ j → sumQ (l ++ [((nm4 j, id), y)]) (nm4 i) = sumQ l (nm4 i) := fun i hi hne => sumQ_other l _ y (fun e => hne (nm4_inj hi hj (show nm4 i = nm4 j from e)))
  have h2 : sumQ (l ++ [((nm4 j, id), y)]) (nm4 j) = sumQ l (nm4 j) + y := sumQ_app l (nm4 j, id) y
  unfold sumsA
  rcases j with _ | _ | _ | _ | j
  · rw [h2, h1 1 (by omega) (by omega), h1 2 (by omega) (by omega), h1 3 (by omega) (by omega)]; rfl
  · rw [h2, h1 0 (by omega) (by omega), h1 2 (by omega) (by omega), h1 3 (by omega) (by omega)]; rfl
  · rw [h2, h1 0 (by omega) (by omega), h1 1 (by omega) (by omega), h1 3 (by omega) (by omega)]; rfl
  · rw [h2, h1 0 (by omega) (by omega), h1 1 (by omega) (by omega), h1 2 (by omega) (by omega)]; rfl
  · omega
theorem sumsA_at (l : List (LKey × Int)) {j : Nat} (hj : j < 4) : (sumsA l)[j]? = some (.int .i64 (sumQ l (nm4 j))) := by
  rcases j with _ | _ | _ | _ | j <;> first | rfl | omega
/-- what Link and Lay come to -/
theorem addR_cases (q : QS) (k : LKey) (z : Int) (al : Bool) : (∃ y, addR q k z al = (false, if y = z then 0 else 17) ∧ addS q k z al = q) ∨ (szQ q.l k = none ∧ al = true ∧ addR q k z al = (true, 0) ∧ addS q k z al = { q with l := q.l ++ [(k, z)] }) ∨ (al = false ∧ addR q k z al = (false, 11) ∧ addS q k z al = q) := by
  unfold addR addS
  cases hs : szQ q.l k with
  | some y => exact .inl ⟨y, rfl, rfl⟩
  | none =>
    cases al
    · exact .inr (.inr ⟨rfl, rfl, rfl⟩)
    · exact .inr (.inl ⟨rfl, rfl, rfl, rfl⟩)
theorem ask_nm4 {q : QS} {n : Nat} (j : Nat) {x : List UInt8} {z : Int} (hx : x.length = 32) (hz : 0 ≤ z ∧ z < 101) (hn : n < 60000) (hf : q.l.length < 65536) : Ask q n (nm4 j) x z :=
  ⟨by rw [nm4_len]; omega, hx, nm4_is j, by omega, hn, hf⟩
end Go.Proofs.Ytjgnbmkhibdcfaa
