/- Sectors of lists: what is in one behind writes, flushes and crashes. -/
import Derived.Test.YtiejndkchcljdaaDvLaw
namespace Go.Proofs.Ytiejndkchcljdaa
open Go.RowKit

theorem secAt_get {l : List UInt8} {i j : Nat} (hj : j < 64) : (secAt l i)[j]? = l[i * 64 + j]? := by
  simp only [secAt, List.getElem?_take, List.getElem?_drop]
  rw [if_pos hj]
theorem sec_ext {l m : List UInt8} {n : Nat} (hl : l.length = 64 * n) (hm : m.length = 64 * n) (h : ∀ j, j < n → secAt l j = secAt m j) : l = m := by
  apply List.ext_getElem?
  intro k
  by_cases hk : k < 64 * n
  · have h1 : k / 64 < n := by omega
    have h2 : k % 64 < 64 := Nat.mod_lt _ (by omega)
    have h3 : k / 64 * 64 + k % 64 = k := by omega
    have := congrArg (·[k % 64]?) (h _ h1)
    simpa [secAt_get h2, h3] using this
  · rw [List.getElem?_eq_none (by omega), List.getElem?_eq_none (by omega)]
theorem secPut_same {l b : List UInt8} {i n : Nat} (hl : l.length = 64 * n) (hi : i < n) (hb : b.length = 64) : secAt (secPut l i b) i = b := by
  have h1 : (l.take (i * 64)).length = i * 64 := by simp; omega
  unfold secAt secPut
  rw [List.append_assoc, List.drop_append, h1, Nat.sub_self, List.drop_zero, List.drop_of_length_le (by omega), List.nil_append, List.take_append_of_le_length (by omega), List.take_of_length_le (by omega)]
theorem secPut_other {l b : List UInt8} {i j n : Nat} (hl : l.length = 64 * n) (hi : i < n) (hb : b.length = 64) (_hj : j < n) (hij : j ≠ i) : secAt (secPut l i b) j = secAt l j := by
  have h1 : (l.take (i * 64)).length = i * 64 := by simp; omega
  apply List.ext_getElem?
  intro k
  by_cases hk : k < 64
  · rw [secAt_get hk, secAt_get hk]
    unfold secPut
    rcases Nat.lt_or_ge j i with h | h
    · rw [List.append_assoc, List.getElem?_append_left (by rw [h1]; omega), List.getElem?_take, if_pos (by omega)]
    · rw [List.append_assoc, List.getElem?_append_right (by rw [h1]; omega), List.getElem?_append_right (by rw [h1, hb]; omega), List.getElem?_drop]
      congr 1
      omega
  · rw [List.getElem?_eq_none (by simp [secAt]; omega), List.getElem?_eq_none (by simp [secAt]; omega)]
theorem tear_same {l b : List UInt8} {i n t : Nat} (hl : l.length = 64 * n) (hi : i < n) (hb : b.length = 64) (ht : t ≤ 64) : secAt (tear l i b t) i = b.take t ++ (secAt l i).drop t := by
  have h1 : (l.take (i * 64)).length = i * 64 := by simp; omega
  have h2 : (b.take t).length = t := by simp; omega
  apply List.ext_getElem?
  intro k
  by_cases hk : k < 64
  · rw [secAt_get hk]
    unfold tear
    rw [List.getElem?_append_right (by rw [h1]; omega), h1, Nat.add_sub_cancel_left]
    rcases Nat.lt_or_ge k t with h | h
    · rw [List.getElem?_append_left (by omega), List.getElem?_append_left (by omega)]
    · rw [List.getElem?_append_right (by omega), List.getElem?_append_right (by omega), h2, List.getElem?_drop, List.getElem?_drop, secAt_get (by omega)]
      congr 1; omega
  · rw [List.getElem?_eq_none (by simp [secAt]; omega), List.getElem?_eq_none (by simp [secAt, h2]; omega)]
theorem tear_other {l b : List UInt8} {i j n t : Nat} (hl : l.length = 64 * n) (hi : i < n) (hb : b.length = 64) (ht : t ≤ 64) (_hj : j < n) (hij : j ≠ i) : secAt (tear l i b t) j = secAt l j := by
  have h1 : (l.take (i * 64)).length = i * 64 := by simp; omega
  have h2 : (b.take t).length = t := by simp; omega
  apply List.ext_getElem?
  intro k
  by_cases hk : k < 64
  · rw [secAt_get hk, secAt_get hk]
    unfold tear
    rcases Nat.lt_or_ge j i with h | h
    · rw [List.getElem?_append_left (by rw [h1]; omega), List.getElem?_take, if_pos (by omega)]
    · rw [List.getElem?_append_right (by rw [h1]; omega), List.getElem?_append_right (by rw [h1, h2]; omega), List.getElem?_drop, h1, h2]
      congr 1; omega
  · rw [List.getElem?_eq_none (by simp [secAt]; omega), List.getElem?_eq_none (by simp [secAt]; omega)]
theorem flush_other {ws : List (Nat × List UInt8)} {l : List UInt8} {n j : Nat} (hl : l.length = 64 * n) (h : ∀ x ∈ ws, x.1 < n ∧ x.2.length = 64) (hj : j < n) (hn : ∀ x ∈ ws, x.1 ≠ j) : secAt (flushL l ws) j = secAt l j := by
  induction ws generalizing l with
  | nil => rfl
  | cons x ws ih =>
    have hx := h x (by simp)
    show secAt (flushL (secPut l x.1 x.2) ws) j = _
    rw [ih (secPut_length hl hx.1 hx.2) (fun y hy => h y (by simp [hy])) (fun y hy => hn y (by simp [hy])), secPut_other hl hx.1 hx.2 hj (fun e => hn x (by simp) e.symm)]
theorem back_in {ws : List (Nat × List UInt8)} {img l : List UInt8} {n j : Nat} (hi : img.length = 64 * n) (hl : l.length = 64 * n) (h : ∀ x ∈ ws, x.1 < n) (hj : j < n) :
    secAt (backL img l ws) j = if (∃ x ∈ ws, x.1 = j) then secAt img j else secAt l j := by
  induction ws generalizing l with
  | nil => simp [backL]
  | cons x ws ih =>
    have hx := h x (by simp)
    have hs := secAt_length hi hx
    show secAt (backL img (secPut l x.1 (secAt img x.1)) ws) j = _
    rw [ih (secPut_length hl hx hs) (fun y hy => h y (by simp [hy]))]
    by_cases h1 : ∃ y ∈ ws, y.1 = j
    · rw [if_pos h1, if_pos]
      obtain ⟨y, hy, e⟩ := h1
      exact ⟨y, by simp [hy], e⟩
    · rw [if_neg h1]
      by_cases h2 : x.1 = j
      · subst h2
        rw [secPut_same hl hx hs, if_pos ⟨x, by simp, rfl⟩]
      · rw [secPut_other hl hx hs hj (fun e => h2 e.symm), if_neg]
        rintro ⟨y, hy, e⟩
        rcases List.mem_cons.1 hy with rfl | hy
        · exact h2 e
        · exact h1 ⟨y, hy, e⟩
/-- what a crash lets be read is the image, if all that is read was the image, written over -/
theorem back_flush {ws : List (Nat × List UInt8)} {img l : List UInt8} {n : Nat} (hi : img.length = 64 * n) (hl : l.length = 64 * n) (h : ∀ x ∈ ws, x.1 < n ∧ x.2.length = 64)
    (hu : ∀ j, j < n → (∀ x ∈ ws, x.1 ≠ j) → secAt img j = secAt l j) : backL img (flushL l ws) ws = img := by
  have hf := flushL_length ws hl h
  refine sec_ext (backL_length ws hi hf (fun x hx => (h x hx).1)) hi (fun j hj => ?_)
  rw [back_in hi hf (fun x hx => (h x hx).1) hj]
  by_cases h1 : ∃ x ∈ ws, x.1 = j
  · rw [if_pos h1]
  · rw [if_neg h1, flush_other hl h hj (fun x hx e => h1 ⟨x, hx, e⟩), hu j hj (fun x hx e => h1 ⟨x, hx, e⟩)]
theorem crashP_other {ws : List (Nat × List UInt8)} {img : List UInt8} {n j : Nat} (keep : List Bool) (hl : img.length = 64 * n) (h : ∀ x ∈ ws, x.1 < n ∧ x.2.length = 64) (hj : j < n) (hn : ∀ x ∈ ws, x.1 ≠ j) (k : Nat) (hk : k ≤ ws.length) : secAt (crashP img ws keep k).1 j = secAt img j := by
  induction k with
  | zero => rfl
  | succ k ih =>
    obtain ⟨x, hx⟩ : ∃ x, ws[k]? = some x := ⟨ws[k], List.getElem?_eq_getElem (by omega)⟩
    have hm := List.mem_of_getElem? hx
    rw [crashP_next _ _ _ _ _ hx]
    split
    · rw [secPut_other (crashP_ok keep hl h k (by omega)).1 (h x hm).1 (h x hm).2 hj (fun e => hn x hm e.symm)]
      exact ih (by omega)
    · exact ih (by omega)
theorem crashI_other {ws : List (Nat × List UInt8)} {img : List UInt8} {n j t : Nat} (keep : List Bool) (hl : img.length = 64 * n) (h : ∀ x ∈ ws, x.1 < n ∧ x.2.length = 64) (hj : j < n) (hn : ∀ x ∈ ws, x.1 ≠ j) (ht : t ≤ 64) : secAt (crashI img ws keep t) j = secAt img j := by
  have h1 := crashP_other keep hl h hj hn ws.length (Nat.le_refl _)
  have h2 := (crashP_ok keep hl h ws.length (Nat.le_refl _)).1
  unfold crashI
  split
  · rename_i x hx
    have hm := List.mem_of_getElem? hx
    split
    · rw [tear_other h2 (h x hm).1 (h x hm).2 ht hj (fun e => hn x hm e.symm), h1]
    · exact h1
  · exact h1
/-- what is read is the image, written over -/
def Sane (s : DS) : Prop := s.now = flushL s.img s.loose
theorem broke_sane {s : DS} (h : s.OK) (hs : Sane s) (keep : List Bool) {t : Nat} (ht : t ≤ 64) : (brokeS s keep t).now = (brokeS s keep t).img := by
  show backL (crashI s.img s.loose keep t) s.now s.loose = crashI s.img s.loose keep t
  rw [hs]
  exact back_flush (crashI_length keep h.n2 h.lo ht) h.n2 h.lo (fun j hj hn => crashI_other keep h.n2 h.lo hj hn ht)
/-- one write more does not change what a crash makes of those ahead -/
theorem crashP_more (img : List UInt8) (ws : List (Nat × List UInt8)) (x : Nat × List UInt8) (keep : List Bool) (k : Nat) (hk : k ≤ ws.length) : crashP img (ws ++ [x]) keep k = crashP img ws keep k := by
  induction k with
  | zero => rfl
  | succ k ih =>
    obtain ⟨y, hy⟩ : ∃ y, ws[k]? = some y := ⟨ws[k], List.getElem?_eq_getElem (by omega)⟩
    rw [crashP_next _ _ _ _ _ hy, crashP_next img (ws ++ [x]) keep k y (by rw [List.getElem?_append_left (by omega), hy]), ih (by omega)]
theorem two_put (a b : UInt8) (t : Nat) (ht : t ≤ 64) : (putB a).take t ++ (putB b).drop t = twoB a t b := by
  unfold putB twoB
  rw [List.take_replicate, List.drop_replicate, Nat.min_eq_left ht]
theorem two_zero (a b : UInt8) : putB b = twoB a 0 b := by simp [putB, twoB]
theorem putB_len (b : UInt8) : (putB b).length = 64 := by simp [putB]
end Go.Proofs.Ytiejndkchcljdaa
