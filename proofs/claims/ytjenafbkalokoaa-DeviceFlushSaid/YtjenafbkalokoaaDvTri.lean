/- Three devices beside a row of the law's own; what holds of them in DeviceFlush's loop. -/
import Derived.Test.YtjenafbkalokoaaDvRow
namespace Go.Proofs.Ytjenafbkalokoaa
open Go.RowKit

theorem keptAt_all (n k : Nat) (h : k < n) : keptAt (List.replicate n true) k = true := by simp [keptAt, h]
theorem crashP_all (img : List UInt8) (ws : List (Nat × List UInt8)) (k : Nat) (h : k ≤ ws.length) : crashP img ws (List.replicate ws.length true) k = (flushL img (ws.take k), -1) := by
  induction k with
  | zero => rfl
  | succ k ih =>
    obtain ⟨x, hx⟩ : ∃ x, ws[k]? = some x := ⟨ws[k], List.getElem?_eq_getElem (by omega)⟩
    rw [crashP_next _ _ _ _ _ hx, if_pos (keptAt_all _ _ (by omega)), ih (by omega), flushL_next _ _ _ _ hx]
theorem crashI_all (img : List UInt8) (ws : List (Nat × List UInt8)) (t : Nat) : crashI img ws (List.replicate ws.length true) t = flushL img ws := by
  have h := crashP_all img ws ws.length (Nat.le_refl _)
  rw [crashI_neg (by rw [h]; simp), h, List.take_length]
theorem tear_none (l b : List UInt8) (i : Nat) : tear l i b 0 = l := by simp [tear]
theorem crashP_none (img : List UInt8) (ws : List (Nat × List UInt8)) (k : Nat) (h : k ≤ ws.length) : (crashP img ws [] k).1 = img := by
  induction k with
  | zero => rfl
  | succ k ih =>
    obtain ⟨x, hx⟩ : ∃ x, ws[k]? = some x := ⟨ws[k], List.getElem?_eq_getElem (by omega)⟩
    rw [crashP_next _ _ _ _ _ hx, if_neg (by simp [keptAt])]
    exact ih (by omega)
theorem crashI_none (img : List UInt8) (ws : List (Nat × List UInt8)) : crashI img ws [] 0 = img := by
  have h := crashP_none img ws ws.length (Nat.le_refl _)
  unfold crashI
  split
  · split
    · rw [tear_none, h]
    · exact h
  · exact h
structure QA (k : Nat) (s : DS) : Prop where
  ok : s.OK
  n : s.n = 6
  plain : Plain s
  len : s.loose.length = k
  img : s.img = noB 6
theorem qa_start : QA 0 (startS 6) := ⟨start_ok 6 (by omega), rfl, ⟨rfl, rfl⟩, rfl, rfl⟩
theorem qa_next {k : Nat} {s : DS} (h : QA k s) {i : Nat} (hi : i < 6) (b : UInt8) : QA (k + 1) (writeS s i (putB b)) ∧ writeE s i 64 = 0 := by
  have hn : i < s.n := by rw [h.n]; exact hi
  obtain ⟨e1, e2⟩ := write_plain h.plain hn (putB_len b)
  refine ⟨?_, e2⟩
  rw [e1]
  exact ⟨put_ok h.ok hn (putB_len b), h.n, h.plain, by simp [putS, h.len], h.img⟩
/-- a crash that keeps all is a flush -/
theorem qa_end {k : Nat} {s : DS} (h : QA k s) (i : Nat) (hi : i < 6) : flushE s = 0 ∧ imageE (flushD s) i = 0 ∧ imageE (crashD s (List.replicate k true) 0) i = 0 ∧ imageB (crashD s (List.replicate k true) 0) i = imageB (flushD s) i := by
  obtain ⟨e1, e2⟩ := flush_plain h.plain
  have hin : hasB s.n (i : Int) = true := has_plain (by rw [h.n]; exact hi)
  have e : crashD s (List.replicate k true) 0 = { brokeS s (List.replicate k true) 0 with fuse := none, out := false } := by unfold crashD; rw [if_pos ⟨by omega, by omega⟩]; rfl
  rw [e1, e]
  refine ⟨e2, if_pos hin, if_pos hin, ?_⟩
  unfold imageB
  refine (if_pos hin).trans ((?_ : _ = _).trans (if_pos hin).symm)
  show secAt (crashI s.img s.loose (List.replicate k true) 0) _ = secAt (flushL s.img s.loose) _
  rw [← h.len, crashI_all]
structure QC (f k : Nat) (s : DS) : Prop where
  ok : s.OK
  n : s.n = 6
  img : s.img = noB 6
  len : s.loose.length ≤ k
  fz : ∀ x, s.fuse = some x → x ≤ 40
  on : k ≤ f → s.fuse = some (f - k) ∧ s.out = false
  off : f < k → s.out = true
theorem qc_start (f : Nat) (hf : f ≤ 40) : QC f 0 (fuseS (startS 6) f) := by
  have e : fuseS (startS 6) f = { startS 6 with fuse := some f } := by
    unfold fuseS
    rw [if_pos (by unfold fuseE; rw [if_neg (by simp [startS]), if_neg (by omega)])]
    simp
  rw [e]
  exact ⟨⟨(start_ok 6 (by omega)).n1, (start_ok 6 (by omega)).n2, by show 6 ≤ 65536; omega, by simp [startS]⟩, rfl, rfl, by simp [startS], fun x hx => by simp at hx; omega, fun _ => ⟨by simp, rfl⟩, fun h => absurd h (by omega)⟩
theorem qc_next {f k : Nat} {s : DS} (h : QC f k s) {i : Nat} (hi : i < 6) (b : UInt8) : QC f (k + 1) (writeS s i (putB b)) ∧ okB (writeE s i 64) = decide (k < f) := by
  have hn : i < s.n := by rw [h.n]; exact hi
  have hh := has_plain hn
  rcases Nat.lt_or_ge f k with hk | hk
  · have ho := h.off hk
    have e : writeS s i (putB b) = s := by unfold writeS; rw [if_pos ho]
    rw [e]
    refine ⟨⟨h.ok, h.n, h.img, Nat.le_succ_of_le h.len, h.fz, fun h => absurd h (by omega), fun _ => ho⟩, ?_⟩
    unfold writeE; rw [if_pos ho]
    simp [okB]; omega
  · obtain ⟨hf, ho⟩ := h.on hk
    by_cases hkf : k < f
    · have hl : lets s = true := by unfold lets; rw [hf]; simp; omega
      have e : writeS s i (putB b) = putS (burn s) i (putB b) := by
        unfold writeS
        rw [if_neg (by simp [ho]), if_neg (by simp [hh]), if_neg (by simp [putB]), if_neg (by simp [hl]), Int.toNat_natCast]
      rw [e]
      refine ⟨⟨put_ok (burn_ok h.ok) hn (putB_len b), h.n, h.img, by have := h.len; simp [putS, burn]; omega, fun x hx => ?_, fun _ => ⟨?_, ?_⟩, fun h => absurd h (by omega)⟩, ?_⟩
      · have hx2 : s.fuse.map (· - 1) = some x := hx
        rw [hf] at hx2
        have := h.fz _ hf
        simp at hx2; omega
      · show s.fuse.map (· - 1) = _
        rw [hf]; simp; omega
      · show (s.fuse == some 0) = false
        rw [hf]; simp; omega
      · unfold writeE
        rw [if_neg (by simp [ho]), if_neg (by simp [hh]), if_neg (by omega), if_neg (by simp [hl])]
        simp [okB, hkf]
    · have hz : f - k = 0 := by omega
      have hl : lets s = false := by unfold lets; rw [hf, hz]; rfl
      have e : writeS s i (putB b) = burn s := by
        unfold writeS
        rw [if_neg (by simp [ho]), if_neg (by simp [hh]), if_neg (by simp [putB]), if_pos hl]
      rw [e]
      refine ⟨⟨burn_ok h.ok, h.n, h.img, Nat.le_succ_of_le h.len, fun x hx => ?_, fun h => absurd h (by omega), fun _ => ?_⟩, ?_⟩
      · have hx2 : s.fuse.map (· - 1) = some x := hx
        rw [hf] at hx2
        simp at hx2; omega
      · show (s.fuse == some 0) = true
        rw [hf, hz]; rfl
      · unfold writeE
        rw [if_neg (by simp [ho]), if_neg (by simp [hh]), if_neg (by omega), if_pos hl]
        simp [okB, hkf]
theorem secAt_no (i : Nat) (hi : i < 6) : secAt (noB 6) i = twoB 0 64 0 := by
  simp only [secAt, noB, twoB, List.drop_replicate, List.take_replicate, Nat.sub_self, List.replicate_zero, List.append_nil]
  congr 1; omega
theorem qc_end {f k : Nat} {s : DS} (h : QC f k s) : s.out = decide (f < k) ∧ ∀ (i : Nat), i < 6 → imageE (crashD s [] 0) i = 0 ∧ imageB (crashD s [] 0) i = twoB 0 64 0 := by
  constructor
  · rcases Nat.lt_or_ge f k with hk | hk
    · rw [h.off hk]; simp [hk]
    · rw [(h.on hk).2]; simp; omega
  · intro i hi
    have hin : hasB s.n (i : Int) = true := has_plain (by rw [h.n]; exact hi)
    have e : crashD s [] 0 = { brokeS s [] 0 with fuse := none, out := false } := by unfold crashD; rw [if_pos ⟨by omega, by omega⟩]; rfl
    rw [e]
    refine ⟨if_pos hin, ?_⟩
    unfold imageB
    refine (if_pos hin).trans ?_
    show secAt (crashI s.img s.loose [] 0) (i : Int).toNat = _
    rw [crashI_none, h.img, Int.toNat_natCast, secAt_no i hi]
/-- Since w0 only new blocks have changed; among them three devices and a row of the law's. -/
def Tri (w0 w : World) (ab : Nat) (ga : Nat) (sa : DS) (gb : Nat) (sb : DS) (gc : Nat) (sc : DS) : Prop :=
  Below w0.heap.size w0 w ∧ ab < w.heap.size ∧ w0.heap.size ≤ ab ∧ ∃ Fa Fb Fc, (DevB w w0.heap.size Fa ga sa ∧ DevB w w0.heap.size Fb gb sb ∧ DevB w w0.heap.size Fc gc sc) ∧ (∀ x ∈ Fa, x ∉ Fb) ∧ (∀ x ∈ Fb, x ∉ Fc) ∧ (∀ x ∈ Fc, x ∉ Fa) ∧ ab ∉ Fa ∧ ab ∉ Fb ∧ ab ∉ Fc
section
variable {w0 w : World} {ab ga gb gc : Nat} {sa sb sc : DS}
theorem Tri.rot (h : Tri w0 w ab ga sa gb sb gc sc) : Tri w0 w ab gb sb gc sc ga sa := by
  obtain ⟨h1, h2, h3, Fa, Fb, Fc, ⟨a, b, c⟩, d1, d2, d3, e1, e2, e3⟩ := h
  exact ⟨h1, h2, h3, Fb, Fc, Fa, ⟨b, c, a⟩, d2, d3, d1, e2, e3, e1⟩
theorem Tri.keep {w' : World} (h : Tri w0 w ab ga sa gb sb gc sc) (hb : Below w.heap.size w w') : Tri w0 w' ab ga sa gb sb gc sc := by
  obtain ⟨h1, h2, h3, Fa, Fb, Fc, ⟨a, b, c⟩, r⟩ := h
  exact ⟨h1.trans (hb.mono h1.size), Nat.lt_of_lt_of_le h2 hb.size, h3, Fa, Fb, Fc, ⟨a.keep hb, b.keep hb, c.keep hb⟩, r⟩
theorem Tri.setw (h : Tri w0 w ab ga sa gb sb gc sc) (i : Nat) (u : Value) : Tri w0 (w.setCell ⟨ab, i, none⟩ u) ab ga sa gb sb gc sc := by
  obtain ⟨h1, h2, h3, Fa, Fb, Fc, ⟨a, b, c⟩, d1, d2, d3, e1, e2, e3⟩ := h
  have hc : Chg [ab] w (w.setCell ⟨ab, i, none⟩ u) := chg_set (L := [ab]) (by simp) i u
  exact ⟨h1.trans (hc.below (by simpa using h3) h1.size), by simpa using h2, h3, Fa, Fb, Fc, ⟨a.chg hc (fun x hx hm => e1 (by simp at hm; exact hm ▸ hx)), b.chg hc (fun x hx hm => e2 (by simp at hm; exact hm ▸ hx)), c.chg hc (fun x hx hm => e3 (by simp at hm; exact hm ▸ hx))⟩, d1, d2, d3, e1, e2, e3⟩
theorem Tri.one (h : Tri w0 w ab ga sa gb sb gc sc) : Dev1 w0 w ga sa := by
  obtain ⟨h1, _, _, Fa, _, _, ⟨a, _, _⟩, _⟩ := h
  exact ⟨h1, Fa, a⟩
/-- a call of the first device -/
theorem tri_step (h : Tri w0 w ab ga sa gb sb gc sc) {f : FuncId} {args : Array Value} {sa' : DS} {v : Value} (hop : ∀ F, DevB w w0.heap.size F ga sa → ab ∉ F → w0.heap.size ≤ w.heap.size → Calls Try.prog f args w (DevPost w w0.heap.size F ga sa' v)) :
    Calls Try.prog f args w fun e w' => e = .returned v ∧ Tri w0 w' ab ga sa' gb sb gc sc ∧ w'.heap[ab]? = w.heap[ab]? := by
  obtain ⟨h1, h2, h3, Fa, Fb, Fc, ⟨a, b, c⟩, d1, d2, d3, e1, e2, e3⟩ := h
  refine (hop Fa a e1 h1.size).mono fun e w' ⟨he, F', k1, k2, k3⟩ => ⟨he, ⟨h1.trans (k2.below (fun x hx => (a.lt x hx).1) h1.size), Nat.lt_of_lt_of_le h2 k2.size, h3, F', Fb, Fc, ⟨k1, b.chg k2 (fun x hx hm => d1 x hm hx), c.chg k2 (fun x hx hm => d3 x hx hm)⟩, fun x hx hm => ?_, d2, fun x hx hm => ?_, fun hm => ?_, e2, e3⟩, k2.block ab h2 e1⟩
  · rcases k3 x hx with h | h
    · exact d1 x h hm
    · have := (b.lt x hm).2; omega
  · rcases k3 x hm with h | h
    · exact d3 x hx h
    · have := (c.lt x hx).2; omega
  · rcases k3 ab hm with h | h
    · exact e1 h
    · omega
end
end Go.Proofs.Ytjenafbkalokoaa
