/- Keys of a map of digests, the way back: what a key is; a map of no blobs is empty. -/
import Derived.Test.YtoogaapjdlhpbaaDoorBlNew
namespace Go.Proofs.YtoogaapjdlhpbaaDoor
open Go.RowKit Go.WideElems Crc

theorem mapM_each {α β : Type} {f : α → Option β} : ∀ {l : List α} {r : List β}, l.mapM f = some r → ∀ x ∈ l, ∃ y, f x = some y
  | [], _, _, x, hx => by cases hx
  | a :: l, r, h, x, hx => by
    rw [List.mapM_cons] at h
    simp only [bind, Option.bind_eq_some_iff, pure, Option.some.injEq] at h
    obtain ⟨y, hy, ys, hys, -⟩ := h
    rcases List.mem_cons.1 hx with rfl | hx
    · exact ⟨y, hy⟩
    · exact mapM_each hys x hx
def bvOf : Value → UInt8
  | .int _ n => UInt8.ofNat n.toNat
  | _ => 0
set_option maxRecDepth 20000 in
theorem klit_inv {v : Value} {kl : Lit} (h : keyOf Tryd.prog 32 v = some kl) : ∃ l : List UInt8, l.length = 32 ∧ v = .agg (bcells l) := by
  unfold keyOf at h
  rw [Tryd.underlying32] at h
  simp only at h
  by_cases hc : (Tryd.prog.keyType 32 && v.formed Tryd.prog 32) = true
  · rw [if_pos hc] at h
    have hf : v.formed Tryd.prog 32 = true := by simp at hc; exact hc.2
    unfold Value.formed at hf
    rw [Tryd.underlying32] at hf
    cases v with
    | agg cs =>
      have hs : cs.size = 32 := by simpa [bl_cells] using hf
      obtain ⟨m, hm⟩ := bl_types
      rw [hm] at h
      simp only [Value.cells, Option.map_eq_some_iff] at h
      obtain ⟨ls, h, -⟩ := h
      unfold Program.keyLits at h
      rw [Tryd.underlying32] at h
      have hl : cs.toList.length = Tryd.prog.cellsOf 32 := by rw [bl_cells]; simpa using hs
      simp only [hl, if_true, Option.map_eq_some_iff, bl_cells8, Nat.mul_one] at h
      obtain ⟨r, hr, -⟩ := h
      have hall := mapM_each hr
      refine ⟨cs.toList.map bvOf, by simpa using hs, ?_⟩
      congr 1
      unfold bcells
      rw [List.map_map]
      have : cs.toList.map (bv ∘ bvOf) = cs.toList := by
        refine (List.map_congr_left (g := fun x => x) (fun x hx => ?_)).trans (List.map_id' _)
        obtain ⟨i, hi, rfl⟩ := List.mem_iff_getElem.1 hx
        have hi' : i < 32 := by have := hi; simp at this; omega
        obtain ⟨y, hy⟩ := hall i (List.mem_range.2 hi')
        have e : (cs.toList.drop i).take 1 = [cs.toList[i]] := by
          rw [List.drop_eq_getElem_cons hi]
          rfl
        rw [e] at hy
        unfold Program.keyLits at hy
        rw [Tryd.underlying5] at hy
        generalize cs.toList[i] = z at hy ⊢
        cases z <;> simp at hy
        rename_i q n
        obtain ⟨⟨rfl, hw⟩, -⟩ := hy
        have e1 : IntKind.u8.min = 0 := rfl
        have e2 : IntKind.u8.max = 255 := rfl
        simp [Lit.wf, e1, e2] at hw
        show bv (UInt8.ofNat n.toNat) = _
        unfold bv
        have : (UInt8.ofNat n.toNat).toNat = n.toNat := by
          rw [UInt8.toNat_ofNat']
          omega
        rw [this]
        congr 1
        omega
      rw [this]
    | _ => simp at hf
  · rw [if_neg hc] at h
    cases h
/-- no pointer at all: no entry -/
theorem empty_map {w : World} {m n : Nat} {D : DataW Unit} (h : w.ownsMap Tryd.prog 32 ptrElem m n D) (h2 : ∀ id : List UInt8, id.length = 32 → D.atKey (klit id) .nil = .nil) : Maps.size D = 0 ∧ ∀ kl, Maps.has D kl = false := by
  obtain ⟨es, clock, hb, F, hs, rfl⟩ := h
  have : es = #[] := by
    rw [← Array.size_eq_zero_iff]
    rcases Nat.eq_zero_or_pos es.size with h0 | h0
    · exact h0
    · exfalso
      obtain ⟨y, hy⟩ := F.reads es[0] (by simp)
      have hk := rd_key hy
      obtain ⟨l, hl, hv⟩ := klit_inv hk
      have h3 := h2 l hl
      rw [hv] at hk
      rcases Maps.fit_look false bl_keyed Tryd.underlying52 (bl_zero w) hb F hk with ⟨hrun, hno, hat⟩ | ⟨e0, z, _, _, hrun, hRv, hat, _⟩
      · exact absurd hv (hno es[0] (by simp))
      · obtain ⟨b, -, rfl⟩ := ptrElem_inv hRv
        have e := klit_of hl
        rw [hk] at e
        rw [← Option.some.inj e, hat] at h3
        cases h3
  subst this
  exact ⟨rfl, fun kl => rfl⟩
end Go.Proofs.YtoogaapjdlhpbaaDoor
