/- The machine over a whole text. -/
import Derived.Test.YtgbjnndebdmijaaDoorNmId
namespace Go.Proofs.YtgbjnndebdmijaaDoor
open Go.RowKit

theorem head_small {pos : Nat} {x : UInt8} (h : headL[pos]? = some x) : x.toNat < 128 := by
  have hp : pos < 7 := by
    rcases Nat.lt_or_ge pos 7 with h1 | h1
    · exact h1
    · rw [List.getElem?_eq_none (by show 7 ≤ pos; exact h1)] at h; cases h
  have : ∀ i : Fin 7, ∀ x, headL[i.val]? = some x → x.toNat < 128 := by decide
  exact this ⟨pos, hp⟩ x h
theorem id_step (s : ByteArray) (g : Nat) : ∀ pos k first cs c wr, pos < s.size → DI s.data.toList g pos k first cs → Blk wr g 37 cs → True → IsChar c → (c = (Utf8.decode s pos).1 ∨ (Utf8.decode s pos).1 = 65533 ∧ c = -2) →
    Enters' k ∧ Calls Tryd.prog k (first ++ #[.int .i32 c]) wr (Took g 37 wr (DStop s.data.toList pos) (DI s.data.toList g (pos + (Utf8.decode s pos).2))) := by
  intro pos k first cs c wr hlt hI hb _ hc hdec
  have hk : k = stF pos := hI.2.2.2.1
  refine ⟨hk ▸ stF_enters pos, ?_⟩
  have hlt2 : pos < s.data.toList.length := hlt
  have hbyte : s[pos]'hlt = s.data.toList[pos] := rfl
  have hstop : ∀ hg : goodB pos s.data.toList[pos] = false, DStop s.data.toList pos := fun hg =>
    ⟨by rw [hI.2.2.1, scan_bad hlt2 hg], fun h => by omega⟩
  by_cases ha : (s[pos]'hlt).toNat < 128
  · rw [decode_ascii s pos hlt ha] at hdec ⊢
    have hcb : c = ((s.data.toList[pos]).toNat : Int) := by
      rcases hdec with h | ⟨h, _⟩
      · rw [h, hbyte]
      · simp only at h; omega
    subst hcb
    cases hg : goodB pos s.data.toList[pos] with
    | true => exact id_good _ g pos k first cs wr _ hI hb hlt2 hg
    | false =>
      refine id_bad _ g pos k first cs _ wr _ _ hI hb hc (fun x hx => ?_) (fun h1 h2 => bad_digit h1 h2 hg) (fun _ => by omega) (hstop hg)
      have hp : pos < 7 := by
        rcases Nat.lt_or_ge pos 7 with h1 | h1
        · exact h1
        · rw [List.getElem?_eq_none (by show 7 ≤ pos; exact h1)] at hx; cases hx
      intro e
      exact bad_head hp hg hx (UInt8.toNat_inj.1 (by omega))
  · have hg : goodB pos s.data.toList[pos] = false := by
      cases h : goodB pos s.data.toList[pos] with
      | false => rfl
      | true => exact absurd (good_ascii h) (by rw [← hbyte]; exact ha)
    have hh := (decode_high s pos hlt (by omega)).1
    have hc2 : c < 0 ∧ c ≠ -1 ∨ 128 ≤ c := by rcases hdec with h | ⟨_, h⟩ <;> omega
    refine id_bad _ g pos k first cs _ wr _ _ hI hb hc (fun x hx => ?_) (fun _ _ => hexv_high (by omega)) (fun _ => by omega) (hstop hg)
    have := head_small hx
    omega
theorem id_end (s : ByteArray) (g : Nat) : ∀ k first cs wr, DI s.data.toList g s.size k first cs → Blk wr g 37 cs → True →
    Enters' k ∧ Calls Tryd.prog k (first ++ #[.int .i32 (-1)]) wr (Took g 37 wr (DStop s.data.toList s.size) (fun _ _ cs => DDone s.data.toList cs)) := by
  intro k first cs wr hI hb _
  have hk : k = stF s.size := hI.2.2.2.1
  refine ⟨hk ▸ stF_enters s.size, ?_⟩
  have hlen : s.data.toList.length = s.size := rfl
  have hst : stopAt s.data.toList = s.size := by rw [hI.2.2.1, ← hlen, scan_end]
  by_cases h71 : s.size = 71
  · obtain ⟨_, _, _, rfl, rfl, rfl⟩ := hI
    rw [h71] at hb ⊢
    rw [show stF 71 = 33 from rfl, show stR g 71 = #[] from rfl, arr_one]
    refine (ends_calls (-1) wr).mono ?_
    rintro e w' ⟨rfl, b⟩
    refine ⟨grown_of_below b _, .inr ⟨_, _, _, rfl, ⟨by rw [hst, h71], by rw [hlen, h71], rfl⟩, ?_⟩⟩
    exact hb.keep b
  · refine id_bad _ g s.size k first cs (-1) wr _ _ hI hb (.inl rfl) (fun x _ => by omega) (fun _ _ => hexv_high (by omega)) (fun h => absurd h h71) ⟨hst, fun h => h71 h.1⟩
end Go.Proofs.YtgbjnndebdmijaaDoor
