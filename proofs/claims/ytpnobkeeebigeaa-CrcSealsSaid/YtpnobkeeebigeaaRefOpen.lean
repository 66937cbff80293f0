/- Contract: the reference's Open: what it returns, in new memory. -/
import Derived.Test.YtpnobkeeebigeaaRefSeal
import Derived.Test.YtpnobkeeebigeaaOpen
namespace Go.Proofs.Ytpnobkeeebigeaa
open Go.RowKit Crc

theorem refOpen_short (n c B : Nat) (A : Option Addr) (bs : List UInt8) (w : World) (hs : SB w B A n bs) (h4 : n < 4) :
    Calls Try.prog 11 #[.slice A n c] w (Opened w bs) := by
  have hl : bs.length < 4 := by rw [hs.1]; exact h4
  have h1 := hid (openE_short hl)
  have h2 := hid (openB_short hl)
  clear hl
  go_enter Try.func11, Try.ntmps11
  go_wp2_with fail
  go_ret2
  refine ⟨Below.refl _ _, .slice none 0 0, ?_, ?_⟩
  · rw [h1.out]; rfl
  · rw [h2.out]; exact Own.nil _ _ _

theorem opened_cases {bs : List UInt8} (h : 4 ≤ bs.length) : (openE bs = if sealed (inner bs) == bs then 0 else 5) ∧ (openB bs = if sealed (inner bs) == bs then inner bs else []) := by
  unfold openE openB
  have hn : ¬ bs.length < 4 := by omega
  by_cases e : sealed (inner bs) = bs
  · have e' : (sealed (inner bs) == bs) = true := beq_iff_eq.2 e
    rw [e', if_neg hn, if_neg hn, if_pos e, if_pos e]
    exact ⟨rfl, rfl⟩
  · have e' : (sealed (inner bs) == bs) = false := beq_eq_false_iff_ne.2 e
    rw [e', if_neg hn, if_neg hn, if_neg e, if_neg e]
    exact ⟨rfl, rfl⟩

set_option maxHeartbeats 2000000 in
theorem refOpen_long (B m c : Nat) (A : Option Addr) (bs : List UInt8) (w : World) (hs : SB w B A (m + 4) bs) (hn : m ≤ 274877906944) (hc : m + 4 ≤ c) :
    Calls Try.prog 11 #[.slice A (m + 4) c] w (Opened w bs) := by
  have hl := hs.1
  have hs1 : SB w B A m (inner bs) := by
    have h := hs.take m (by omega)
    unfold inner
    rwa [hl, Nat.add_sub_cancel]
  have Hcase := hid (opened_cases (bs := bs) (by omega))
  have Hin : Hid ((inner bs).length = m) := hs1.1
  have hv := strB_eq (sealed (inner bs)) bs
  clear hl
  have hmc : m ≤ c := by omega
  have hm4 : (m : Int) ≤ (m : Int) + 4 := by omega
  go_enter Try.func11, Try.ntmps11
  go_wp2_with (at_builtin; refine Held.go ?_)
  have ho := Own.lit w 5 w.heap.size [] #[] 0 rfl rfl (Nat.le_refl _) (by omega)
  have hb := below_new w (.cells #[] 5)
  generalize w.alloc (.cells #[] 5) = w1 at ho hb ⊢
  refine wpList_append_bytes _ rfl _ _ _ rfl _ Try.underlying22 info5 w.heap.size _ 0 [] rfl ho B A m c (inner bs) rfl (hs1.keep hb) (by omega) hb.size ?_
  intro v2 w2 h1 h2 h3
  have hb2 := hb.trans (below_of_grown h2 hb.size (fun g e => (ho.block g e).1))
  clear h2 h3 ho hb
  rw [Nat.zero_add, List.nil_append] at h1
  obtain ⟨A2, c2, rfl, _, hs2, _⟩ := h1.sb
  have hsb := hs.keep hb2
  generalize hok : (sealed (inner bs) == bs) = ok at hv Hcase
  clear hok
  have HO := hid h1; clear h1
  have kb0 := run_str (P := Try.prog) hsb.drew c 22 9 5 Try.underlying22 Try.underlying5 Try.underlying9
  go_wp2_with fail
  go_region_with (
    go_at_call 13
    refine (refSeal_calls _ m c2 A2 (inner bs) _ (by first | exact hs2.drew | exact hs2) (by omega)).mono ?_
    rintro e w3 ⟨v3, rfl, ho3, hb3⟩
    obtain ⟨A3, c3, rfl, _, hs3, _⟩ := ho3.sb
    have k3 := run_str (P := Try.prog) hs3 c3 22 9 5 Try.underlying22 Try.underlying5 Try.underlying9
    have kb := run_str (P := Try.prog) (hsb.drew.keep hb3) c 22 9 5 Try.underlying22 Try.underlying5 Try.underlying9)
  all_goals
    have hb4 := hid (hb2.drew.trans (hb3.mono hb2.size))
    have HO4 := hid (HO.out.drew.keep hb3)
    clear hb3 ho3 hs3 k3 kb kb0
    cases ok
    · go_wp2_with fail
      go_ret2
      refine ⟨hb4.out, .slice none 0 0, ?_, ?_⟩
      · rw [Hcase.out.1]; rfl
      · rw [Hcase.out.2]; exact Own.nil _ _ _
    · go_wp2_with fail
      go_ret2
      refine ⟨hb4.out, .slice A2 m c2, ?_, ?_⟩
      · have h := Hcase.out.1
        simp only [if_true] at h
        rw [h]; rfl
      · have h := Hcase.out.2
        simp only [if_true] at h
        rw [h, Hin.out]; exact HO4.out

theorem refOpen_calls (B n c : Nat) (A : Option Addr) (bs : List UInt8) (w : World) (hs : SB w B A n bs) (hn : n ≤ 274877906944) (hc : n ≤ c) :
    Calls Try.prog 11 #[.slice A n c] w (Opened w bs) := by
  rcases Nat.lt_or_ge n 4 with h | h
  · exact refOpen_short n c B A bs w hs h
  · obtain ⟨m, rfl⟩ : ∃ m, n = m + 4 := ⟨n - 4, by omega⟩
    exact refOpen_long B m c A bs w hs (by omega) hc
end Go.Proofs.Ytpnobkeeebigeaa
