/- Contract: crc.Open: what it returns, in new memory. -/
import Derived.Test.YtpnobkeeebigeaaSeal
namespace Go.Proofs.Ytpnobkeeebigeaa
open Go.RowKit Crc
attribute [local go_sem] n_xor n_poly n_not n_not' n_bx n_low n_shr1 n_shr8 n_shr16 n_shr24 n_bxor

/-- What a reader of sealed bytes gives back. -/
def Opened (w : World) (bs : List UInt8) (e : Ending) (w' : World) : Prop :=
  Below w.heap.size w w' ∧ ∃ v, e = .returned (.tuple #[v, .int .i64 (openE bs)]) ∧ Own w' w.heap.size 5 v (openB bs).length (openB bs)

theorem open_short (n c B : Nat) (A : Option Addr) (bs : List UInt8) (w : World) (hs : SB w B A n bs) (h4 : n < 4) :
    Calls Try.prog 10 #[.slice A n c] w (Opened w bs) := by
  have hl : bs.length < 4 := by rw [hs.1]; exact h4
  have h1 := hid (openE_short hl)
  have h2 := hid (openB_short hl)
  clear hl
  go_enter Try.func10, Try.ntmps10
  go_wp2_with fail
  go_ret2
  refine ⟨Below.refl _ _, .slice none 0 0, ?_, ?_⟩
  · rw [h1.out]; rfl
  · rw [h2.out]; exact Own.nil _ _ _

theorem run_arrayAt {P : Program} (t e : TypeId) (n : Nat) (A : Option Addr) (l c : Nat) (h : P.underlying t = some (.array n e)) (hl : n ≤ l) (w : World) :
    (Instr.arrayAt t (.slice A l c)).run P w = .ok (.pointer A) w := by
  simp [Instr.arrayAt, run_underlying h, show ¬ l < n by omega]

set_option maxHeartbeats 2000000 in
theorem open_long (B m c : Nat) (A : Option Addr) (xs : List UInt8) (t0 t1 t2 t3 : UInt8) (w : World) (hs : SB w B A (m + 4) (xs ++ [t0, t1, t2, t3])) (hn : m ≤ 549755813888) (hc : m + 4 ≤ c) :
    Calls Try.prog 10 #[.slice A (m + 4) c] w (Opened w (xs ++ [t0, t1, t2, t3])) := by
  obtain ⟨b, off, rfl, hb, hcell⟩ := hs.2 (by omega)
  have hl : xs.length = m := by have := hs.1; simp at this; omega
  have hs1 : SB w B (some ⟨b, off, none⟩) m xs := by
    have h := hs.take m (by omega)
    rwa [List.take_append_of_le_length (by omega), List.take_of_length_le (by omega)] at h
  have k0 : w.cell? ⟨b, off + m, none⟩ = some (.int .u8 (t0.toNat : Int)) := hcell m t0 (by rw [List.getElem?_append_right (by omega), hl, Nat.sub_self]; rfl)
  have k1 : w.cell? ⟨b, off + m + 1, none⟩ = some (.int .u8 (t1.toNat : Int)) := hcell (m + 1) t1 (by rw [List.getElem?_append_right (by omega), hl, Nat.add_sub_cancel_left]; rfl)
  have k2 : w.cell? ⟨b, off + m + 2, none⟩ = some (.int .u8 (t2.toNat : Int)) := hcell (m + 2) t2 (by rw [List.getElem?_append_right (by omega), hl, Nat.add_sub_cancel_left]; rfl)
  have k3 : w.cell? ⟨b, off + m + 3, none⟩ = some (.int .u8 (t3.toNat : Int)) := hcell (m + 3) t3 (by rw [List.getElem?_append_right (by omega), hl, Nat.add_sub_cancel_left]; rfl)
  have hbl := lt_of_cell k0
  clear hcell
  have HL := hid hl; clear hl
  have hq := run_equal_arr (P := Try.prog) 39 5 4 Try.underlying39 Try.underlying5 (by kernel_rfl) (tail4 (sum xs)) [t0, t1, t2, t3] rfl rfl
  simp only [List.map_cons, List.map_nil, bv] at hq
  have Hq := hid (Eq.refl (tail4 (sum xs) == [t0, t1, t2, t3]))
  generalize hv : (tail4 (sum xs) == [t0, t1, t2, t3]) = ok at hq
  have Hv := hid hv; clear hv Hq
  go_enter Try.func10, Try.ntmps10
  go_wp2_with fail
  have hcm : ¬ c = m := by omega
  have hmc : m ≤ c := by omega
  have hmc' : m + 4 ≤ c := by omega
  have hm4 : (m : Int) ≤ (m : Int) + 4 := by omega
  have hm4' : m ≤ m + 4 := by omega
  have ha := fun W => run_arrayAt (P := Try.prog) 39 5 4 (some ⟨b, off + m, none⟩) 4 (c - m) Try.underlying39 (Nat.le_refl _) W
  go_region_with (
    go_at_call 22; refine (sumBytes_calls B m c (some ⟨b, off, none⟩) xs _ (by first | exact hs1.drew | exact hs1) (by omega)).mono ?_; rintro e w1 ⟨rfl, hb1⟩
    have j0 := (hb1.cell (p := ⟨b, off + m, none⟩) (by exact hbl)).trans k0
    have j1 := (hb1.cell (p := ⟨b, off + m + 1, none⟩) (by exact hbl)).trans k1
    have j2 := (hb1.cell (p := ⟨b, off + m + 2, none⟩) (by exact hbl)).trans k2
    have j3 := (hb1.cell (p := ⟨b, off + m + 3, none⟩) (by exact hbl)).trans k3)
  all_goals
    have hb1' : Below w.heap.size w w1 := by first | exact hb1 | exact (Below.refl _ _).drew.trans hb1 | exact hb1.drew
    cases ok
    · go_wp2_with fail
      go_ret2
      have hn := beq_eq_false_iff_ne.1 Hv.out
      refine ⟨hb1', .slice none 0 0, ?_, ?_⟩
      · rw [openE_no hn]; rfl
      · rw [openB_no hn]; exact Own.nil _ _ _
    · go_wp2_with fail
      refine (clone_calls B m c (some ⟨b, off, none⟩) xs _ (hs1.keep hb1') (by omega)).mono ?_
      rintro e w2 ⟨v, rfl, ho, hb2⟩
      have HO := hid (ho.lower hb1'.size)
      have HB := hid (hb1'.trans (hb2.mono hb1'.size))
      clear ho hb2 hb1' hb1
      go_wp2_with fail
      go_ret2
      have hy := beq_iff_eq.1 Hv.out
      refine ⟨HB.out, v, ?_, ?_⟩
      · rw [openE_yes hy]; rfl
      · rw [openB_yes hy, HL.out]; exact HO.out

theorem open_calls (B n c : Nat) (A : Option Addr) (bs : List UInt8) (w : World) (hs : SB w B A n bs) (hn : n ≤ 549755813888) (hc : n ≤ c) :
    Calls Try.prog 10 #[.slice A n c] w (Opened w bs) := by
  rcases Nat.lt_or_ge n 4 with h | h
  · exact open_short n c B A bs w hs h
  · obtain ⟨xs, t0, t1, t2, t3, rfl⟩ := last_four (bs := bs) (by rw [hs.1]; exact h)
    have hl := hs.1
    obtain ⟨m, rfl⟩ : ∃ m, n = m + 4 := ⟨n - 4, by omega⟩
    exact open_long B m c A xs t0 t1 t2 t3 w hs (by omega) hc
end Go.Proofs.Ytpnobkeeebigeaa
