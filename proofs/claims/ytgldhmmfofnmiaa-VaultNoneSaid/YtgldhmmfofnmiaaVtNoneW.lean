/- The law VaultNone, walked. -/
import Derived.Test.YtgldhmmfofnmiaaVtKnown
namespace Go.Proofs.Ytgldhmmfofnmiaa
open Go.RowKit

theorem two_none (w : World) (cs : Array Value) (T Tp : TypeId) (hc : cs[0]? = some (.pointer none)) :
    ∃ W, W = (w.alloc (.cells cs T)).alloc (.cells #[.pointer none, .pointer (some ⟨w.heap.size, 0, none⟩)] Tp) ∧ Below w.heap.size w W ∧ W.heap.size = w.heap.size + 1 + 1 ∧ ∀ k, k < 2 → ∃ h, W.cell? ⟨w.heap.size + 1, k, none⟩ = some h ∧ NoObj W h := by
  obtain ⟨W, e, k1, k2, hb⟩ := two_new w cs #[.pointer none, .pointer (some ⟨w.heap.size, 0, none⟩)] T Tp
  refine ⟨W, e, hb, by rw [e]; simp, fun k hk => ?_⟩
  match k, hk with
  | 0, _ => exact ⟨_, k2.cell 0 rfl, .inl rfl⟩
  | 1, _ => exact ⟨_, k2.cell 1 rfl, .inr ⟨_, rfl, k1.cell 0 hc⟩⟩
  | n + 2, h => omega
theorem vn_long (A : Option Addr) (n c : Nat) (w : World) (h : 60 < n) : Calls Try.prog 4 #[.slice A n c] w fun e w' => e = .returned (.bool true) ∧ Below w.heap.size w w' := by
  go_enter Try.func4, Try.ntmps4
  go_wp2_with fail
  refine (vawake_calls _).mono ?_
  rintro _ w1 ⟨rfl, h1⟩
  have H := hid h1
  clear h1
  go_wp2_with fail
  go_ret
  exact ⟨rfl, H.out⟩
set_option maxHeartbeats 4000000 in
set_option maxRecDepth 20000 in
theorem vn_short (A : Option Addr) (n c : Nat) (w : World) (hn : n ≤ 60) : Calls Try.prog 4 #[.slice A n c] w fun e w' => e = .returned (.bool true) ∧ Below w.heap.size w w' := by
  have hn' : ¬ 60 < n := by omega
  have hnd : decide ((60 : Int) < (n : Int)) = false := by simp; omega
  go_enter Try.func4, Try.ntmps4
  go_wp2_with fail
  clear hn hn' hnd
  obtain ⟨W, hW, hB, hS, hN⟩ := two_none w #[.pointer none, .pointer none, .int .i64 0, .int .i64 0, .int .i64 0, .slice none 0 0, .int .i64 0, .bool false] 42 23 rfl
  rw [← hW]
  have HB0 := hid hB; have HN := hid hN
  clear hW hB hS hN
  generalize w.heap.size + 1 = G1 at HN ⊢
  go_loopw [4, 5] (fun i _ wr => ∃ k : Nat, k ≤ 2 ∧ i = .int .i64 (k : Int) ∧ Hid (Below W.heap.size W wr)) (fun i _ _ => 2 - (intOf i).toNat)
  case atStart => exact ⟨0, by omega, rfl, hid (Below.refl _ _)⟩
  case round =>
    obtain ⟨k, hk, rfl, HB⟩ := hrel
    by_cases hlt : k < 2
    · obtain ⟨h, hc, hn⟩ := HN.out k hlt
      have hc := (HB.out.cell (p := ⟨G1, k, none⟩) (lt_of_cell hc)).trans hc
      have HH := hid (hn.keep HB.out)
      clear hn
      have q0 : (k : Int) < 2 := by omega
      have p0 : (0 : Int) ≤ (k : Int) := by omega
      go_wp2_with fail
      refine (vnone_append h _ _ _ _ HH.out).mono ?_
      rintro _ _ ⟨rfl, rfl⟩
      go_wp2_with fail
      have hb1 := below_new wr (.cells #[.slice A n c] 38)
      have HH1 := hid (HH.out.keep hb1); have HB1 := hid (HB.out.trans (hb1.mono HB.out.size))
      clear hb1 HH HB hc
      generalize wr.alloc (.cells #[.slice A n c] 38) = w1 at HH1 HB1 ⊢
      refine (vnone_replace h _ _ _ _ HH1.out).mono ?_
      rintro _ _ ⟨rfl, rfl⟩
      go_wp2_with fail
      refine (vnone_records h _ HH1.out).mono ?_
      rintro _ _ ⟨rfl, rfl⟩
      go_wp2_with fail
      refine (vnone_gen h _ HH1.out).mono ?_
      rintro _ _ ⟨rfl, rfl⟩
      go_wp2_with fail
      refine (vnone_free h _ HH1.out).mono ?_
      rintro _ _ ⟨rfl, rfl⟩
      go_wp2_with fail
      go_roundw
      case rel => exact ⟨k + 1, by omega, by go_num, HB1⟩
      case measure => simp [intOf]; omega
    · obtain rfl : k = 2 := by omega
      rw [show (((2 : Nat)) : Int) = 2 from rfl]
      have HBw := hid (HB0.out.trans (HB.out.mono HB0.out.size))
      clear HB HB0 HN
      go_wp2_with fail
      obtain ⟨W2, hW2, hB2, hS2, hN2⟩ := two_none wr #[.pointer none, .slice none 0 0, .slice none 0 0, .slice none 0 0, .nilFunc, .bool false] 50 22 rfl
      rw [← hW2]
      have HB0 := hid (HBw.out.trans (hB2.mono HBw.out.size)); have HN := hid hN2
      clear hW2 hB2 hS2 hN2 HBw
      generalize wr.heap.size + 1 = G2 at HN ⊢
      go_loopw [7, 8, 9] (fun i _ _ wr => ∃ k : Nat, k ≤ 2 ∧ i = .int .i64 (k : Int) ∧ Hid (Below W2.heap.size W2 wr)) (fun i _ _ _ => 2 - (intOf i).toNat)
      case atStart => exact ⟨0, by omega, rfl, hid (Below.refl _ _)⟩
      case round =>
        obtain ⟨k, hk, rfl, HB⟩ := hrel
        by_cases hlt : k < 2
        · obtain ⟨h, hc, hn⟩ := HN.out k hlt
          have HN' := hid (show ∃ h, W2.cell? ⟨G2, k, none⟩ = some h from ⟨h, hc⟩)
          have HC := hid (fun (W' : World) (hb : Below W2.heap.size W2 W') => (hb.cell (p := ⟨G2, k, none⟩) (lt_of_cell hc)).trans hc)
          have HH := hid (hn.keep HB.out)
          clear hn hc HN'
          have c0 := HC.out _ HB.out
          have q0 : (k : Int) < 2 := by omega
          have p0 : (0 : Int) ≤ (k : Int) := by omega
          go_wp2_with fail
          refine (vnone_open h _ HH.out).mono ?_
          rintro _ w3 ⟨rfl, hb⟩
          have HH := hid (HH.out.keep hb); have HB := hid (HB.out.trans (hb.mono HB.out.size))
          clear c0 hb
          have c0 := HC.out _ HB.out
          go_wp2_with fail
          refine (vnone_format h _ HH.out).mono ?_
          rintro _ w4 ⟨rfl, hb⟩
          have HB := hid (HB.out.trans (hb.mono HB.out.size))
          clear c0 hb
          go_wp2_with fail
          go_roundw
          case rel => exact ⟨k + 1, by omega, by go_num, HB⟩
          case measure => simp [intOf]; omega
        · obtain rfl : k = 2 := by omega
          have HBw := hid (HB0.out.trans (HB.out.mono HB0.out.size))
          clear HB HB0 HN
          go_wp2_with fail
          refine (vawake_calls _).mono ?_
          rintro _ w5 ⟨rfl, h1⟩
          have H := hid (HBw.out.trans (h1.mono HBw.out.size))
          clear h1
          go_wp2_with fail
          go_ret
          exact ⟨rfl, H.out⟩
end Go.Proofs.Ytgldhmmfofnmiaa
