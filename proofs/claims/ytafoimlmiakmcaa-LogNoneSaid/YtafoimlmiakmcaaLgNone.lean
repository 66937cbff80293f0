/- A log on a device that nobody made; the law LogNone, walked. -/
import Derived.Test.YtafoimlmiakmcaaLgKnown
import Derived.Test.YtafoimlmiakmcaaDvNo
namespace Go.Proofs.Ytafoimlmiakmcaa
open Go.RowKit

theorem nCheck (h : Value) (a : AR) (w : World) (hn : NoObj w h) : Calls Try.prog 33 #[h, arv a] w fun e w' => e = .returned (.int .i64 1) ∧ Below w.heap.size w w' := by
  obtain ⟨a0, a1, a2⟩ := a
  unfold arv
  dsimp only
  have HK := hid (below_new w (.cells #[.int .i64 a0, .int .i64 a1, .int .i64 a2] 33))
  have HS := hid (fun W (hW : Below w.heap.size w W) => nSize h W (hn.keep hW))
  clear hn
  go_enter Try.func33, Try.ntmps33
  go_wp2_with fail
  refine (HS.out _ HK.out).mono ?_
  rintro _ _ ⟨rfl, rfl⟩
  go_wp2_with fail
  go_ret
  exact ⟨rfl, HK.out⟩
theorem nBlank (h : Value) (a : AR) (w : World) (hn : NoObj w h) : Calls Try.prog 15 #[h, arv a] w fun e w' => e = .returned (.int .i64 1) ∧ Below w.heap.size w w' := by
  have HC := hid (fun W (hW : Below w.heap.size w W) => nCheck h a W (hn.keep hW))
  obtain ⟨a0, a1, a2⟩ := a
  unfold arv at HC ⊢
  dsimp only at HC ⊢
  clear hn
  have kA := Blk.new w 33 #[.int .i64 a0, .int .i64 a1, .int .i64 a2]
  have bA := below_new w (.cells #[.int .i64 a0, .int .i64 a1, .int .i64 a2] 33)
  have c0 := kA.cell 0 rfl
  have c1 := kA.cell 1 rfl
  have c2 := kA.cell 2 rfl
  have BA := hid bA
  clear kA bA
  go_enter Try.func15, Try.ntmps15
  go_wp2_with fail
  refine (HC.out _ BA.out).mono ?_
  rintro _ w1 ⟨rfl, hb1⟩
  have BW := hid (BA.out.trans (hb1.mono BA.out.size))
  clear c0 c1 c2 hb1 HC
  go_wp2_with fail
  go_ret
  exact ⟨rfl, BW.out⟩
theorem nScan (h : Value) (a : AR) (w : World) (hn : NoObj w h) : Calls Try.prog 30 #[h, arv a] w fun e w' => e = .returned (.tuple #[.slice none 0 0, .int .i64 0, .int .i64 1]) ∧ Below w.heap.size w w' := by
  have HC := hid (fun W (hW : Below w.heap.size w W) => nCheck h a W (hn.keep hW))
  obtain ⟨a0, a1, a2⟩ := a
  unfold arv at HC ⊢
  dsimp only at HC ⊢
  clear hn
  have kA := Blk.new w 33 #[.int .i64 a0, .int .i64 a1, .int .i64 a2]
  have bA := below_new w (.cells #[.int .i64 a0, .int .i64 a1, .int .i64 a2] 33)
  have c0 := kA.cell 0 rfl
  have c1 := kA.cell 1 rfl
  have c2 := kA.cell 2 rfl
  have BA := hid bA
  clear kA bA
  go_enter Try.func30, Try.ntmps30
  go_wp2_with fail
  refine (HC.out _ BA.out).mono ?_
  rintro _ w1 ⟨rfl, hb1⟩
  have BW := hid (BA.out.trans (hb1.mono BA.out.size))
  clear c0 c1 c2 hb1 HC
  go_wp2_with fail
  go_ret3
  exact ⟨rfl, BW.out⟩
set_option maxHeartbeats 2000000 in
theorem nLWrite (h : Value) (a : AR) (at_ : Int) (A : Option Addr) (n c : Nat) (w : World) (hn : NoObj w h) : Calls Try.prog 17 #[h, arv a, .int .i64 at_, .slice A n c] w fun e w' => e = .returned (.tuple #[.int .i64 0, .int .i64 1]) ∧ Below w.heap.size w w' := by
  have HC := hid (fun W (hW : Below w.heap.size w W) => nCheck h a W (hn.keep hW))
  obtain ⟨a0, a1, a2⟩ := a
  unfold arv at HC ⊢
  dsimp only at HC ⊢
  obtain ⟨p, rfl⟩ : ∃ p, h = .pointer p := by
    rcases hn with e | ⟨g, e, _⟩
    · exact ⟨_, e⟩
    · exact ⟨_, e⟩
  clear hn
  obtain ⟨W5, hW5, k0, k1, k2, k3, k4, hB, hsz⟩ := five_new w #[.pointer p] #[.int .i64 a0, .int .i64 a1, .int .i64 a2] #[.int .i64 at_] #[.int .i64 0] #[.int .i64 0] 24 33 3 3 25
  have HW5 := hid hW5; have K3 := hid k3; have K4 := hid k4; have HB := hid hB
  have d0 := k0.cell 0 rfl
  have d1 := k1.cell 0 rfl
  have d2 := k1.cell 1 rfl
  have d3 := k1.cell 2 rfl
  rw [hW5] at d0 d1 d2 d3
  clear hW5 k0 k1 k2 k3 k4 hB hsz
  go_enter Try.func17, Try.ntmps17
  go_wp2_with fail
  rw [← HW5.out]
  clear d0 d1 d2 d3 HW5
  refine (HC.out W5 HB.out).mono ?_
  rintro _ w1 ⟨rfl, hb1⟩
  have BW := hid (HB.out.trans (hb1.mono HB.out.size))
  have K3 := hid (K3.out.keep hb1); have K4 := hid (K4.out.keep hb1)
  clear hb1 HC HB
  have u3 := K3.out.cell 0 rfl
  have u4 := K4.out.cell 0 rfl
  have v3 := K3.out.frozen 0
  have v4 := K4.out.frozen 0
  have HRET := hid (show ∀ (W : World) (u v : Value), Below w.heap.size w W → Below w.heap.size w ((W.setCell ⟨w.heap.size + 1 + 1 + 1, 0, none⟩ u).setCell ⟨w.heap.size + 1 + 1 + 1 + 1, 0, none⟩ v) from fun W u v h => (h.setCell (p := ⟨w.heap.size + 1 + 1 + 1, 0, none⟩) (by show w.heap.size ≤ w.heap.size + 1 + 1 + 1; omega) u).setCell (p := ⟨w.heap.size + 1 + 1 + 1 + 1, 0, none⟩) (by show w.heap.size ≤ w.heap.size + 1 + 1 + 1 + 1; omega) v)
  generalize hge : w.heap.size = G at *
  go_wp2_with fail
  exact bodyPost_ret (two_results (x := .int .i64 0) (e := .int .i64 1) rfl _ rfl rfl K3.out K4.out) rfl ⟨rfl, by rw [hge]; exact HRET.out _ _ _ BW.out⟩
theorem none_long (a : AR) (z : Int) (A : Option Addr) (n c : Nat) (w : World) (h : 100 < n) : Calls Try.prog 5 #[arv a, .int .i64 z, .slice A n c] w fun e w' => e = .returned (.bool true) ∧ Below w.heap.size w w' := by
  obtain ⟨a0, a1, a2⟩ := a
  unfold arv
  dsimp only
  have HK := hid (below_new w (.cells #[.int .i64 a0, .int .i64 a1, .int .i64 a2] 33))
  go_enter Try.func5, Try.ntmps5
  go_wp2_with fail
  refine (awake_calls _).mono ?_
  rintro _ w1 ⟨rfl, h1⟩
  have H := hid (HK.out.trans (h1.mono HK.out.size))
  clear h1
  go_wp2_with fail
  go_ret
  exact ⟨rfl, H.out⟩
set_option maxHeartbeats 4000000 in
set_option maxRecDepth 20000 in
theorem none_short (a : AR) (z : Int) (A : Option Addr) (n c : Nat) (w : World) (hn : n ≤ 100) : Calls Try.prog 5 #[arv a, .int .i64 z, .slice A n c] w fun e w' => e = .returned (.bool true) ∧ Below w.heap.size w w' := by
  have hn' : ¬ 100 < n := by omega
  have hnd : decide ((100 : Int) < (n : Int)) = false := by simp; omega
  obtain ⟨a0, a1, a2⟩ := a
  unfold arv
  dsimp only
  have bA := below_new w (.cells #[.int .i64 a0, .int .i64 a1, .int .i64 a2] 33)
  have kA := Blk.new w 33 #[.int .i64 a0, .int .i64 a1, .int .i64 a2]
  have BA := hid bA; have KA := hid kA
  clear bA kA
  go_enter Try.func5, Try.ntmps5
  go_wp2_with fail
  clear hn hn' hnd
  generalize hw0 : w.alloc (.cells #[.int .i64 a0, .int .i64 a1, .int .i64 a2] 33) = w0 at BA KA ⊢
  have s0 : w0.heap.size = w.heap.size + 1 := by rw [← hw0]; simp
  have b1 := below_new w0 (.cells #[.pointer none, .slice none 0 0, .slice none 0 0, .slice none 0 0, .nilFunc, .bool false] 65)
  have k1 := Blk.new w0 65 #[.pointer none, .slice none 0 0, .slice none 0 0, .slice none 0 0, .nilFunc, .bool false]
  have s1 := size_new w0 (.cells #[.pointer none, .slice none 0 0, .slice none 0 0, .slice none 0 0, .nilFunc, .bool false] 65)
  generalize w0.alloc (.cells #[.pointer none, .slice none 0 0, .slice none 0 0, .slice none 0 0, .nilFunc, .bool false] 65) = w1 at b1 k1 s1 ⊢
  have K1 := hid (KA.out.keep b1)
  rw [← s0, ← s1]
  have b2 := below_new w1 (.cells #[.pointer none, .pointer (some ⟨w0.heap.size, 0, none⟩)] 24)
  have k2 := Blk.new w1 24 #[.pointer none, .pointer (some ⟨w0.heap.size, 0, none⟩)]
  generalize w1.alloc (.cells #[.pointer none, .pointer (some ⟨w0.heap.size, 0, none⟩)] 24) = W at b2 k2 ⊢
  have HW := hid (show ∀ k, k < 2 → ∃ h, W.cell? ⟨w1.heap.size, k, none⟩ = some h ∧ NoObj W h from fun k hk => by
    match k, hk with
    | 0, _ => exact ⟨_, k2.cell 0 rfl, .inl rfl⟩
    | 1, _ => exact ⟨_, k2.cell 1 rfl, .inr ⟨_, rfl, (k1.keep b2).cell 0 rfl⟩⟩
    | n + 2, h => omega)
  have KA := hid (K1.out.keep b2)
  have B := hid (show Below w.heap.size w W from (BA.out.trans (b1.mono BA.out.size)).trans (b2.mono (Nat.le_trans BA.out.size b1.size)))
  clear b1 b2 k1 k2 s1 s0 hw0 BA K1
  generalize w1.heap.size = G1 at HW ⊢
  generalize hGA : w.heap.size = GA at KA B ⊢
  go_loopw [8, 9, 10, 11, 12, 13, 14] (fun i _ _ _ _ _ _ wr => ∃ k : Nat, k ≤ 2 ∧ i = .int .i64 (k : Int) ∧ Hid (Below W.heap.size W wr)) (fun i _ _ _ _ _ _ _ => 2 - (intOf i).toNat)
  case atStart => exact ⟨0, by omega, rfl, hid (Below.refl _ _)⟩
  case round =>
    obtain ⟨k, hk, rfl, HB⟩ := hrel
    by_cases hlt : k < 2
    · obtain ⟨h, hc, hn⟩ := HW.out k hlt
      have hc := (HB.out.cell (p := ⟨G1, k, none⟩) (lt_of_cell hc)).trans hc
      have HH := hid (hn.keep HB.out)
      have KB := hid (KA.out.keep HB.out)
      clear hn
      have q0 : (k : Int) < 2 := by omega
      have p0 : (0 : Int) ≤ (k : Int) := by omega
      have c0 := KB.out.cell 0 rfl
      have c1 := KB.out.cell 1 rfl
      have c2 := KB.out.cell 2 rfl
      go_wp2_with fail
      refine (nLWrite h ⟨a0, a1, a2⟩ _ _ _ _ _ HH.out).mono ?_
      rintro _ x1 ⟨rfl, hb⟩
      have KB := hid (KB.out.keep hb); have HH := hid (HH.out.keep hb); have HB := hid (HB.out.trans (hb.mono HB.out.size))
      clear c0 c1 c2 hb hc
      have c0 := KB.out.cell 0 rfl
      have c1 := KB.out.cell 1 rfl
      have c2 := KB.out.cell 2 rfl
      go_wp2_with fail
      refine (nScan h ⟨a0, a1, a2⟩ _ HH.out).mono ?_
      rintro _ x2 ⟨rfl, hb⟩
      have KB := hid (KB.out.keep hb); have HH := hid (HH.out.keep hb); have HB := hid (HB.out.trans (hb.mono HB.out.size))
      clear c0 c1 c2 hb
      have c0 := KB.out.cell 0 rfl
      have c1 := KB.out.cell 1 rfl
      have c2 := KB.out.cell 2 rfl
      go_wp2_with fail
      refine (nCheck h ⟨a0, a1, a2⟩ _ HH.out).mono ?_
      rintro _ x3 ⟨rfl, hb⟩
      have KB := hid (KB.out.keep hb); have HH := hid (HH.out.keep hb); have HB := hid (HB.out.trans (hb.mono HB.out.size))
      clear c0 c1 c2 hb
      have c0 := KB.out.cell 0 rfl
      have c1 := KB.out.cell 1 rfl
      have c2 := KB.out.cell 2 rfl
      go_wp2_with fail
      refine (nBlank h ⟨a0, a1, a2⟩ _ HH.out).mono ?_
      rintro _ x4 ⟨rfl, hb⟩
      have HB := hid (HB.out.trans (hb.mono HB.out.size))
      clear c0 c1 c2 hb KB HH
      go_wp2_with fail
      go_roundw
      case rel => exact ⟨k + 1, by omega, by go_num, HB⟩
      case measure => simp [intOf]; omega
    · obtain rfl : k = 2 := by omega
      go_wp2_with fail
      refine (awake_calls _).mono ?_
      rintro _ w2 ⟨rfl, h1⟩
      have hsz : GA ≤ W.heap.size := by rw [← hGA]; exact B.out.size
      have H := hid ((B.out.trans (HB.out.mono hsz)).trans (h1.mono (Nat.le_trans hsz HB.out.size)))
      clear hsz
      clear h1
      go_wp2_with fail
      go_ret
      exact ⟨rfl, by rw [hGA]; exact H.out⟩
end Go.Proofs.Ytafoimlmiakmcaa
