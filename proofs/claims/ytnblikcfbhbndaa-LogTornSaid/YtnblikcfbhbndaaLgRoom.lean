/- Contract: a device with a blanked area. -/
import Derived.Test.YtnblikcfbhbndaaLgKeep
namespace Go.Proofs.Ytnblikcfbhbndaa
open Go.RowKit

theorem results_tmp_cell {fn : Func} {p q : Tmp} {t t' : TypeId} (h : fn.results = #[.tmp p, .cell q t]) (tmps : Array Value) (w : World) (g : Nat) (cs : Array Value) (v : Value) (hp : tmps.getD p undef = v) (hq : tmps.getD q undef = .pointer (some ⟨g, 0, none⟩)) (hb : Blk w g t' cs)
    (hu : ∃ fs, Try.prog.underlying t = some (.struct fs)) (hi : (Try.prog.info? t).map (·.size) = some cs.size) : (results fn tmps).run Try.prog w = .ok (.tuple #[v, .agg cs]) w := by
  have hp' : tmps[p]?.getD undef = v := by simpa using hp
  have hq' : tmps[q]?.getD undef = .pointer (some ⟨g, 0, none⟩) := by simpa using hq
  obtain ⟨fs, hu⟩ := hu
  simp [results, h, hp', hq', asAddr, run_loadVar_row w g t' t cs (0, 0) (.struct fs) hb hu rfl hi]
set_option maxHeartbeats 4000000 in
theorem room_raw (x y z p : Int) (n : Nat) (e1 : IntKind.i64.wrap (x + y) = p) (e2 : IntKind.i64.wrap (p + 1) = (n : Int)) (h1 : 1 ≤ n) (h2 : n ≤ 65536) (hc : (blankR (startS n) ⟨x, p, z⟩).2 = 0) (w : World) :
    Calls Try.prog 48 #[.int .i64 x, .int .i64 y, .int .i64 z] w fun e w' => ∃ g, e = .returned (.tuple #[.pointer (some ⟨g, 0, none⟩), arv ⟨x, p, z⟩]) ∧ Dev1 w w' g (blankR (startS n) ⟨x, p, z⟩).1 := by
  obtain ⟨fs, hu⟩ : ∃ fs, Try.prog.underlying 46 = some (.struct fs) := by
    have h := under_area
    split at h
    · rename_i fs he
      exact ⟨fs, he⟩
    · cases h
  have HU := hid hu; have HC := hid hc
  clear hu hc
  have k1 : Blk ((w.alloc (.cells #[.int .i64 0, .int .i64 0, .int .i64 0] 46)).alloc (.cells #[.int .i64 0, .int .i64 0, .int .i64 0] 46)) (w.heap.size + 1) 46 #[.int .i64 0, .int .i64 0, .int .i64 0] := by
    obtain ⟨W2, hW2, _, k1, _⟩ := two_new w #[.int .i64 0, .int .i64 0, .int .i64 0] #[.int .i64 0, .int .i64 0, .int .i64 0] 46 46
    rw [← hW2]; exact k1
  go_enter Try.func48, Try.ntmps48
  go_wp2_with (first
    | (refine wpList_alloc_blk rfl 46 rfl _ info_area ?_)
    | (refine wpList_store_blk rfl 46 _ _ rfl (w.heap.size + 1) _ rfl rfl 46 _ k1 size_area rfl rfl ?_))
  obtain ⟨W3, hW3, k0, k2, hB⟩ := two_new w #[.int .i64 0, .int .i64 0, .int .i64 0] #[.int .i64 x, .int .i64 p, .int .i64 z] 46 46
  rw [← hW3]
  have K0 := hid k0; have HB := hid hB; have K1 := hid k2
  clear hW3 k0 k1 k2 hB
  generalize hG : w.heap.size = G at K0 K1 ⊢
  refine (d1_new W3 n W3 (Below.refl _ _) h1 h2).mono ?_
  rintro _ w4 ⟨g, rfl, h⟩
  have H := hid h
  have L1 := hid (K1.out.keepB h.1 K1.out.lt)
  clear h e1 e2
  have c0 := L1.out.cell 0 rfl
  have c1 := L1.out.cell 1 rfl
  have c2 := L1.out.cell 2 rfl
  go_wp2_with fail
  refine (d1_blank ⟨x, p, z⟩ H.out (Plain.ok (s := startS n) ⟨rfl, rfl⟩ (by show (0 : Nat) ≤ 1000000; omega)) (by show 0 + 65536 ≤ 1000000; omega)).mono ?_
  rintro _ w5 ⟨rfl, h⟩
  rw [show (((blankR (startS n) ⟨x, p, z⟩).2 : Nat) : Int) = 0 from by rw [HC.out]; rfl]
  have H := hid h
  have L1 := hid (K1.out.keepB h.1 K1.out.lt); have L0 := hid (K0.out.keepB h.1 K0.out.lt)
  clear c0 c1 c2 h
  have c0 := L1.out.drew.cell 0 rfl
  have c1 := L1.out.drew.cell 1 rfl
  have c2 := L1.out.drew.cell 2 rfl
  have d0 := L0.out.drew.cell 0 rfl
  have d1 := L0.out.drew.cell 1 rfl
  have d2 := L0.out.drew.cell 2 rfl
  have q0 := L0.out.cell 0 rfl
  have q1 := L0.out.cell 1 rfl
  have q2 := L0.out.cell 2 rfl
  have f0 := L0.out.frozen 0
  have f1 := L0.out.frozen 1
  have f2 := L0.out.frozen 2
  go_wp2_with fail
  go_region
  clear c0 c1 c2 d0 d1 d2 q0 q1 q2 f0 f1 f2
  go_wp2_with fail
  have k6 := (((L0.out.set_ 0 (.int .i64 x)).set_ 1 (.int .i64 p)).set_ 2 (.int .i64 z)).drew
  have hc6 : Chg [G] w5 (((w5.setCell ⟨G, 0, none⟩ (.int .i64 x)).setCell ⟨G, 1, none⟩ (.int .i64 p)).setCell ⟨G, 2, none⟩ (.int .i64 z)).drew :=
    (((chg_set (L := [G]) (by simp) 0 _).trans (chg_set (L := [G]) (by simp) 1 _) (fun b h => .inl h)).trans (chg_set (L := [G]) (by simp) 2 _) (fun b h => .inl h)).drew
  refine bodyPost_ret (results_tmp_cell (t' := 46) rfl _ _ G #[.int .i64 x, .int .i64 p, .int .i64 z] _ rfl rfl k6 ⟨fs, HU.out⟩ size_area) rfl ?_
  obtain ⟨hb, F, hd⟩ := H.out
  have hGW := K0.out.lt
  refine ⟨g, rfl, ?_, F, dev_lower (hd.chg hc6 (fun b hb hm => by have := (hd.lt b hb).1; simp at hm; omega)) HB.out.size⟩
  exact (HB.out.trans (hb.mono HB.out.size)).trans (hc6.below (fun b hm => by simp at hm; omega) (Nat.le_trans HB.out.size hb.size))
theorem wrap_in (x : Int) (h : -1000000 ≤ x ∧ x ≤ 1000000) : IntKind.i64.wrap x = x := IntWalk.i64_in _ (by omega)
/-- a blanked area of a new device -/
theorem room_calls (f N gen : Nat) (hn : f + N + 1 ≤ 65536) (g1 : 1 ≤ gen) (g2 : gen ≤ 2147483647) (w : World) :
    Calls Try.prog 48 #[.int .i64 (f : Int), .int .i64 (N : Int), .int .i64 (gen : Int)] w fun e w' => ∃ g s', e = .returned (.tuple #[.pointer (some ⟨g, 0, none⟩), arv (areaN f N gen)]) ∧ Dev1 w w' g s' ∧ LogS f N gen 0 [] s' ∧ s'.loose = [] ∧ s'.n = f + N + 1 ∧ s'.now = s'.img := by
  obtain ⟨s', h1, h2, h3, h4, h5⟩ := blank_log f N gen hn g1 g2
  refine (room_raw (f : Int) (N : Int) (gen : Int) ((f + N : Nat) : Int) (f + N + 1) (by rw [wrap_in _ (by omega)]; omega) (by rw [wrap_in _ (by omega)]; omega) (by omega) hn (by show (blankR (startS (f + N + 1)) (areaN f N gen)).2 = 0; rw [h1]) w).mono ?_
  rintro _ w' ⟨g, rfl, h⟩
  refine ⟨g, s', rfl, ?_, h2, h3, h4, h5⟩
  have e : (blankR (startS (f + N + 1)) ⟨(f : Int), ((f + N : Nat) : Int), (gen : Int)⟩).1 = s' := by show (blankR (startS (f + N + 1)) (areaN f N gen)).1 = s'; rw [h1]
  rw [e] at h
  exact h
end Go.Proofs.Ytnblikcfbhbndaa
