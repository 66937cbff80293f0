/- The law BlobNone, walked. -/
import Derived.Test.YtoogaapjdlhpbaaDoorBlAwake
namespace Go.Proofs.YtoogaapjdlhpbaaDoor
open Go.RowKit Crc

/-- where the law is: the digest, the row of stores that nobody made -/
structure NoW (w0 w : World) (d : List UInt8) (o r : Nat) (q : Nat) : Prop where
  below : Below w0.heap.size w0 w
  id : Blk w o 32 (bcells d)
  row : Blk w r 23 #[.pointer none, .pointer (some ⟨q, 0, none⟩)]
  zero : w.cell? ⟨q, 0, none⟩ = some (.pointer none)
theorem NoW.keep {w0 w w' : World} {d : List UInt8} {o r q : Nat} (h : NoW w0 w d o r q) (hb : Below w.heap.size w w') : NoW w0 w' d o r q :=
  ⟨h.below.trans (hb.mono h.below.size), h.id.keep hb, h.row.keep hb, cell_keep h.zero hb⟩
theorem NoW.obj {w0 w : World} {d : List UInt8} {o r q : Nat} (h : NoW w0 w d o r q) {k : Nat} (hk : k < 2) : ∃ a, w.cell? ⟨r, k, none⟩ = some (.pointer a) ∧ (a = none ∨ a = some ⟨q, 0, none⟩) := by
  rcases k with _ | _ | k
  · exact ⟨none, h.row.cell 0 rfl, .inl rfl⟩
  · exact ⟨_, h.row.cell 1 rfl, .inr rfl⟩
  · omega
theorem NoW.noobj {w0 w : World} {d : List UInt8} {o r q : Nat} (h : NoW w0 w d o r q) {a : Option Addr} (ha : a = none ∨ a = some ⟨q, 0, none⟩) : NoObj w (.pointer a) := by
  rcases ha with rfl | rfl
  · exact .inl rfl
  · exact .inr ⟨q, rfl, h.zero⟩
set_option maxRecDepth 100000 in
set_option maxHeartbeats 4000000 in
theorem none_calls (d : List UInt8) (hd : d.length = 32) (A : Option Addr) (n c : Nat) (w : World) (hG : Glob w) :
    Calls Tryd.prog 4 #[.agg (bcells d), .slice A n c] w fun e w' => e = .returned (.bool true) ∧ Below w.heap.size w w' := by
  have HG := hid hG
  have HSZ := hid (show (Tryd.prog.info? 32).map (·.size) = some (bcells d).size from by rw [bcells_size, hd]; kernel_rfl)
  have HN := hid (show ∃ W, ((w.alloc (.cells (bcells d) 32)).alloc (.cells #[.pointer none, .int .i64 0, .int .i64 0, .int .i64 0, .map none] 54)).alloc (.cells #[.pointer none, .pointer (some ⟨w.heap.size + 1, 0, none⟩)] 23) = W ∧ NoW w W d w.heap.size (w.heap.size + 1 + 1) (w.heap.size + 1) from by
    have a1 := Blk.new w 32 (bcells d)
    have z1 := size_new w (.cells (bcells d) 32)
    have q1 := below_new w (.cells (bcells d) 32)
    generalize w.alloc (.cells (bcells d) 32) = w1 at a1 z1 q1 ⊢
    have a2 := Blk.new w1 54 #[.pointer none, .int .i64 0, .int .i64 0, .int .i64 0, .map none]
    have z2 := size_new w1 (.cells #[.pointer none, .int .i64 0, .int .i64 0, .int .i64 0, .map none] 54)
    have q2 := below_new w1 (.cells #[.pointer none, .int .i64 0, .int .i64 0, .int .i64 0, .map none] 54)
    rw [z1] at a2
    generalize w1.alloc (.cells #[.pointer none, .int .i64 0, .int .i64 0, .int .i64 0, .map none] 54) = w2 at a2 z2 q2 ⊢
    have a3 := Blk.new w2 23 #[.pointer none, .pointer (some ⟨w.heap.size + 1, 0, none⟩)]
    have q3 := below_new w2 (.cells #[.pointer none, .pointer (some ⟨w.heap.size + 1, 0, none⟩)] 23)
    rw [z2, z1] at a3
    have b2 := q1.trans (q2.mono q1.size)
    exact ⟨_, rfl, b2.trans (q3.mono b2.size), (a1.keep q2).keep q3, a3, (a2.keep q3).cell 0 rfl⟩)
  clear hG
  go_enter Tryd.func4, Tryd.ntmps4
  go_wp2_with fail
  obtain ⟨W, hW, hN⟩ := HN.out
  clear HN
  rw [hW]
  have HN := hid hN
  clear hW hN
  generalize w.heap.size + 1 + 1 = r at HN ⊢
  generalize hq : w.heap.size + 1 = q at HN ⊢
  generalize ho : w.heap.size = o at HN ⊢
  go_loopw [6] (fun v6 wr => ∃ k : Nat, v6 = .int .i64 (k : Int) ∧ k ≤ 2 ∧ Hid (NoW w wr d o r q)) (fun v6 _ => 2 - (intOf v6).toNat)
  case atStart => exact ⟨0, rfl, by omega, HN⟩
  case round =>
    clear HN
    obtain ⟨k, rfl, hk, HW⟩ := hrel
    by_cases hlt : k < 2
    · have hlt' : (k : Int) < 2 := by omega
      obtain ⟨a, hc, ha⟩ := HW.out.obj hlt
      have HA := hid ha
      have H1 := hid (putNone_calls a (HW.out.noobj ha) d hd A n c)
      clear ha
      go_wp2_with (refine wpList_load_blk rfl 32 _ rfl o rfl 32 _ HW.out.id _ _ Tryd.underlying32 HSZ.out ?_)
      refine H1.out.mono ?_
      rintro _ w1 ⟨rfl, b1⟩
      have HW1 := hid (HW.out.keep b1)
      have H2 := hid (getNone_calls (HW1.out.noobj HA.out) d hd)
      clear b1 H1 HW hc
      go_wp2_with (refine wpList_load_blk rfl 32 _ rfl o rfl 32 _ HW1.out.id _ _ Tryd.underlying32 HSZ.out ?_)
      refine H2.out.mono ?_
      rintro _ w2 ⟨rfl, b2⟩
      have HW2 := hid (HW1.out.keep b2)
      have H3 := hid (sizeNone_calls (HW2.out.noobj HA.out) d hd)
      clear b2 H2 HW1
      go_wp2_with (refine wpList_load_blk rfl 32 _ rfl o rfl 32 _ HW2.out.id _ _ Tryd.underlying32 HSZ.out ?_)
      refine H3.out.mono ?_
      rintro _ w3 ⟨rfl, b3⟩
      have HW3 := hid (HW2.out.keep b3)
      have H4 := hid (dropNone_calls (HW3.out.noobj HA.out) d hd)
      clear b3 H3 HW2
      go_wp2_with (refine wpList_load_blk_g (by rfl) 32 _ rfl o rfl 32 _ HW3.out.id _ _ Tryd.underlying32 HSZ.out ?_)
      refine H4.out.mono ?_
      rintro _ w4 ⟨rfl, b4⟩
      have HW4 := hid (HW3.out.keep b4)
      have HO := hid (HW4.out.noobj HA.out)
      clear b4 H4 HW3
      go_wp2_with fail
      refine (idsNone_calls HO.out).mono ?_
      rintro _ _ ⟨rfl, rfl⟩
      go_wp2_with fail
      refine (usedNone_calls HO.out).mono ?_
      rintro _ _ ⟨rfl, rfl⟩
      go_wp2_with fail
      refine (widthNone_calls HO.out).mono ?_
      rintro _ _ ⟨rfl, rfl⟩
      go_wp2_with fail
      refine (roomNone_calls HO.out).mono ?_
      rintro _ _ ⟨rfl, rfl⟩
      clear HO
      go_wp2_with fail
      go_roundw
      case rel => exact ⟨k + 1, by go_num, by omega, HW4⟩
      case measure => simp [intOf]; omega
    · obtain rfl : k = 2 := by omega
      have H5 := hid (awake_calls _ (HG.out.keep HW.out.below))
      go_wp2_with fail
      refine H5.out.mono ?_
      rintro _ w5 ⟨rfl, b5⟩
      have HW5 := hid (HW.out.keep b5)
      clear b5 H5
      go_wp2_with fail
      go_ret
      exact ⟨rfl, ho ▸ HW5.out.below⟩
end Go.Proofs.YtoogaapjdlhpbaaDoor
