/- The law QuotaNone, walked. -/
import Derived.Test.YtaagdjlnnkphdaaQtAwake
namespace Go.Proofs.Ytaagdjlnnkphdaa
open Go.RowKit

/-- where the law is: the digest, the row of links that nobody made -/
structure NoW (w0 w : World) (d : List UInt8) (o r : Nat) (q : Nat) : Prop where
  below : Below w0.heap.size w0 w
  id : Blk w o 32 (bcells d)
  row : Blk w r 23 #[.pointer none, .pointer (some ⟨q, 0, none⟩)]
  zero : w.cell? ⟨q, 0, none⟩ = some (.pointer none)
theorem NoW.keep {w0 w w' : World} {d : List UInt8} {o r q : Nat} (h : NoW w0 w d o r q) (hb : Below w.heap.size w w') : NoW w0 w' d o r q :=
  ⟨h.below.trans (hb.mono h.below.size), h.id.keep hb, h.row.keep hb, cell_keep h.zero hb⟩
theorem NoW.obj {w0 w : World} {d : List UInt8} {o r q : Nat} (h : NoW w0 w d o r q) {k : Nat} (hk : k < 2) : ∃ a, w.cell? ⟨r, k, none⟩ = some (.pointer a) ∧ (a = none ∨ a = some ⟨q, 0, none⟩) := by
  rcases k with _ | _ | k
  · exact ⟨none, h.row.cell 0 rfl, .inl rfl⟩
  · exact ⟨_, h.row.cell 1 rfl, .inr rfl⟩
  · omega
theorem NoW.noobj {w0 w : World} {d : List UInt8} {o r q : Nat} (h : NoW w0 w d o r q) {a : Option Addr} (ha : a = none ∨ a = some ⟨q, 0, none⟩) : NoObj w (.pointer a) := by
  rcases ha with rfl | rfl
  · exact .inl rfl
  · exact .inr ⟨q, rfl, h.zero⟩
set_option maxRecDepth 100000 in
theorem qnone_long (r t d : List UInt8) (z : Int) (w : World) (h : 150 < r.length ∨ 150 < t.length) :
    Calls Try.prog 4 #[.string (strB r), .string (strB t), .agg (bcells d), .int .i64 z] w fun e w' => e = .returned (.bool true) ∧ Below w.heap.size w w' := by
  have HB := hid (below_new w (.cells (bcells d) 32))
  have HA := hid (fun W => qawake_calls W)
  have h1 := strB_size r
  have h2 := strB_size t
  by_cases hr : 150 < r.length
  · have hr2 : (150 : Int) < ((strB r).size : Int) := by omega
    go_enter Try.func4, Try.ntmps4
    clear h1 h2
    go_wp2_with fail
    refine (HA.out _).mono ?_
    rintro _ w1 ⟨rfl, hb⟩
    have HE := hid (HB.out.trans (hb.mono HB.out.size))
    clear hb HB
    go_wp2_with fail
    go_ret
    exact ⟨rfl, HE.out⟩
  · have hr2 : ¬ (150 : Int) < ((strB r).size : Int) := by omega
    have ht2 : (150 : Int) < ((strB t).size : Int) := by omega
    go_enter Try.func4, Try.ntmps4
    clear h1 h2
    go_wp2_with fail
    refine (HA.out _).mono ?_
    rintro _ w1 ⟨rfl, hb⟩
    have HE := hid (HB.out.trans (hb.mono HB.out.size))
    clear hb HB
    go_wp2_with fail
    go_ret
    exact ⟨rfl, HE.out⟩
set_option maxRecDepth 100000 in
set_option maxHeartbeats 8000000 in
theorem qnone_short (r t d : List UInt8) (z : Int) (w : World) (hd : d.length = 32) (hr : r.length ≤ 150) (ht : t.length ≤ 150) :
    Calls Try.prog 4 #[.string (strB r), .string (strB t), .agg (bcells d), .int .i64 z] w fun e w' => e = .returned (.bool true) ∧ Below w.heap.size w w' := by
  have HSZ := hid (size32 hd)
  have HD := hid hd
  have hr2 : ¬ (150 : Int) < ((strB r).size : Int) := by rw [strB_size]; omega
  have ht2 : ¬ (150 : Int) < ((strB t).size : Int) := by rw [strB_size]; omega
  have HN := hid (show ∃ W, ((w.alloc (.cells (bcells d) 32)).alloc (.cells #[.pointer none, .int .i64 0, .map none, .map none] 52)).alloc (.cells #[.pointer none, .pointer (some ⟨w.heap.size + 1, 0, none⟩)] 23) = W ∧ NoW w W d w.heap.size (w.heap.size + 1 + 1) (w.heap.size + 1) from by
    have a1 := Blk.new w 32 (bcells d)
    have z1 := size_new w (.cells (bcells d) 32)
    have q1 := below_new w (.cells (bcells d) 32)
    generalize w.alloc (.cells (bcells d) 32) = w1 at a1 z1 q1 ⊢
    have a2 := Blk.new w1 52 #[.pointer none, .int .i64 0, .map none, .map none]
    have z2 := size_new w1 (.cells #[.pointer none, .int .i64 0, .map none, .map none] 52)
    have q2 := below_new w1 (.cells #[.pointer none, .int .i64 0, .map none, .map none] 52)
    rw [z1] at a2
    generalize w1.alloc (.cells #[.pointer none, .int .i64 0, .map none, .map none] 52) = w2 at a2 z2 q2 ⊢
    have a3 := Blk.new w2 23 #[.pointer none, .pointer (some ⟨w.heap.size + 1, 0, none⟩)]
    have q3 := below_new w2 (.cells #[.pointer none, .pointer (some ⟨w.heap.size + 1, 0, none⟩)] 23)
    rw [z2, z1] at a3
    have b2 := q1.trans (q2.mono q1.size)
    exact ⟨_, rfl, b2.trans (q3.mono b2.size), (a1.keep q2).keep q3, a3, (a2.keep q3).cell 0 rfl⟩)
  clear hd hr ht
  go_enter Try.func4, Try.ntmps4
  go_wp2_with fail
  obtain ⟨W, hW, hN⟩ := HN.out
  clear HN
  rw [hW]
  have HN := hid hN
  clear hW hN
  generalize w.heap.size + 1 + 1 = rr at HN ⊢
  generalize hq : w.heap.size + 1 = q at HN ⊢
  generalize ho : w.heap.size = o at HN ⊢
  go_loopw [10] (fun v10 wr => ∃ k : Nat, v10 = .int .i64 (k : Int) ∧ k ≤ 2 ∧ Hid (NoW w wr d o rr q)) (fun v10 _ => 2 - (intOf v10).toNat)
  case atStart => exact ⟨0, rfl, by omega, HN⟩
  case round =>
    clear HN
    obtain ⟨k, rfl, hk, HW⟩ := hrel
    by_cases hlt : k < 2
    · have hlt' : (k : Int) < 2 := by omega
      obtain ⟨a, hc, ha⟩ := HW.out.obj hlt
      have HA := hid ha
      have H1 := hid (qlink_none _ (HW.out.noobj ha) r d HD.out z)
      clear ha
      go_wp2_with (refine wpList_load_blk rfl 32 _ rfl o rfl 32 _ HW.out.id _ _ Try.underlying32 HSZ.out ?_)
      refine H1.out.mono ?_
      rintro _ w1 ⟨rfl, b1⟩
      have HW1 := hid (HW.out.keep b1)
      have H2 := hid (qlay_none _ (HW1.out.noobj HA.out) r d HD.out z)
      clear b1 H1 HW hc
      go_wp2_with (refine wpList_load_blk rfl 32 _ rfl o rfl 32 _ HW1.out.id _ _ Try.underlying32 HSZ.out ?_)
      refine H2.out.mono ?_
      rintro _ w2 ⟨rfl, b2⟩
      have HW2 := hid (HW1.out.keep b2)
      have H3 := hid (qmount_none _ (HW2.out.noobj HA.out) (.string (strB r)) (.string (strB t)) d)
      clear b2 H2 HW1
      go_wp2_with (refine wpList_load_blk rfl 32 _ rfl o rfl 32 _ HW2.out.id _ _ Try.underlying32 HSZ.out ?_)
      refine H3.out.mono ?_
      rintro _ w3 ⟨rfl, b3⟩
      have HW3 := hid (HW2.out.keep b3)
      have H4 := hid (qhas_none _ (.string (strB r)) d (HW3.out.noobj HA.out))
      clear b3 H3 HW2
      go_wp2_with (refine wpList_load_blk_g (by rfl) 32 _ rfl o rfl 32 _ HW3.out.id _ _ Try.underlying32 HSZ.out ?_)
      refine H4.out.mono ?_
      rintro _ w4 ⟨rfl, b4⟩
      have HW4 := hid (HW3.out.keep b4)
      have H5 := hid (qunlink_none _ r d HD.out (HW4.out.noobj HA.out))
      clear b4 H4 HW3
      go_wp2_with (refine wpList_load_blk_g (by rfl) 32 _ rfl o rfl 32 _ HW4.out.id _ _ Try.underlying32 HSZ.out ?_)
      refine H5.out.mono ?_
      rintro _ w5 ⟨rfl, b5⟩
      have HW5 := hid (HW4.out.keep b5)
      have H6 := hid (qforget_none _ d (HW5.out.noobj HA.out))
      clear b5 H5 HW4
      go_wp2_with (refine wpList_load_blk_g (by rfl) 32 _ rfl o rfl 32 _ HW5.out.id _ _ Try.underlying32 HSZ.out ?_)
      refine H6.out.mono ?_
      rintro _ w6 ⟨rfl, b6⟩
      have HW6 := hid (HW5.out.keep b6)
      have HO := hid (HW6.out.noobj HA.out)
      clear b6 H6 HW5
      go_wp2_with fail
      refine (quse_none _ _ HO.out).mono ?_
      rintro _ _ ⟨rfl, rfl⟩
      go_wp2_with fail
      refine (qrepos_none _ HO.out).mono ?_
      rintro _ _ ⟨rfl, rfl⟩
      go_wp2_with fail
      refine (qids_none _ _ HO.out).mono ?_
      rintro _ w7 ⟨rfl, b7⟩
      have HW7 := hid (HW6.out.keep b7)
      have HO7 := hid (HW7.out.noobj HA.out)
      clear b7 HW6 HO
      go_wp2_with fail
      refine (qlimit_none _ HO7.out).mono ?_
      rintro _ _ ⟨rfl, rfl⟩
      clear HO7
      go_wp2_with fail
      go_roundw
      case rel => exact ⟨k + 1, by go_num, by omega, HW7⟩
      case measure => simp [intOf]; omega
    · obtain rfl : k = 2 := by omega
      have H5 := hid (fun W => qawake_calls W)
      rw [show ((2 : Nat) : Int) = 2 from rfl]
      go_wp2_with fail
      refine (H5.out _).mono ?_
      rintro _ w5 ⟨rfl, b5⟩
      have HW5 := hid (HW.out.keep b5)
      clear b5 H5
      go_wp2_with fail
      go_ret
      exact ⟨rfl, ho ▸ HW5.out.below⟩
end Go.Proofs.Ytaagdjlnnkphdaa
