/- The law UploadNone, walked. -/
import Derived.Test.YtgacdimjbpkgoaaDoorUpNone
namespace Go.Proofs.YtgacdimjbpkgoaaDoor
open Go.RowKit Crc

theorem up_sameBytes (B n c B' n' c' : Nat) (A A' : Option Addr) (xs bs : List UInt8) (w : World) (ha : SB w B A n xs) (hb : SB w B' A' n' bs) :
    Calls Tryd.prog 39 #[.slice A n c, .slice A' n' c'] w fun e w' => e = .returned (.bool (xs == bs)) ∧ w = w' := by
  have h1 := run_str (P := Tryd.prog) ha c 22 9 5 Tryd.underlying22 Tryd.underlying5 Tryd.underlying9
  have h2 := run_str (P := Tryd.prog) hb c' 22 9 5 Tryd.underlying22 Tryd.underlying5 Tryd.underlying9
  go_enter Tryd.func39, Tryd.ntmps39
  go_wp2_with fail
  go_ret
  exact ⟨ret_bool (strB_eq xs bs), rfl⟩
set_option maxHeartbeats 1000000 in
theorem up_sameSession (z : Int) (r : ByteArray) (A A' : Option Addr) (n c n' c' B B' : Nat) (bs : List UInt8) (w : World) (ha : SB w B A n bs) (hb : SB w B' A' n' bs) :
    Calls Tryd.prog 12 #[.agg #[.int .i64 z, .string r, .slice A n c], .agg #[.int .i64 z, .string r, .slice A' n' c']] w fun e w' => e = .returned (.bool true) ∧ Below w.heap.size w w' := by
  obtain ⟨W, hW, k0, k1, hB, -⟩ := up_two w #[.int .i64 z, .string r, .slice A n c] #[.int .i64 z, .string r, .slice A' n' c'] 37 37
  have HS := hid (up_sameBytes B n c B' n' c' A A' bs bs W (ha.keep hB) (hb.keep hB))
  have HW := hid hW; have HB := hid hB
  have c0 : W.cell? ⟨w.heap.size, 0, none⟩ = some (.int .i64 z) := k0.cell 0 rfl
  have c1 : W.cell? ⟨w.heap.size, 1, none⟩ = some (.string r) := k0.cell 1 rfl
  have c2 : W.cell? ⟨w.heap.size, 2, none⟩ = some (.slice A n c) := k0.cell 2 rfl
  have d0 : W.cell? ⟨w.heap.size + 1, 0, none⟩ = some (.int .i64 z) := k1.cell 0 rfl
  have d1 : W.cell? ⟨w.heap.size + 1, 1, none⟩ = some (.string r) := k1.cell 1 rfl
  have d2 : W.cell? ⟨w.heap.size + 1, 2, none⟩ = some (.slice A' n' c') := k1.cell 2 rfl
  rw [hW] at c0 c1 c2 d0 d1 d2
  rw [show (bs == bs) = true from by simp] at HS
  clear ha hb hW k0 k1 hB
  go_enter Tryd.func12, Tryd.ntmps12
  go_wp2_with fail
  rw [← HW.out]
  refine HS.out.mono ?_
  rintro _ _ ⟨rfl, rfl⟩
  clear c0 c1 c2 d0 d1 d2 HW HS
  go_wp2_with fail
  go_ret
  exact ⟨rfl, HB.out⟩
/-- where the law is: the digest, the row of tables that nobody made -/
structure UnW (w0 w : World) (d : List UInt8) (o r : Nat) (q : Nat) : Prop where
  below : Below w0.heap.size w0 w
  id : Blk w o 24 (bcells d)
  row : Blk w r 26 #[.pointer none, .pointer (some ⟨q, 0, none⟩)]
  zero : w.cell? ⟨q, 0, none⟩ = some (.pointer none)
theorem UnW.keep {w0 w w' : World} {d : List UInt8} {o r q : Nat} (h : UnW w0 w d o r q) (hb : Below w.heap.size w w') : UnW w0 w' d o r q :=
  ⟨h.below.trans (hb.mono h.below.size), h.id.keep hb, h.row.keep hb, (hb.cell (p := ⟨q, 0, none⟩) (lt_of_cell h.zero)).trans h.zero⟩
theorem UnW.obj {w0 w : World} {d : List UInt8} {o r q : Nat} (h : UnW w0 w d o r q) {k : Nat} (hk : k < 2) : ∃ a, w.cell? ⟨r, k, none⟩ = some (.pointer a) ∧ (a = none ∨ a = some ⟨q, 0, none⟩) := by
  rcases k with _ | _ | k
  · exact ⟨none, h.row.cell 0 rfl, .inl rfl⟩
  · exact ⟨_, h.row.cell 1 rfl, .inr rfl⟩
  · omega
theorem UnW.no {w0 w : World} {d : List UInt8} {o r q : Nat} (h : UnW w0 w d o r q) {a : Option Addr} (ha : a = none ∨ a = some ⟨q, 0, none⟩) : UpNo w (.pointer a) := by
  rcases ha with rfl | rfl
  · exact .inl rfl
  · exact .inr ⟨q, rfl, h.zero⟩
set_option maxRecDepth 100000 in
set_option maxHeartbeats 8000000 in
theorem upnone_short (x off : Int) (A : Option Addr) (n c : Nat) (d : List UInt8) (hd : d.length = 32) (w : World) (hn : n ≤ 60) :
    Calls Tryd.prog 3 #[.int .i64 x, .int .i64 off, .slice A n c, .agg (bcells d)] w fun e w' => e = .returned (.bool true) ∧ Below w.heap.size w w' := by
  have HSZ := hid (show (Tryd.prog.info? 24).map (·.size) = some (bcells d).size from by rw [show (bcells d).size = 32 from by simp [bcells, hd]]; kernel_rfl)
  have hn' : ¬ 60 < n := by omega
  have hnd : decide ((60 : Int) < (n : Int)) = false := by simp; omega
  have HN := hid (show ∃ W, ((w.alloc (.cells (bcells d) 24)).alloc (.cells #[.pointer none, .int .i64 0, .int .i64 0, .slice none 0 0] 29)).alloc (.cells #[.pointer none, .pointer (some ⟨w.heap.size + 1, 0, none⟩)] 26) = W ∧ UnW w W d w.heap.size (w.heap.size + 1 + 1) (w.heap.size + 1) from by
    obtain ⟨W2, e2, a1, a2, b2, z2⟩ := up_two w (bcells d) #[.pointer none, .int .i64 0, .int .i64 0, .slice none 0 0] 24 29
    rw [← e2]
    have a3 := Blk.new W2 26 #[.pointer none, .pointer (some ⟨w.heap.size + 1, 0, none⟩)]
    have q3 := below_new W2 (.cells #[.pointer none, .pointer (some ⟨w.heap.size + 1, 0, none⟩)] 26)
    rw [z2] at a3
    exact ⟨_, rfl, b2.trans (q3.mono b2.size), a1.keep q3, a3, (a2.keep q3).cell 0 rfl⟩)
  go_enter Tryd.func3, Tryd.ntmps3
  go_wp2_with fail
  clear hn hn' hnd
  obtain ⟨W, hW, hN⟩ := HN.out
  clear HN
  rw [hW]
  have HN := hid hN
  clear hW hN
  generalize w.heap.size + 1 + 1 = r at HN ⊢
  generalize hq : w.heap.size + 1 = q at HN ⊢
  generalize ho : w.heap.size = o at HN ⊢
  go_loopw [10, 11, 12, 13, 14, 15, 16, 17, 18, 19] (fun v6 _ _ _ _ _ _ _ _ _ wr => ∃ k : Nat, v6 = .int .i64 (k : Int) ∧ k ≤ 2 ∧ Hid (UnW w wr d o r q)) (fun v6 _ _ _ _ _ _ _ _ _ _ => 2 - (intOf v6).toNat)
  case atStart => exact ⟨0, rfl, by omega, HN⟩
  case round =>
    clear HN
    obtain ⟨k, rfl, hk, HW⟩ := hrel
    by_cases hlt : k < 2
    · have hlt' : (k : Int) < 2 := by omega
      have p0 : (0 : Int) ≤ (k : Int) := by omega
      obtain ⟨a, hc, ha⟩ := HW.out.obj hlt
      have HA := hid ha
      clear ha
      go_wp2_with fail
      refine (un_start (.pointer a) _ wr (HW.out.no HA.out)).mono ?_
      rintro _ w1 ⟨rfl, b1⟩
      have HW := hid (HW.out.keep b1)
      clear b1 hc
      go_wp2_with fail
      refine (un_write (.pointer a) x off A n c w1 (HW.out.no HA.out)).mono ?_
      rintro _ w2 ⟨rfl, b1⟩
      have HW := hid (HW.out.keep b1)
      clear b1
      go_wp2_with fail
      refine (un_offset (.pointer a) x w2 (HW.out.no HA.out)).mono ?_
      rintro _ w3 ⟨rfl, b1⟩
      have HW := hid (HW.out.keep b1)
      clear b1
      go_wp2_with (refine wpList_load_blk rfl 24 _ rfl o rfl 24 _ HW.out.id _ _ Tryd.underlying24 HSZ.out ?_)
      refine (un_finish (.pointer a) x d w3 (HW.out.no HA.out)).mono ?_
      rintro _ w4 ⟨rfl, b1⟩
      have HW := hid (HW.out.keep b1)
      unfold sesZ
      clear b1
      go_wp2_with fail
      have b5 := below_new w4 (.cells #[.int .i64 0, .string ⟨#[]⟩, .slice none 0 0] 37)
      have HW := hid (HW.out.keep b5)
      clear b5
      generalize w4.alloc (.cells #[.int .i64 0, .string ⟨#[]⟩, .slice none 0 0] 37) = w5 at HW ⊢
      refine (up_sameSession 0 ⟨#[]⟩ none none 0 0 0 0 0 0 [] w5 (SB.nil _ _ _) (SB.nil _ _ _)).mono ?_
      rintro _ w6 ⟨rfl, b1⟩
      have HW := hid (HW.out.keep b1)
      clear b1
      go_wp2_with fail
      refine (un_cancel (.pointer a) x w6 (HW.out.no HA.out)).mono ?_
      rintro _ w7 ⟨rfl, b1⟩
      have HW := hid (HW.out.keep b1)
      clear b1
      go_wp2_with fail
      refine (un_next (.pointer a) w7 (HW.out.no HA.out)).mono ?_
      rintro _ _ ⟨rfl, rfl⟩
      go_wp2_with fail
      refine (un_list (.pointer a) w7 (HW.out.no HA.out)).mono ?_
      rintro _ _ ⟨rfl, rfl⟩
      go_wp2_with fail
      go_roundw
      case rel => exact ⟨k + 1, by go_num, by omega, HW⟩
      case measure => simp [intOf]; omega
    · obtain rfl : k = 2 := by omega
      go_wp2_with fail
      refine (uawake_calls _).mono ?_
      rintro _ w5 ⟨rfl, b5⟩
      have HW := hid (HW.out.keep b5)
      clear b5
      go_wp2_with fail
      go_ret
      exact ⟨rfl, ho ▸ HW.out.below⟩
theorem upnone_long (x off : Int) (A : Option Addr) (n c : Nat) (d : List UInt8) (w : World) (hn : 60 < n) :
    Calls Tryd.prog 3 #[.int .i64 x, .int .i64 off, .slice A n c, .agg (bcells d)] w fun e w' => e = .returned (.bool true) ∧ Below w.heap.size w w' := by
  have HK := hid (below_new w (.cells (bcells d) 24))
  go_enter Tryd.func3, Tryd.ntmps3
  go_wp2_with fail
  refine (uawake_calls _).mono ?_
  rintro _ w1 ⟨rfl, h1⟩
  have H := hid (HK.out.trans (h1.mono HK.out.size))
  clear h1
  go_wp2_with fail
  go_ret
  exact ⟨rfl, H.out⟩
theorem upnone_calls (x off : Int) (A : Option Addr) (n c : Nat) (d : List UInt8) (hd : d.length = 32) (w : World) :
    Calls Tryd.prog 3 #[.int .i64 x, .int .i64 off, .slice A n c, .agg (bcells d)] w fun e w' => e = .returned (.bool true) ∧ Below w.heap.size w w' := by
  by_cases h : 60 < n
  · exact upnone_long x off A n c d w h
  · exact upnone_short x off A n c d hd w (by omega)
end Go.Proofs.YtgacdimjbpkgoaaDoor
