/- The law WireNone, walked. -/
import Derived.Test.YtmlahlnjfoapaaaWrNone
namespace Go.Proofs.Ytmlahlnjfoapaaa
open Go.RowKit

theorem same32 (w : World) : (Op.equalIn 10000 33 (.agg (bcells (zeroB 32))) (.agg (bcells (zeroB 32)))).run Try.prog w = .ok true w := by
  have := run_equal_arr (P := Try.prog) 33 5 32 Try.underlying33 Try.underlying5 (by kernel_rfl) (zeroB 32) (zeroB 32) rfl rfl w
  rw [beq_self_eq_true] at this
  exact this
set_option maxRecDepth 20000 in
theorem same32b (w : World) : (Op.equalIn 10000 33 (.agg (bcells (zeroB 32))) (.agg #[.int .u8 0, .int .u8 0, .int .u8 0, .int .u8 0, .int .u8 0, .int .u8 0, .int .u8 0, .int .u8 0, .int .u8 0, .int .u8 0, .int .u8 0, .int .u8 0, .int .u8 0, .int .u8 0, .int .u8 0, .int .u8 0, .int .u8 0, .int .u8 0, .int .u8 0, .int .u8 0, .int .u8 0, .int .u8 0, .int .u8 0, .int .u8 0, .int .u8 0, .int .u8 0, .int .u8 0, .int .u8 0, .int .u8 0, .int .u8 0, .int .u8 0, .int .u8 0])).run Try.prog w = .ok true w := same32 w
set_option maxHeartbeats 4000000 in
set_option maxRecDepth 20000 in
theorem none_walk (b : Int) (w : World) : Calls Try.prog 5 #[.int .i64 b] w fun e w' => e = .returned (.bool true) ∧ Below w.heap.size w w' := by
  go_enter Try.func5, Try.ntmps5
  go_wp2_with fail
  have b1 := below_new w (.cells #[.pointer none, .pointer none, .slice none 0 0, .int .i64 0] 74)
  have k1 := Blk.new w 74 #[.pointer none, .pointer none, .slice none 0 0, .int .i64 0]
  have s1 := size_new w (.cells #[.pointer none, .pointer none, .slice none 0 0, .int .i64 0] 74)
  generalize w.alloc (.cells #[.pointer none, .pointer none, .slice none 0 0, .int .i64 0] 74) = w1 at b1 k1 s1 ⊢
  rw [← s1]
  have b2 := below_new w1 (.cells #[.pointer none, .pointer (some ⟨w.heap.size, 0, none⟩)] 23)
  have k2 := Blk.new w1 23 #[.pointer none, .pointer (some ⟨w.heap.size, 0, none⟩)]
  have s2 := size_new w1 (.cells #[.pointer none, .pointer (some ⟨w.heap.size, 0, none⟩)] 23)
  generalize w1.alloc (.cells #[.pointer none, .pointer (some ⟨w.heap.size, 0, none⟩)] 23) = w2 at b2 k2 s2 ⊢
  rw [← s2]
  have b3 := below_new w2 (.cells #[.pointer none, .pointer none, .slice none 0 0, .int .i64 0] 77)
  have k3 := Blk.new w2 77 #[.pointer none, .pointer none, .slice none 0 0, .int .i64 0]
  have s3 := size_new w2 (.cells #[.pointer none, .pointer none, .slice none 0 0, .int .i64 0] 77)
  generalize w2.alloc (.cells #[.pointer none, .pointer none, .slice none 0 0, .int .i64 0] 77) = w3 at b3 k3 s3 ⊢
  rw [← s3]
  have b4 := below_new w3 (.cells #[.pointer none, .pointer (some ⟨w2.heap.size, 0, none⟩)] 57)
  have k4 := Blk.new w3 57 #[.pointer none, .pointer (some ⟨w2.heap.size, 0, none⟩)]
  generalize w3.alloc (.cells #[.pointer none, .pointer (some ⟨w2.heap.size, 0, none⟩)] 57) = W at b4 k4 ⊢
  have HW := hid (show ∀ k, k < 2 → ∃ h, W.cell? ⟨w1.heap.size, k, none⟩ = some h ∧ NoObj W h from fun k hk => by
    have kk := (k2.keep b3).keep b4
    match k, hk with
    | 0, _ => exact ⟨_, kk.cell 0 rfl, .inl rfl⟩
    | 1, _ => exact ⟨_, kk.cell 1 rfl, .inr ⟨_, rfl, (((k1.keep b2).keep b3).keep b4).cell 0 rfl⟩⟩
    | n + 2, h => omega)
  have HRR := hid (show ∀ k, k < 2 → ∃ h, W.cell? ⟨w3.heap.size, k, none⟩ = some h ∧ NoObj W h from fun k hk => by
    match k, hk with
    | 0, _ => exact ⟨_, k4.cell 0 rfl, .inl rfl⟩
    | 1, _ => exact ⟨_, k4.cell 1 rfl, .inr ⟨_, rfl, (k3.keep b4).cell 0 rfl⟩⟩
    | n + 2, h => omega)
  have B := hid (show Below w.heap.size w W from by
    have h12 := b1.trans (b2.mono b1.size)
    have h13 := h12.trans (b3.mono h12.size)
    exact h13.trans (b4.mono h13.size))
  clear b1 b2 b3 b4 k1 k2 k3 k4 s1 s2 s3
  generalize w1.heap.size = G1 at HW ⊢
  generalize w3.heap.size = G3 at HRR ⊢
  go_loopw [5, 6, 7, 8, 9] (fun i _ _ _ _ wr => ∃ k : Nat, k ≤ 2 ∧ i = .int .i64 (k : Int) ∧ Hid (Below W.heap.size W wr) ∧ Hid (Below w.heap.size w wr)) (fun i _ _ _ _ _ => 2 - (intOf i).toNat)
  case atStart => exact ⟨0, by omega, rfl, Below.refl _ _, B⟩
  case round =>
    clear B
    obtain ⟨k, hk, rfl, HB2, HB⟩ := hrel
    by_cases hlt : k < 2
    · obtain ⟨h, hc, hn⟩ := HW.out k hlt
      obtain ⟨q, qc, qn⟩ := HRR.out k hlt
      have HH := hid (hn.keep HB2.out)
      have HR := hid (qn.keep HB2.out)
      have c1 := (HB2.out.cell (p := ⟨G1, k, none⟩) (lt_of_cell hc)).trans hc
      have c2 := (HB2.out.cell (p := ⟨G3, k, none⟩) (lt_of_cell qc)).trans qc
      clear hc hn qc qn
      have q0 : (k : Int) < 2 := by omega
      have p0 : (0 : Int) ≤ (k : Int) := by omega
      go_wp2_with fail
      go_region
      generalize hwr : wr.drew = wd
      have HH := hid (show NoObj wd h from hwr ▸ HH.out); have HR := hid (show NoObj wd q from hwr ▸ HR.out); have HB := hid (show Below w.heap.size w wd from hwr ▸ HB.out.drew); have HB2 := hid (show Below W.heap.size W wd from hwr ▸ HB2.out.drew)
      clear hwr c1 c2
      go_wp2_with fail
      refine (wDone_none h _ HH.out).mono ?_
      rintro _ _ ⟨rfl, rfl⟩
      go_wp2_with fail
      refine (wNum_none h _ _ HH.out).mono ?_
      rintro _ _ ⟨rfl, rfl⟩
      go_wp2_with fail
      refine (wText_none h _ _ HH.out).mono ?_
      rintro _ _ ⟨rfl, rfl⟩
      go_wp2_with fail
      refine (wBytes_none h _ HH.out).mono ?_
      rintro _ _ ⟨rfl, rfl⟩
      go_wp2_with fail
      refine (wID_none h _ HH.out).mono ?_
      rintro _ v1 ⟨rfl, bb⟩
      have HH := hid (HH.out.keep bb); have HR := hid (HR.out.keep bb); have HB := hid (HB.out.trans (bb.mono HB.out.size)); have HB2 := hid (HB2.out.trans (bb.mono HB2.out.size))
      clear bb
      go_wp2_with fail
      refine (wDot_none h _ _ _ HH.out).mono ?_
      rintro _ v2 ⟨rfl, bb⟩
      have HH := hid (HH.out.keep bb); have HR := hid (HR.out.keep bb); have HB := hid (HB.out.trans (bb.mono HB.out.size)); have HB2 := hid (HB2.out.trans (bb.mono HB2.out.size))
      clear bb
      go_wp2_with fail
      refine (wVec_none h _ HH.out).mono ?_
      rintro _ _ ⟨rfl, rfl⟩
      go_wp2_with fail
      refine (wBool_none h _ _ HH.out).mono ?_
      rintro _ _ ⟨rfl, rfl⟩
      go_wp2_with fail
      refine (wLen_none h _ HH.out).mono ?_
      rintro _ _ ⟨rfl, rfl⟩
      go_wp2_with fail
      refine (rNum_none q _ HR.out).mono ?_
      rintro _ _ ⟨rfl, rfl⟩
      go_wp2_with fail
      refine (rText_none q _ _ HR.out).mono ?_
      rintro _ _ ⟨rfl, rfl⟩
      go_wp2_with fail
      refine (rBytes_none q _ _ HR.out).mono ?_
      rintro _ _ ⟨rfl, rfl⟩
      go_wp2_with fail
      refine (rID_none q _ HR.out).mono ?_
      rintro _ v3 ⟨rfl, bb⟩
      have HH := hid (HH.out.keep bb); have HR := hid (HR.out.keep bb); have HB := hid (HB.out.trans (bb.mono HB.out.size)); have HB2 := hid (HB2.out.trans (bb.mono HB2.out.size))
      clear bb
      have heq := same32b
      go_wp2_with fail
      refine (rDot_none q _ HR.out).mono ?_
      rintro _ v4 ⟨rfl, bb⟩
      have HH := hid (HH.out.keep bb); have HR := hid (HR.out.keep bb); have HB := hid (HB.out.trans (bb.mono HB.out.size)); have HB2 := hid (HB2.out.trans (bb.mono HB2.out.size))
      clear bb
      clear heq
      go_wp2_with fail
      refine (rVec_none q _ _ HR.out).mono ?_
      rintro _ _ ⟨rfl, rfl⟩
      go_wp2_with fail
      refine (rBool_none q _ HR.out).mono ?_
      rintro _ _ ⟨rfl, rfl⟩
      go_wp2_with fail
      refine (rest_none q _ HR.out).mono ?_
      rintro _ _ ⟨rfl, rfl⟩
      go_wp2_with fail
      refine (rEnd_none q _ HR.out).mono ?_
      rintro _ v5 ⟨rfl, bb⟩
      have HH := hid (HH.out.keep bb); have HR := hid (HR.out.keep bb); have HB := hid (HB.out.trans (bb.mono HB.out.size)); have HB2 := hid (HB2.out.trans (bb.mono HB2.out.size))
      clear bb
      go_wp2_with fail
      go_roundw
      case rel => exact ⟨k + 1, by omega, by go_num, HB2, HB⟩
      case measure => simp [intOf]; omega
    · have q0 : ¬ (k : Int) < 2 := by omega
      go_wp2_with fail
      refine (awake_calls wr).mono ?_
      rintro _ w4 ⟨rfl, b4⟩
      have B5 := hid (HB.out.trans (b4.mono HB.out.size))
      clear b4
      go_wp2_with fail
      go_ret
      exact ⟨rfl, B5.out⟩
end Go.Proofs.Ytmlahlnjfoapaaa
