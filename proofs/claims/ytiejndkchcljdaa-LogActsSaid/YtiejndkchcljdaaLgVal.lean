/- Contracts: what is read of a sector of a log: its kind, its size, its part; whether it is valid. -/
import Derived.Test.YtiejndkchcljdaaLgSec
import Derived.Test.YtiejndkchcljdaaStr
namespace Go.Proofs.Ytiejndkchcljdaa
open Go.RowKit

theorem sec_at {s : List UInt8} {k : Nat} (h : k < s.length) : (bcs s).toArray[k]? = some (.int .u8 ((s[k]?.getD 0).toNat : Int)) := by
  simp [bcs, h, bv]
section
variable (g : Nat) (s : List UInt8) (w : World)
theorem kind_calls (hb : Blk w g 88 (bcs s).toArray) (h64 : s.length = 64) : Calls Try.prog 82 #[.pointer (some ⟨g, 0, none⟩)] w fun e w' => e = .returned (.int .u8 (kindL s : Int)) ∧ w = w' := by
  have c12 := hb.cell 12 (sec_at (s := s) (by omega))
  have HE := hid (show kindL s = (s[12]?.getD 0).toNat from rfl)
  rw [HE.out]
  clear hb HE
  generalize ((s[12]?.getD 0).toNat) = x at c12 ⊢
  go_enter Try.func82, Try.ntmps82
  go_wp2_with fail
  go_ret
  exact ⟨rfl, rfl⟩
theorem ssize_calls (hb : Blk w g 88 (bcs s).toArray) (h64 : s.length = 64) : Calls Try.prog 93 #[.pointer (some ⟨g, 0, none⟩)] w fun e w' => e = .returned (.int .i64 (sizeL s : Int)) ∧ w = w' := by
  have c13 := hb.cell 13 (sec_at (s := s) (by omega))
  have HE := hid (show sizeL s = (s[13]?.getD 0).toNat from rfl)
  rw [HE.out]
  have hlt : (s[13]?.getD 0).toNat < 256 := UInt8.toNat_lt _
  clear hb HE
  generalize ((s[13]?.getD 0).toNat) = x at c13 hlt ⊢
  go_enter Try.func93, Try.ntmps93
  go_wp2_with fail
  go_ret
  exact ⟨rfl, rfl⟩
attribute [local irreducible] wpQuiet
theorem part_calls (hb : Blk w g 88 (bcs s).toArray) (h64 : s.length = 64) (hn : sizeL s ≤ 49) : Calls Try.prog 84 #[.pointer (some ⟨g, 0, none⟩)] w fun e w' => e = .returned (.slice (some ⟨g, 14, none⟩) (sizeL s) 50) ∧ Below w.heap.size w w' := by
  have HS := hid (fun W (hW : Blk W g 88 (bcs s).toArray) => ssize_calls g s W hW h64)
  have hsum : IntKind.i64.wrap (14 + (sizeL s : Int)) = 14 + (sizeL s : Int) := by exact IntWalk.i64_in _ (by omega)
  have h1 : 14 + (sizeL s : Int) ≤ 64 := by omega
  have h2 : (14 + (sizeL s : Int)).toNat = 14 + sizeL s := by omega
  have h3 : (14 : Int) ≤ 14 + (sizeL s : Int) := by omega
  have hb' := hid hb
  clear hb h64
  generalize sizeL s = n at HS hn hsum h1 h2 h3 ⊢
  go_enter Try.func84, Try.ntmps84
  go_wp2_with fail
  refine wp_region_class (fun w' => Blk w' g 88 (bcs s).toArray ∧ Below w.heap.size w w') (by kernel_rfl) (by kernel_rfl) ⟨hb'.out.drew, (Below.refl _ _).drew⟩ ?_
  intro S _ at_ hS hin
  have HhS := hid hS; have Hin := hid hin
  clear hS hin
  (refine wpQuiet_step (fun K hK => ?_); go_simp; refine hK _ ?_; clear hK K)
  (refine wpQuiet_step (fun K hK => ?_); go_simp; refine hK _ ?_; clear hK K)
  (refine wpQuiet_step (fun K hK => ?_); go_simp; refine hK _ ?_; clear hK K)
  (refine wpQuiet_step (fun K hK => ?_); (refine quiet_callK rfl 93 #[.pointer (some ⟨g, 0, none⟩)] (fun w => by go_simp) (.int .i64 (n : Int)) (fun z => (HS.out _ (HhS.out z).1).mono fun e w' ⟨he, hw⟩ => ⟨he, z, hw.symm⟩) ?_); go_simp; refine hK _ ?_; clear hK K)
  (refine wpQuiet_step (fun K hK => ?_); go_simp; refine hK _ ?_; clear hK K)
  (refine wpQuiet_step (fun K hK => ?_); go_simp; refine hK _ ?_; clear hK K)
  (refine wpQuiet_step (fun K hK => ?_); go_simp; refine hK _ ?_; clear hK K)
  refine wpQuiet_nil ?_
  rintro w' ⟨-, hB⟩
  have HB := hid hB
  clear hB
  go_wp2_with fail
  go_ret
  exact ⟨by first | rfl | (congr 2; omega), HB.out⟩
theorem run_eq_sec (y z : List UInt8) (hy : y.length = 64) (hz : z.length = 64) (W : World) : (Op.equalIn 10000 88 (.agg (bcs y).toArray) (.agg (bcs z).toArray)).run Try.prog W = .ok (y == z) W :=
  run_equal_arr (P := Try.prog) 88 5 64 Try.underlying88 Try.underlying5 (by kernel_rfl) y z hy hz W
set_option maxRecDepth 20000 in
set_option maxHeartbeats 4000000 in
theorem secValid_calls (gen idx : Nat) (hg : gen < 4294967296) (hi : idx < 4294967296) (hb : Blk w g 88 (bcs s).toArray) (h64 : s.length = 64) :
    Calls Try.prog 81 #[.pointer (some ⟨g, 0, none⟩), .int .i64 (gen : Int), .int .i64 (idx : Int)] w fun e w' => e = .returned (.bool (validB gen idx s)) ∧ Below w.heap.size w w' := by
  have HK := hid (fun W (hW : Blk W g 88 (bcs s).toArray) => kind_calls g s W hW h64)
  have HS := hid (fun W (hW : Blk W g 88 (bcs s).toArray) => ssize_calls g s W hW h64)
  have HA := hid (fun W => allows_calls (kindL s) (sizeL s) W)
  have hk : kindL s < 256 := UInt8.toNat_lt _
  have hb' := hid hb
  have HE := hid (show validB gen idx s = (allowsB (kindL s) (sizeL s) && s == secL gen idx (kindL s) (partL s)) from rfl)
  rw [HE.out]
  by_cases ha : allowsB (kindL s) (sizeL s) = true
  · have hn := allows_size ha
    have HP := hid (fun W (hW : Blk W g 88 (bcs s).toArray) => part_calls g s W hW h64 hn)
    have hpl : (partL s).length = sizeL s := by unfold partL; simp; omega
    have HN := hid (fun W (hW : Blk W g 88 (bcs s).toArray) => newSector_calls gen idx (kindL s) (sizeL s) _ 50 (some ⟨g, 14, none⟩) (partL s) W (sb_blk hW 14 (sizeL s) (partL s) rfl hpl) hg hi hk hn)
    have hq := run_eq_sec s (secL gen idx (kindL s) (partL s)) h64 (secL_length (by omega))
    have HQ := hid hq
    rw [ha] at HA ⊢
    have Hsz := hid (show (Try.prog.info? 88).map (·.size) = some (bcs s).toArray.size from by rw [size_sec]; simp [bcs, h64])
    clear hb ha hq HE h64 hpl hg hi hk
    generalize secL gen idx (kindL s) (partL s) = L at HN HQ ⊢
    generalize kindL s = k at HK HA HN
    generalize sizeL s = n at HS HA HP HN hn
    go_enter Try.func81, Try.ntmps81
    go_wp2_with fail
    refine wp_region_class (fun w' => Blk w' g 88 (bcs s).toArray ∧ Below w.heap.size w w') (by kernel_rfl) (by kernel_rfl) ⟨hb'.out.drew, (Below.refl _ _).drew⟩ ?_
    intro S _ at_ hS hin
    have HhS := hid hS; have Hin := hid hin
    clear hS hin
    (refine wpQuiet_step (fun K hK => ?_); go_simp; refine hK _ ?_; clear hK K)
    (refine wpQuiet_step (fun K hK => ?_); (refine quiet_callK rfl 82 #[.pointer (some ⟨g, 0, none⟩)] (fun w => by go_simp) (.int .u8 (k : Int)) (fun z => (HK.out _ (HhS.out z).1).mono fun e w' ⟨he, hw⟩ => ⟨he, z, hw.symm⟩) ?_); go_simp; refine hK _ ?_; clear hK K)
    (refine wpQuiet_step (fun K hK => ?_); go_simp; refine hK _ ?_; clear hK K)
    (refine wpQuiet_step (fun K hK => ?_); (refine quiet_callK rfl 93 #[.pointer (some ⟨g, 0, none⟩)] (fun w => by go_simp) (.int .i64 (n : Int)) (fun z => (HS.out _ (HhS.out z).1).mono fun e w' ⟨he, hw⟩ => ⟨he, z, hw.symm⟩) ?_); go_simp; refine hK _ ?_; clear hK K)
    (refine wpQuiet_step (fun K hK => ?_); (refine quiet_callK rfl 92 #[.int .u8 (k : Int), .int .i64 (n : Int)] (fun w => by go_simp) (.bool true) (fun z => (HA.out _).mono fun e w' ⟨he, hw⟩ => ⟨he, z, hw.symm⟩) ?_); go_simp; refine hK _ ?_; clear hK K)
    (refine wpQuiet_step (fun K hK => ?_); go_simp; refine hK _ ?_; clear hK K)
    (refine wpQuiet_step (fun K hK => ?_); go_simp; refine hK _ ?_; clear hK K)
    (refine wpQuiet_step (fun K hK => ?_); go_simp; refine hK _ ?_; clear hK K)
    (refine wpQuiet_step (fun K hK => ?_); (refine quiet_loadK rfl _ _ rfl g rfl _ _ (fun z => (HhS.out z).1) 64 5 Try.underlying88 Hsz.out ?_); go_simp; refine hK _ ?_; clear hK K)
    (refine wpQuiet_step (fun K hK => ?_); go_simp; refine hK _ ?_; clear hK K)
    (refine wpQuiet_step (fun K hK => ?_); go_simp; refine hK _ ?_; clear hK K)
    (refine wpQuiet_step (fun K hK => ?_); go_simp; refine hK _ ?_; clear hK K)
    (refine wpQuiet_step (fun K hK => ?_); (refine quiet_callK rfl 82 #[.pointer (some ⟨g, 0, none⟩)] (fun w => by go_simp) (.int .u8 (k : Int)) (fun z => (HK.out _ (HhS.out z).1).mono fun e w' ⟨he, hw⟩ => ⟨he, z, hw.symm⟩) ?_); go_simp; refine hK _ ?_; clear hK K)
    (refine wpQuiet_step (fun K hK => ?_); go_simp; refine hK _ ?_; clear hK K)
    (refine wpQuiet_step (fun K hK => ?_); (refine quiet_callK rfl 84 #[.pointer (some ⟨g, 0, none⟩)] (fun w => by go_simp) (.slice (some ⟨g, 14, none⟩) n 50) (fun z => (HP.out _ (HhS.out z).1).mono fun e w' ⟨he, hw⟩ => ⟨he, Hin.out w' ⟨(HhS.out z).1.keep hw, (HhS.out z).2.trans (hw.mono (HhS.out z).2.size)⟩⟩) ?_); go_simp; refine hK _ ?_; clear hK K)
    (refine wpQuiet_step (fun K hK => ?_); (refine quiet_callK rfl 52 #[.int .i64 (gen : Int), .int .i64 (idx : Int), .int .u8 (k : Int), .slice (some ⟨g, 14, none⟩) n 50] (fun w => by go_simp) (.agg (bcs L).toArray) (fun z => (HN.out _ (HhS.out z).1).mono fun e w' ⟨he, hw⟩ => ⟨he, Hin.out w' ⟨(HhS.out z).1.keep hw, (HhS.out z).2.trans (hw.mono (HhS.out z).2.size)⟩⟩) ?_); go_simp; refine hK _ ?_; clear hK K)
    have hq := HQ.out
    (refine wpQuiet_step (fun K hK => ?_); go_simp; refine hK _ ?_; clear hK K)
    clear hq
    (refine wpQuiet_step (fun K hK => ?_); go_simp; refine hK _ ?_; clear hK K)
    (refine wpQuiet_step (fun K hK => ?_); go_simp; refine hK _ ?_; clear hK K)
    refine wpQuiet_nil ?_
    rintro w' ⟨-, hB⟩
    have HB := hid hB
    clear hB
    go_wp2_with fail
    go_ret
    exact ⟨rfl, HB.out⟩
  · have ha' : allowsB (kindL s) (sizeL s) = false := by simpa using ha
    rw [ha'] at HA ⊢
    clear hb ha ha' HE h64 hg hi hk
    generalize kindL s = k at HK HA
    generalize sizeL s = n at HS HA
    go_enter Try.func81, Try.ntmps81
    go_wp2_with fail
    refine wp_region_class (fun w' => Blk w' g 88 (bcs s).toArray ∧ Below w.heap.size w w') (by kernel_rfl) (by kernel_rfl) ⟨hb'.out.drew, (Below.refl _ _).drew⟩ ?_
    intro S _ at_ hS hin
    have HhS := hid hS; have Hin := hid hin
    clear hS hin
    (refine wpQuiet_step (fun K hK => ?_); go_simp; refine hK _ ?_; clear hK K)
    (refine wpQuiet_step (fun K hK => ?_); (refine quiet_callK rfl 82 #[.pointer (some ⟨g, 0, none⟩)] (fun w => by go_simp) (.int .u8 (k : Int)) (fun z => (HK.out _ (HhS.out z).1).mono fun e w' ⟨he, hw⟩ => ⟨he, z, hw.symm⟩) ?_); go_simp; refine hK _ ?_; clear hK K)
    (refine wpQuiet_step (fun K hK => ?_); go_simp; refine hK _ ?_; clear hK K)
    (refine wpQuiet_step (fun K hK => ?_); (refine quiet_callK rfl 93 #[.pointer (some ⟨g, 0, none⟩)] (fun w => by go_simp) (.int .i64 (n : Int)) (fun z => (HS.out _ (HhS.out z).1).mono fun e w' ⟨he, hw⟩ => ⟨he, z, hw.symm⟩) ?_); go_simp; refine hK _ ?_; clear hK K)
    (refine wpQuiet_step (fun K hK => ?_); (refine quiet_callK rfl 92 #[.int .u8 (k : Int), .int .i64 (n : Int)] (fun w => by go_simp) (.bool false) (fun z => (HA.out _).mono fun e w' ⟨he, hw⟩ => ⟨he, z, hw.symm⟩) ?_); go_simp; refine hK _ ?_; clear hK K)
    (refine wpQuiet_step (fun K hK => ?_); go_simp; refine hK _ ?_; clear hK K)
    (refine wpQuiet_step (fun K hK => ?_); go_simp; refine hK _ ?_; clear hK K)
    (refine wpQuiet_step (fun K hK => ?_); go_simp; refine hK _ ?_; clear hK K)
    (refine wpQuiet_step (fun K hK => ?_); go_simp; refine hK _ ?_; clear hK K)
    (refine wpQuiet_step (fun K hK => ?_); go_simp; refine hK _ ?_; clear hK K)
    (refine wpQuiet_step (fun K hK => ?_); go_simp; refine hK _ ?_; clear hK K)
    (refine wpQuiet_step (fun K hK => ?_); go_simp; refine hK _ ?_; clear hK K)
    (refine wpQuiet_step (fun K hK => ?_); go_simp; refine hK _ ?_; clear hK K)
    (refine wpQuiet_step (fun K hK => ?_); go_simp; refine hK _ ?_; clear hK K)
    (refine wpQuiet_step (fun K hK => ?_); go_simp; refine hK _ ?_; clear hK K)
    (refine wpQuiet_step (fun K hK => ?_); go_simp; refine hK _ ?_; clear hK K)
    (refine wpQuiet_step (fun K hK => ?_); go_simp; refine hK _ ?_; clear hK K)
    (refine wpQuiet_step (fun K hK => ?_); go_simp; refine hK _ ?_; clear hK K)
    (refine wpQuiet_step (fun K hK => ?_); go_simp; refine hK _ ?_; clear hK K)
    refine wpQuiet_nil ?_
    rintro w' ⟨-, hB⟩
    have HB := hid hB
    clear hB
    go_wp2_with fail
    go_ret
    exact ⟨rfl, HB.out⟩
end
end Go.Proofs.Ytiejndkchcljdaa
