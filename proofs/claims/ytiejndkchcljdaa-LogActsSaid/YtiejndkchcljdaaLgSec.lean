/- Contract: the bytes of a number. And: cells laid over cells. -/
import Derived.Test.YtiejndkchcljdaaLgLow
import Derived.Test.YtiejndkchcljdaaPass
import Derived.Test.YtiejndkchcljdaaNewSet
import Derived.Laws.CopyOwn
import Derived.Test.YtiejndkchcljdaaPhaseT
namespace Go.Proofs.Ytiejndkchcljdaa
open Go.RowKit

theorem splice_mid {α : Type} (A X C Y : List α) (k : Nat) (hk : A.length = k) (h : Y.length = X.length) : splice (A ++ (X ++ C)) k Y = A ++ (Y ++ C) := by
  subst hk
  unfold splice
  rw [List.take_left, h, ← List.append_assoc A X C, List.drop_append_of_le_length (by simp), List.drop_of_length_le (by simp), List.nil_append]
theorem ofNat_bv (n : Nat) : bv (UInt8.ofNat n) = .int .u8 ((n : Int) % 256) := by
  unfold bv
  rw [UInt8.toNat_ofNat']
  simp
theorem ofNat_bv_lt {n : Nat} (h : n < 256) : bv (UInt8.ofNat n) = .int .u8 (n : Int) := by
  rw [ofNat_bv, Int.emod_eq_of_lt (by omega) (by omega)]
theorem number_calls (n : Nat) (hn : n < 4294967296) (w : World) : Calls Try.prog 75 #[.int .u32 (n : Int)] w fun e w' => e = .returned (.slice (some ⟨w.heap.size, 0, none⟩) 4 4) ∧ w' = w.alloc (.cells (bcs (be4 n)).toArray 5) := by
  have HE := hid (show (bcs (be4 n)).toArray = #[.int .u8 ((n : Int) / 16777216), .int .u8 ((n : Int) / 65536 % 256), .int .u8 ((n : Int) / 256 % 256), .int .u8 ((n : Int) % 256)] from by
    simp only [bcs, be4, List.map_cons, List.map_nil, ofNat_bv]
    have : (n : Int) / 16777216 % 256 = (n : Int) / 16777216 := by omega
    simp [this])
  rw [HE.out]
  have hn' : (n : Int) < 4294967296 := by omega
  clear HE
  go_enter Try.func75, Try.ntmps75
  go_wp2_with fail
  go_ret
  exact ⟨rfl, rfl⟩
/-! ### a new sector -/
theorem size_sec : (Try.prog.info? 88).map (·.size) = some 64 := by kernel_rfl
theorem info_u8 : (Try.prog.info? 5).map (·.size) = some 1 := by kernel_rfl
theorem bcs_append (a b : List UInt8) : bcs (a ++ b) = bcs a ++ bcs b := by simp [bcs]
/-- what is in the sector behind each step -/
def ns0 : List Value := List.replicate 64 (.int .u8 0)
theorem zero_sec : (Try.prog.info? 88).map (·.zero) = some (some (.agg ns0.toArray)) := by kernel_rfl
def ns1 (gen : Nat) : List Value := splice ns0 4 (bcs (be4 gen))
def ns2 (gen idx : Nat) : List Value := splice (ns1 gen) 8 (bcs (be4 idx))
def ns4 (gen idx k n : Nat) : List Value := ((ns2 gen idx).set 12 (.int .u8 (k : Int))).set 13 (.int .u8 (n : Int))
def ns5 (gen idx k n : Nat) (p : List UInt8) : List Value := splice (ns4 gen idx k n) 14 (bcs p)
def ns6 (gen idx k n : Nat) (p : List UInt8) : List Value := (ns5 gen idx k n p).set 63 (.int .u8 165)
theorem ns2_eq (gen idx : Nat) : ns2 gen idx = List.replicate 4 (.int .u8 0) ++ (bcs (be4 gen) ++ (bcs (be4 idx) ++ List.replicate 52 (.int .u8 0))) := by
  have e0 : ns0 = List.replicate 4 (.int .u8 0) ++ (List.replicate 4 (.int .u8 0) ++ List.replicate 56 (.int .u8 0)) := rfl
  have e1 : ns1 gen = (List.replicate 4 (.int .u8 0) ++ bcs (be4 gen)) ++ (List.replicate 4 (.int .u8 0) ++ List.replicate 52 (.int .u8 0)) := by
    unfold ns1
    rw [e0, splice_mid _ _ _ _ 4 (by simp) (by simp [bcs, be4_length])]
    simp
  unfold ns2
  rw [e1, splice_mid _ _ _ _ 8 (by simp [bcs, be4_length]) (by simp [bcs, be4_length])]
  simp
theorem ns4_eq (gen idx k n : Nat) : ns4 gen idx k n = List.replicate 4 (.int .u8 0) ++ (bcs (be4 gen) ++ (bcs (be4 idx) ++ (.int .u8 (k : Int) :: .int .u8 (n : Int) :: List.replicate 50 (.int .u8 0)))) := by
  unfold ns4
  rw [ns2_eq]
  simp only [bcs, be4, List.map_cons, List.map_nil]
  rfl
theorem ns6_eq (gen idx k n : Nat) (p : List UInt8) (hk : k < 256) (hn : p.length = n) (h : n ≤ 49) : ns6 gen idx k n p = bcs (List.replicate 4 0 ++ bodyL gen idx k p) := by
  have e4 : ns4 gen idx k n = (List.replicate 4 (.int .u8 0) ++ (bcs (be4 gen) ++ (bcs (be4 idx) ++ [.int .u8 (k : Int), .int .u8 (n : Int)]))) ++ (List.replicate n (.int .u8 0) ++ (List.replicate (49 - n) (.int .u8 0) ++ [.int .u8 0])) := by
    rw [ns4_eq]
    have : List.replicate 50 (Value.int .u8 0) = List.replicate n (.int .u8 0) ++ (List.replicate (49 - n) (.int .u8 0) ++ List.replicate 1 (.int .u8 0)) := by
      rw [List.replicate_append_replicate, List.replicate_append_replicate]; congr 1; omega
    rw [this]
    simp
  have e5 : ns5 gen idx k n p = (List.replicate 4 (.int .u8 0) ++ (bcs (be4 gen) ++ (bcs (be4 idx) ++ ([.int .u8 (k : Int), .int .u8 (n : Int)] ++ (bcs p ++ List.replicate (49 - n) (.int .u8 0)))))) ++ [.int .u8 0] := by
    unfold ns5
    rw [e4, splice_mid _ _ _ _ 14 (by simp [bcs, be4_length]) (by simp [bcs, hn])]
    simp
  unfold ns6
  rw [e5, List.set_append_right _ _ (by simp [bcs, be4_length, hn]; omega)]
  have e6 : 63 - (List.replicate 4 (Value.int .u8 0) ++ (bcs (be4 gen) ++ (bcs (be4 idx) ++ ([Value.int .u8 (k : Int), Value.int .u8 (n : Int)] ++ (bcs p ++ List.replicate (49 - n) (Value.int .u8 0)))))).length = 0 := by
    simp [bcs, be4_length, hn]; omega
  rw [e6]
  have ek : bv (UInt8.ofNat k) = .int .u8 (k : Int) := ofNat_bv_lt hk
  have en : bv (UInt8.ofNat n) = .int .u8 (n : Int) := ofNat_bv_lt (by omega)
  have e0 : bv 0 = Value.int .u8 0 := rfl
  have e1 : bv 165 = Value.int .u8 165 := rfl
  simp [bodyL, bcs, ek, en, hn, List.map_replicate, e0, e1]
theorem ns6_sum (gen idx k n : Nat) (p : List UInt8) (hk : k < 256) (hn : p.length = n) (h : n ≤ 49) : splice (ns6 gen idx k n p) 0 (bcs (be4 (Crc.sum (bodyL gen idx k p)).toNat)) = bcs (secL gen idx k p) := by
  rw [ns6_eq gen idx k n p hk hn h, bcs_append]
  have := splice_mid [] (bcs (List.replicate 4 0)) (bcs (bodyL gen idx k p)) (bcs (be4 (Crc.sum (bodyL gen idx k p)).toNat)) 0 rfl (by simp [bcs, be4_length])
  rw [List.nil_append] at this
  rw [this, secL, bcs_append]
  rfl
end Go.Proofs.Ytiejndkchcljdaa
/- Contract: a new sector of a log. -/
namespace Go.Proofs.Ytiejndkchcljdaa
open Go.RowKit

theorem u32_keep {n : Nat} (h : n < 4294967296) : IntKind.u32.wrap (n : Int) = (n : Int) := by
  have : (n : Int) % 4294967296 = n := Int.emod_eq_of_lt (by omega) (by omega)
  simpa [IntKind.wrap, IntKind.bits, IntKind.signed] using this
theorem len_be4 (n : Nat) : (bcs (be4 n)).length = 4 := rfl
theorem blk_below {B : Nat} {w0 w w' : World} (h : Below B w0 w) (k : Below B w w') : Below B w0 w' := h.trans k
/-- bytes of a block whose cells are known -/
theorem sb_blk {w : World} {g : Nat} {t : TypeId} {l : List UInt8} (hb : Blk w g t (bcs l).toArray) (off n : Nat) (bs : List UInt8) (hl : (l.drop off).take n = bs) (hn : bs.length = n) : SB w w.heap.size (some ⟨g, off, none⟩) n bs :=
  ⟨hn, fun _ => ⟨g, off, rfl, hb.lt, fun j x hj => hb.cell _ (by
    subst hl
    rw [List.getElem?_take] at hj
    split at hj
    · rw [List.getElem?_drop] at hj
      simp [bcs, hj]
    · cases hj)⟩⟩
theorem new_cells (w : World) (t : TypeId) (cs : List Value) : ∀ (j : Nat) v, cs[j]? = some v → (w.alloc (.cells cs.toArray t)).cell? ((⟨w.heap.size, 0, none⟩ : Addr).add j) = some v := fun j v hv => by
  rw [Addr.add_lit, Nat.zero_add]
  exact (Blk.new w t cs.toArray).cell j (by simpa using hv)
theorem at_some {l : List Value} {k : Nat} (h : k < l.length) : ∃ x, l.toArray[k]? = some x := ⟨l[k], by simp [h]⟩
theorem ns_len1 (gen : Nat) : (ns1 gen).length = 64 := by
  unfold ns1
  rw [length_splice _ _ _ (by simp [ns0, bcs, be4_length])]
  rfl
theorem ns_len2 (gen idx : Nat) : (ns2 gen idx).length = 64 := by
  unfold ns2
  rw [length_splice _ _ _ (by simp [ns_len1, bcs, be4_length]), ns_len1]
theorem ns_len4 (gen idx k n : Nat) : (ns4 gen idx k n).length = 64 := by simp [ns4, ns_len2]
theorem bcs_one (l : List UInt8) : ∀ v ∈ bcs l, v.oneCell' = true := bcs_oneCell l
attribute [local go_sem] steady
attribute [local irreducible] wpPhase
section
variable (gen idx k n B c : Nat) (A : Option Addr) (p : List UInt8) (w : World)
set_option maxRecDepth 20000 in
set_option maxHeartbeats 4000000 in
theorem newSector_calls (hs : SB w B A n p) (hg : gen < 4294967296) (hi : idx < 4294967296) (hk : k < 256) (hn : n ≤ 49) :
    Calls Try.prog 52 #[.int .i64 (gen : Int), .int .i64 (idx : Int), .int .u8 (k : Int), .slice A n c] w fun e w' => e = .returned (.agg (bcs (secL gen idx k p)).toArray) ∧ Below w.heap.size w w' := by
  have HN1 := hid (fun W => number_calls gen hg W)
  have HN2 := hid (fun W => number_calls idx hi W)
  have hg' : (gen : Int) < 4294967296 := by omega
  have hi' : (idx : Int) < 4294967296 := by omega
  have ek : (k : Int) % 256 = (k : Int) := Int.emod_eq_of_lt (by omega) (by omega)
  have en : (n : Int) % 256 = (n : Int) := Int.emod_eq_of_lt (by omega) (by omega)
  have W1 : IntKind.u32.wrap (gen : Int) = (gen : Int) := u32_keep hg
  have W2 : IntKind.u32.wrap (idx : Int) = (idx : Int) := u32_keep hi
  have HS := hid hs
  clear hs
  go_enter Try.func52, Try.ntmps52
  go_wp2_with (refine wpList_alloc_blk rfl 88 rfl _ zero_sec ?_)
  have hsz := size_new w (.cells (Value.agg ns0.toArray).cells 88)
  have k8 : Blk ((w.alloc (.cells (Value.agg ns0.toArray).cells 88)).alloc (.cells (Value.agg ns0.toArray).cells 88)) w.heap.size 88 ns0.toArray := (Blk.new w _ _).keep (below_new _ _)
  have k9 : Blk ((w.alloc (.cells (Value.agg ns0.toArray).cells 88)).alloc (.cells (Value.agg ns0.toArray).cells 88)) (w.alloc (.cells (Value.agg ns0.toArray).cells 88)).heap.size 88 ns0.toArray := Blk.new _ _ _
  have b2 : Below w.heap.size w ((w.alloc (.cells (Value.agg ns0.toArray).cells 88)).alloc (.cells (Value.agg ns0.toArray).cells 88)) := (below_new w _).trans ((below_new _ _).mono (by rw [hsz]; omega))
  rw [hsz] at k9 ⊢
  generalize (w.alloc (.cells (Value.agg ns0.toArray).cells 88)).alloc (.cells (Value.agg ns0.toArray).cells 88) = w2 at k8 k9 b2 ⊢
  have hg9 : w.heap.size + 1 < w2.heap.size := k9.lt
  have K8 := hid k8; have K9 := hid k9; have B2 := hid b2
  generalize hge : w.heap.size = g0 at K8 K9 B2 hg9 ⊢
  clear k8 k9 b2 hsz
  go_wp2_with fail
  refine wp_region_phaseT goCall 4 (fun k w' => w' = (if k = 0 then w2.drew else w2.drew.alloc (.cells (bcs (be4 gen)).toArray 5))) (fun _ => True) (fun _ _ _ => trivial) (by kernel_rfl) (by kernel_rfl) (by kernel_rfl) rfl ?_
  intro S _ at_ _
  simp only [List.take_succ_cons, List.take_zero]
  (refine phase_plain rfl (fun K hK => ?_); go_simp; refine hK _ ?_; clear hK K)
  (refine phase_plain rfl (fun K hK => ?_); go_simp; refine hK _ ?_; clear hK K)
  (refine phase_plain rfl (fun K hK => ?_); go_simp; refine hK _ ?_; clear hK K)
  refine phase_call rfl rfl 75 #[.int .u32 (gen : Int)] (fun w => by go_simp) (.slice (some ⟨w2.drew.heap.size, 0, none⟩) 4 4) (by rintro _ rfl; exact HN1.out _) ?_
  refine phase_nil ?_
  rintro _ rfl
  simp only [List.drop_succ_cons, List.drop_zero]
  have hk9 := K9.out
  have hb3 := (Below.refl (g0 + 1) w2).drew.alloc (by simp; omega) (.cells (bcs (be4 gen)).toArray 5)
  go_wp2_with (refine wpList_copy_splice rfl (.tmp 10) (.tmp 13) 34 34 rfl 5 Try.underlying34 info_u8 (some ⟨g0 + 1, 4, none⟩) (some ⟨w2.drew.heap.size, 0, none⟩) 60 60 4 4 rfl rfl (g0 + 1) 4 ns0 88 (hk9.drew.alloc _) (bcs (be4 gen)) rfl (fun _ => ⟨rfl, _, rfl, new_cells _ _ _⟩) (by rw [len_be4]; decide) (bcs_oneCell _) (g0 + 1) w2 hb3 (Nat.le_refl _) ?_)
  clear hk9 hb3
  intro w3 HG3 hB3
  have K9 := hid (show Blk w3 (g0 + 1) 88 (ns1 gen).toArray from HG3.out)
  have HB := hid hB3
  clear HG3 hB3
  have hsz3 : g0 + 1 < w3.heap.size := K9.out.lt
  go_wp2_with fail
  refine wp_region_phaseT goCall 4 (fun k w' => w' = (if k = 0 then w3.drew else w3.drew.alloc (.cells (bcs (be4 idx)).toArray 5))) (fun _ => True) (fun _ _ _ => trivial) (by kernel_rfl) (by kernel_rfl) (by kernel_rfl) rfl ?_
  intro S _ at_ _
  simp only [List.take_succ_cons, List.take_zero]
  (refine phase_plain rfl (fun K hK => ?_); go_simp; refine hK _ ?_; clear hK K)
  (refine phase_plain rfl (fun K hK => ?_); go_simp; refine hK _ ?_; clear hK K)
  (refine phase_plain rfl (fun K hK => ?_); go_simp; refine hK _ ?_; clear hK K)
  refine phase_call rfl rfl 75 #[.int .u32 (idx : Int)] (fun w => by go_simp) (.slice (some ⟨w3.drew.heap.size, 0, none⟩) 4 4) (by rintro _ rfl; exact HN2.out _) ?_
  refine phase_nil ?_
  rintro _ rfl
  simp only [List.drop_succ_cons, List.drop_zero]
  have hk9 := K9.out
  have hb3 := HB.out.drew.alloc (by simp; omega) (.cells (bcs (be4 idx)).toArray 5)
  have hfit : 8 + (bcs (be4 idx)).length ≤ (ns1 gen).length := by rw [len_be4, ns_len1]; decide
  go_wp2_with (refine wpList_copy_splice rfl (.tmp 15) (.tmp 18) 34 34 rfl 5 Try.underlying34 info_u8 (some ⟨g0 + 1, 8, none⟩) (some ⟨w3.drew.heap.size, 0, none⟩) 56 56 4 4 rfl rfl (g0 + 1) 8 (ns1 gen) 88 (hk9.drew.alloc _) (bcs (be4 idx)) rfl (fun _ => ⟨rfl, _, rfl, new_cells _ _ _⟩) hfit (bcs_oneCell _) (g0 + 1) w2 hb3 (Nat.le_refl _) ?_)
  clear hk9 hb3 hfit
  intro w4 HG4 hB4
  have K9 := hid (show Blk w4 (g0 + 1) 88 (ns2 gen idx).toArray from HG4.out)
  have HB := hid hB4
  clear HG4 hB4 hsz3
  have hsz4 : g0 + 1 < w4.heap.size := K9.out.lt
  obtain ⟨x12, hx12⟩ : ∃ x, (ns2 gen idx).toArray[12]? = some x := at_some (by rw [ns_len2]; decide)
  have c12 := K9.out.cell 12 hx12
  have f12 := K9.out.frozen 12
  have k12 := K9.out.set_ 12 (.int .u8 (k : Int))
  obtain ⟨x13, hx13⟩ : ∃ x, ((ns2 gen idx).set 12 (.int .u8 (k : Int))).toArray[13]? = some x := at_some (by rw [List.length_set, ns_len2]; decide)
  rw [List.setIfInBounds_toArray] at k12
  have c13 := k12.cell 13 hx13
  have f13 := k12.frozen 13
  have k13 := k12.set_ 13 (.int .u8 (n : Int))
  rw [List.setIfInBounds_toArray] at k13
  have hB5 := (HB.out.setCell (p := ⟨g0 + 1, 12, none⟩) (Nat.le_refl _) (.int .u8 (k : Int))).setCell (p := ⟨g0 + 1, 13, none⟩) (Nat.le_refl _) (.int .u8 (n : Int))
  have K13 := hid (show Blk _ (g0 + 1) 88 (ns4 gen idx k n).toArray from k13)
  have HB5 := hid hB5
  clear k12 k13 hB5 hx12 hx13
  have hk13 := K13.out
  have hbp : (bcs p).length = Nat.min n 49 := by rw [bcs_length, HS.out.1]; exact (Nat.min_eq_left hn).symm
  have hfit : 14 + (bcs p).length ≤ (ns4 gen idx k n).length := by rw [bcs_length, HS.out.1, ns_len4]; omega
  have hB05 : Below g0 w ((w4.setCell ⟨g0 + 1, 12, none⟩ (.int .u8 (k : Int))).setCell ⟨g0 + 1, 13, none⟩ (.int .u8 (n : Int))) := B2.out.trans (HB5.out.mono (by omega))
  have hsrc : 0 < (bcs p).length → (some ⟨g0 + 1, 14, none⟩ : Option Addr) = some ⟨g0 + 1, 14, none⟩ ∧ ∃ ad, A = some ad ∧ ∀ j v, (bcs p)[j]? = some v → ((w4.setCell ⟨g0 + 1, 12, none⟩ (.int .u8 (k : Int))).setCell ⟨g0 + 1, 13, none⟩ (.int .u8 (n : Int))).cell? (ad.add j) = some v := fun hpos => by
    have hs2 := HS.out.keep (by rw [hge]; exact hB05)
    obtain ⟨b, off, e, _, hc⟩ := hs2.2 (by rw [bcs_length, HS.out.1] at hpos; exact hpos)
    refine ⟨rfl, _, e, fun j v hv => ?_⟩
    simp only [bcs, List.getElem?_map] at hv
    obtain ⟨x, hx, rfl⟩ := Option.map_eq_some_iff.1 hv
    rw [Addr.add_lit]
    exact hc j x hx
  have Hsrc := hid hsrc; have HB5' := HB5.out
  clear hsrc hB05
  go_wp2_with (refine wpList_copy_splice rfl (.tmp 26) (.tmp 27) 34 34 rfl 5 Try.underlying34 info_u8 (some ⟨g0 + 1, 14, none⟩) A 49 50 n c rfl rfl (g0 + 1) 14 (ns4 gen idx k n) 88 hk13 (bcs p) hbp Hsrc.out hfit (bcs_oneCell _) (g0 + 1) w2 HB5' (Nat.le_refl _) ?_)
  clear hk13 hbp hfit Hsrc HB5' K13 HB5 c12 f12 c13 f13 x12 x13 HB K9
  intro w6 HG6 hB6
  have K9 := hid (show Blk w6 (g0 + 1) 88 (ns5 gen idx k n p).toArray from HG6.out)
  have HB := hid hB6
  have hl5 : (ns5 gen idx k n p).length = 64 := by
    unfold ns5
    rw [length_splice _ _ _ (by rw [bcs_length, HS.out.1, ns_len4]; omega), ns_len4]
  obtain ⟨x63, hx63⟩ : ∃ x, (ns5 gen idx k n p).toArray[63]? = some x := at_some (by rw [hl5]; decide)
  have c63 := K9.out.cell 63 hx63
  have f63 := K9.out.frozen 63
  have k63 := K9.out.set_ 63 (.int .u8 165)
  rw [List.setIfInBounds_toArray] at k63
  have e6 := ns6_eq gen idx k n p hk HS.out.1 hn
  have hk6 : Blk (w6.setCell ⟨g0 + 1, 63, none⟩ (.int .u8 165)) (g0 + 1) 88 (bcs (List.replicate 4 0 ++ bodyL gen idx k p)).toArray := by
    rw [← e6]; exact k63
  have hB7 := HB.out.setCell (p := ⟨g0 + 1, 63, none⟩) (Nat.le_refl _) (.int .u8 165)
  have hbl : (bodyL gen idx k p).length = 60 := bodyL_length (by rw [HS.out.1]; exact hn)
  have K6 := hid hk6; have HB7 := hid hB7
  clear hk6 hB7 HB K9 HG6 hB6 k63 hx63 e6 hl5
  generalize hS : Crc.sum (bodyL gen idx k p) = S0
  have HSN := hid (fun W => number_calls S0.toNat S0.isLt W)
  go_wp2_with fail
  generalize w6.setCell ⟨g0 + 1, 63, none⟩ (.int .u8 165) = w7 at K6 HB7 ⊢
  clear c63 f63
  have HSUM := hid (sum_calls _ 60 60 (some ⟨g0 + 1, 4, none⟩) (bodyL gen idx k p) w7.drew (sb_blk K6.out.drew 4 60 (bodyL gen idx k p) (by rw [List.drop_append_of_le_length (by simp), List.drop_of_length_le (by simp), List.nil_append]; exact List.take_of_length_le (by omega)) hbl) (by omega))
  rw [hS] at HSUM
  have HS0 := hid hS
  have hl6 : (bcs (List.replicate 4 0 ++ bodyL gen idx k p)).length = 64 := by rw [bcs_length, List.length_append, hbl]; simp
  have HE := hid (ns6_sum gen idx k n p hk HS.out.1 hn)
  rw [ns6_eq gen idx k n p hk HS.out.1 hn, hS] at HE
  have h64 : (secL gen idx k p).length = 64 := secL_length (by rw [HS.out.1]; exact hn)
  generalize bcs (List.replicate 4 0 ++ bodyL gen idx k p) = L6 at K6 HE hl6
  generalize hL7 : secL gen idx k p = L7 at HE h64
  have HL7 := hid hL7
  clear hL7 hS hbl HS hg' hi' ek en W1 W2
  refine wp_region_orders (by kernel_rfl) [[0, 1, 2, 3, 4], [1, 0, 2, 3, 4], [1, 2, 0, 3, 4], [1, 2, 3, 0, 4]] (by kernel_rfl) ?_
  refine List.forall_mem_cons.2 ⟨?_, List.forall_mem_cons.2 ⟨?_, List.forall_mem_cons.2 ⟨?_, List.forall_mem_cons.2 ⟨?_, by simp⟩⟩⟩⟩
  all_goals
    simp only [List.filterMap_cons, List.filterMap_nil, List.getElem?_cons_succ, List.getElem?_cons_zero]
    go_wp2_with fail
    refine HSUM.out.mono ?_
    rintro _ w8 ⟨rfl, hb8⟩
    have K8b := hid (K6.out.drew.keep hb8)
    have HB8 := hid (HB7.out.drew.trans (hb8.mono (Nat.le_of_lt K6.out.lt)))
    clear hb8
    go_wp2_with fail
    refine (HSN.out _).mono ?_
    rintro _ _ ⟨rfl, rfl⟩
    have hk := K8b.out
    have hb9 := HB8.out.alloc (Nat.le_of_lt K8b.out.lt) (.cells (bcs (be4 S0.toNat)).toArray 5)
    have hfit : 0 + (bcs (be4 S0.toNat)).length ≤ L6.length := by rw [len_be4, hl6]; decide
    rename_i K1 hK1
    dsimp only
    refine hK1 _ _ ?_
    clear hK1
    first
      | (refine wpList_copy_splice rfl (.tmp 30) (.tmp 33) 34 34 rfl 5 Try.underlying34 info_u8 (some ⟨g0 + 1, 0, none⟩) (some ⟨w8.heap.size, 0, none⟩) 4 64 4 4 rfl rfl (g0 + 1) 0 L6 88 (hk.alloc _) (bcs (be4 S0.toNat)) rfl (fun _ => ⟨rfl, _, rfl, new_cells _ _ _⟩) hfit (bcs_oneCell _) (g0 + 1) w2 hb9 (Nat.le_refl _) ?_)
      | (refine wpList_step (fun K2 hK2 => ?_); go_simp; refine hK2 _ _ ?_; clear hK2 K2; (refine wpList_copy_splice rfl (.tmp 30) (.tmp 33) 34 34 rfl 5 Try.underlying34 info_u8 (some ⟨g0 + 1, 0, none⟩) (some ⟨w8.heap.size, 0, none⟩) 4 64 4 4 rfl rfl (g0 + 1) 0 L6 88 (hk.alloc _) (bcs (be4 S0.toNat)) rfl (fun _ => ⟨rfl, _, rfl, new_cells _ _ _⟩) hfit (bcs_oneCell _) (g0 + 1) w2 hb9 (Nat.le_refl _) ?_))
    clear hk hb9 hfit
    intro w9 HG9 hB9
    rw [HE.out] at HG9
    have hk9 := hid (show Blk w9 (g0 + 1) 88 (bcs L7).toArray from HG9.out)
    have hk0 := hid (K8.out.keepB hB9 (Nat.lt_succ_self _))
    have hB := hid (B2.out.trans (hB9.mono (Nat.le_succ _)))
    clear HG9 hB9
    have hsz : (Try.prog.info? 88).map (·.size) = some (bcs L7).toArray.size := by rw [size_sec]; simp [bcs, h64]
    have hold : ns0.toArray.size = (bcs L7).toArray.size := by simp [bcs, h64, ns0]
    have h1c : (bcs L7).toArray.toList.all (·.oneCell') = true := by simp only [List.all_eq_true]; exact bcs_oneCell L7
    have Hsz := hid hsz; have Hold := hid hold; have H1c := hid h1c
    clear hsz hold h1c
    go_wp2_with (first
      | (refine wpList_load_blk rfl 88 _ rfl (g0 + 1) rfl 88 _ hk9.out 64 5 Try.underlying88 Hsz.out ?_)
      | (refine wpList_store_blk rfl 88 _ _ rfl g0 _ rfl rfl 88 _ hk0.out Hsz.out Hold.out H1c.out ?_))
    refine bodyPost_ret (v := .agg (bcs L7).toArray) (results_cell_row rfl _ _ g0 88 _ (0, 0) _ rfl (hk0.out.setRow _) Try.underlying88 rfl Hsz.out) rfl ⟨by rw [HL7.out], ?_⟩
    exact hB.out.trans (below_of_grown (grown_setRow w9 _ _) (Nat.le_of_lt hk0.out.lt) (fun g' e => by cases e; exact Nat.le_refl _))
end
end Go.Proofs.Ytiejndkchcljdaa
