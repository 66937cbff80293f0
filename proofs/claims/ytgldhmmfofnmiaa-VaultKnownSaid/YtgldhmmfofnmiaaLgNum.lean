/- Contract: the bytes of a number. And: cells laid over cells. -/
import Derived.Test.YtgldhmmfofnmiaaLgLow
import Derived.Test.YtgldhmmfofnmiaaPass
namespace Go.Proofs.Ytgldhmmfofnmiaa
open Go.RowKit

theorem splice_mid {α : Type} (A X C Y : List α) (k : Nat) (hk : A.length = k) (h : Y.length = X.length) : splice (A ++ (X ++ C)) k Y = A ++ (Y ++ C) := by
  subst hk
  unfold splice
  rw [List.take_left, h, ← List.append_assoc A X C, List.drop_append_of_le_length (by simp), List.drop_of_length_le (by simp), List.nil_append]
theorem ofNat_bv (n : Nat) : bv (UInt8.ofNat n) = .int .u8 ((n : Int) % 256) := by
  unfold bv
  rw [UInt8.toNat_ofNat']
  simp
theorem ofNat_bv_lt {n : Nat} (h : n < 256) : bv (UInt8.ofNat n) = .int .u8 (n : Int) := by
  rw [ofNat_bv, Int.emod_eq_of_lt (by omega) (by omega)]
theorem number_calls (n : Nat) (hn : n < 4294967296) (w : World) : Calls Try.prog 93 #[.int .u32 (n : Int)] w fun e w' => e = .returned (.slice (some ⟨w.heap.size, 0, none⟩) 4 4) ∧ w' = w.alloc (.cells (bcs (be4 n)).toArray 5) := by
  have HE := hid (show (bcs (be4 n)).toArray = #[.int .u8 ((n : Int) / 16777216), .int .u8 ((n : Int) / 65536 % 256), .int .u8 ((n : Int) / 256 % 256), .int .u8 ((n : Int) % 256)] from by
    simp only [bcs, be4, List.map_cons, List.map_nil, ofNat_bv]
    have : (n : Int) / 16777216 % 256 = (n : Int) / 16777216 := by omega
    simp [this])
  rw [HE.out]
  have hn' : (n : Int) < 4294967296 := by omega
  clear HE
  go_enter Try.func93, Try.ntmps93
  go_wp2_with fail
  go_ret
  exact ⟨rfl, rfl⟩
/-! ### a new sector -/
theorem size_sec : (Try.prog.info? 105).map (·.size) = some 64 := by kernel_rfl
theorem info_u8 : (Try.prog.info? 5).map (·.size) = some 1 := by kernel_rfl
theorem bcs_append (a b : List UInt8) : bcs (a ++ b) = bcs a ++ bcs b := by simp [bcs]
/-- what is in the sector behind each step -/
def ns0 : List Value := List.replicate 64 (.int .u8 0)
theorem zero_sec : (Try.prog.info? 105).map (·.zero) = some (some (.agg ns0.toArray)) := by kernel_rfl
def ns1 (gen : Nat) : List Value := splice ns0 4 (bcs (be4 gen))
def ns2 (gen idx : Nat) : List Value := splice (ns1 gen) 8 (bcs (be4 idx))
def ns4 (gen idx k n : Nat) : List Value := ((ns2 gen idx).set 12 (.int .u8 (k : Int))).set 13 (.int .u8 (n : Int))
def ns5 (gen idx k n : Nat) (p : List UInt8) : List Value := splice (ns4 gen idx k n) 14 (bcs p)
def ns6 (gen idx k n : Nat) (p : List UInt8) : List Value := (ns5 gen idx k n p).set 63 (.int .u8 165)
theorem ns2_eq (gen idx : Nat) : ns2 gen idx = List.replicate 4 (.int .u8 0) ++ (bcs (be4 gen) ++ (bcs (be4 idx) ++ List.replicate 52 (.int .u8 0))) := by
  have e0 : ns0 = List.replicate 4 (.int .u8 0) ++ (List.replicate 4 (.int .u8 0) ++ List.replicate 56 (.int .u8 0)) := rfl
  have e1 : ns1 gen = (List.replicate 4 (.int .u8 0) ++ bcs (be4 gen)) ++ (List.replicate 4 (.int .u8 0) ++ List.replicate 52 (.int .u8 0)) := by
    unfold ns1
    rw [e0, splice_mid _ _ _ _ 4 (by simp) (by simp [bcs, be4_length])]
    simp
  unfold ns2
  rw [e1, splice_mid _ _ _ _ 8 (by simp [bcs, be4_length]) (by simp [bcs, be4_length])]
  simp
theorem ns4_eq (gen idx k n : Nat) : ns4 gen idx k n = List.replicate 4 (.int .u8 0) ++ (bcs (be4 gen) ++ (bcs (be4 idx) ++ (.int .u8 (k : Int) :: .int .u8 (n : Int) :: List.replicate 50 (.int .u8 0)))) := by
  unfold ns4
  rw [ns2_eq]
  simp only [bcs, be4, List.map_cons, List.map_nil]
  rfl
theorem ns6_eq (gen idx k n : Nat) (p : List UInt8) (hk : k < 256) (hn : p.length = n) (h : n ≤ 49) : ns6 gen idx k n p = bcs (List.replicate 4 0 ++ bodyL gen idx k p) := by
  have e4 : ns4 gen idx k n = (List.replicate 4 (.int .u8 0) ++ (bcs (be4 gen) ++ (bcs (be4 idx) ++ [.int .u8 (k : Int), .int .u8 (n : Int)]))) ++ (List.replicate n (.int .u8 0) ++ (List.replicate (49 - n) (.int .u8 0) ++ [.int .u8 0])) := by
    rw [ns4_eq]
    have : List.replicate 50 (Value.int .u8 0) = List.replicate n (.int .u8 0) ++ (List.replicate (49 - n) (.int .u8 0) ++ List.replicate 1 (.int .u8 0)) := by
      rw [List.replicate_append_replicate, List.replicate_append_replicate]; congr 1; omega
    rw [this]
    simp
  have e5 : ns5 gen idx k n p = (List.replicate 4 (.int .u8 0) ++ (bcs (be4 gen) ++ (bcs (be4 idx) ++ ([.int .u8 (k : Int), .int .u8 (n : Int)] ++ (bcs p ++ List.replicate (49 - n) (.int .u8 0)))))) ++ [.int .u8 0] := by
    unfold ns5
    rw [e4, splice_mid _ _ _ _ 14 (by simp [bcs, be4_length]) (by simp [bcs, hn])]
    simp
  unfold ns6
  rw [e5, List.set_append_right _ _ (by simp [bcs, be4_length, hn]; omega)]
  have e6 : 63 - (List.replicate 4 (Value.int .u8 0) ++ (bcs (be4 gen) ++ (bcs (be4 idx) ++ ([Value.int .u8 (k : Int), Value.int .u8 (n : Int)] ++ (bcs p ++ List.replicate (49 - n) (Value.int .u8 0)))))).length = 0 := by
    simp [bcs, be4_length, hn]; omega
  rw [e6]
  have ek : bv (UInt8.ofNat k) = .int .u8 (k : Int) := ofNat_bv_lt hk
  have en : bv (UInt8.ofNat n) = .int .u8 (n : Int) := ofNat_bv_lt (by omega)
  have e0 : bv 0 = Value.int .u8 0 := rfl
  have e1 : bv 165 = Value.int .u8 165 := rfl
  simp [bodyL, bcs, ek, en, hn, List.map_replicate, e0, e1]
theorem ns6_sum (gen idx k n : Nat) (p : List UInt8) (hk : k < 256) (hn : p.length = n) (h : n ≤ 49) : splice (ns6 gen idx k n p) 0 (bcs (be4 (Crc.sum (bodyL gen idx k p)).toNat)) = bcs (secL gen idx k p) := by
  rw [ns6_eq gen idx k n p hk hn h, bcs_append]
  have := splice_mid [] (bcs (List.replicate 4 0)) (bcs (bodyL gen idx k p)) (bcs (be4 (Crc.sum (bodyL gen idx k p)).toNat)) 0 rfl (by simp [bcs, be4_length])
  rw [List.nil_append] at this
  rw [this, secL, bcs_append]
  rfl
end Go.Proofs.Ytgldhmmfofnmiaa
