/- Contract: a sector of a log, of the plain reference. -/
import Derived.Test.YtiejndkchcljdaaLgSec
import Derived.Test.YtiejndkchcljdaaDvRfN
import Derived.Test.YtiejndkchcljdaaFold
import Derived.Test.YtiejndkchcljdaaLgBlank
import Derived.Test.YtiejndkchcljdaaDvDX
import Derived.Test.YtiejndkchcljdaaLgWrite
namespace Go.Proofs.Ytiejndkchcljdaa
open Go.RowKit

def byN (n k : Nat) : UInt8 := UInt8.ofNat (n / 2 ^ (24 - 8 * k))
def st1 (gen idx : Nat) : Nat → List UInt8
  | 0 => z64
  | k + 1 => ((st1 gen idx k).set (4 + k) (byN gen k)).set (8 + k) (byN idx k)
theorem st1_len (gen idx k : Nat) : (st1 gen idx k).length = 64 := by
  induction k with
  | zero => rfl
  | succ k ih => simp [st1, ih]
theorem st1_end (gen idx : Nat) : st1 gen idx 4 = List.replicate 4 0 ++ (be4 gen ++ (be4 idx ++ List.replicate 52 0)) := by
  have e0 : 2 ^ (24 - 8 * 0) = 16777216 := rfl
  have e1 : 2 ^ (24 - 8 * 1) = 65536 := rfl
  have e2 : 2 ^ (24 - 8 * 2) = 256 := rfl
  have e3 : 2 ^ (24 - 8 * 3) = 1 := rfl
  simp only [st1, byN, be4, z64, e0, e1, e2, e3, Nat.div_one]
  rfl
theorem byN_bv (n j : Nat) : Value.int .u8 ((n : Int) / 2 ^ (24 - 8 * j) % 256) = bv (byN n j) := by
  rw [byN, ofNat_bv]
  congr 1
/-- the part's bytes, one after the other -/
def st2 (S p : List UInt8) : Nat → List UInt8
  | 0 => S
  | i + 1 => (st2 S p i).set (14 + i) (p[i]?.getD 0)
theorem st2_len (S p : List UInt8) (i : Nat) : (st2 S p i).length = S.length := by
  induction i with
  | zero => rfl
  | succ i ih => simp [st2, ih]
theorem st2_eq (a p : List UInt8) (ha : a.length = 14) (hp : p.length ≤ 49) : ∀ i, i ≤ p.length → st2 (a ++ List.replicate 50 0) p i = a ++ (p.take i ++ List.replicate (50 - i) 0)
  | 0, _ => rfl
  | i + 1, h => by
    rw [st2, st2_eq a p ha hp i (by omega), List.set_append_right _ _ (by omega), ha, show 14 + i - 14 = i by omega, List.set_append_right _ _ (by rw [List.length_take]; omega), List.length_take, Nat.min_eq_left (by omega), Nat.sub_self,
      show 50 - i = (50 - (i + 1)) + 1 by omega, List.replicate_succ, List.set_cons_zero, List.getElem?_eq_getElem (by omega)]
    have : p.take (i + 1) = p.take i ++ [p[i]] := by rw [List.take_add_one, List.getElem?_eq_getElem (by omega)]; rfl
    rw [this, List.append_assoc]; rfl
/-- the sum, byte by byte -/
def st3 (S : List UInt8) (v : Nat) : Nat → List UInt8
  | 0 => S
  | i + 1 => (st3 S v i).set i (byN v i)
theorem st3_len (S : List UInt8) (v i : Nat) : (st3 S v i).length = S.length := by
  induction i with
  | zero => rfl
  | succ i ih => simp [st3, ih]
theorem st3_end (b : List UInt8) (v : Nat) : st3 (List.replicate 4 0 ++ b) v 4 = be4 v ++ b := by
  have e0 : 2 ^ (24 - 8 * 0) = 16777216 := rfl
  have e1 : 2 ^ (24 - 8 * 1) = 65536 := rfl
  have e2 : 2 ^ (24 - 8 * 2) = 256 := rfl
  have e3 : 2 ^ (24 - 8 * 3) = 1 := rfl
  simp only [st3, byN, be4, e0, e1, e2, e3, Nat.div_one]
  rfl
/-- what stands ahead of the part -/
def headL (gen idx k n : Nat) : List UInt8 := List.replicate 4 0 ++ (be4 gen ++ (be4 idx ++ [UInt8.ofNat k, UInt8.ofNat n]))
theorem head_set (gen idx k n : Nat) : ((st1 gen idx 4).set 12 (UInt8.ofNat k)).set 13 (UInt8.ofNat n) = headL gen idx k n ++ List.replicate 50 0 := by
  rw [st1_end]; rfl
theorem sec_body (gen idx k : Nat) (p : List UInt8) (hp : p.length ≤ 49) : (st2 (headL gen idx k p.length ++ List.replicate 50 0) p p.length).set 63 165 = List.replicate 4 0 ++ bodyL gen idx k p := by
  rw [st2_eq _ p rfl hp p.length (Nat.le_refl _), List.take_length, show 50 - p.length = (49 - p.length) + 1 by omega, List.replicate_succ', List.set_append_right _ _ (by show 14 ≤ 63; omega), show 63 - (headL gen idx k p.length).length = 49 from rfl,
    List.set_append_right _ _ (by omega), List.set_append_right _ _ (by rw [List.length_replicate]; omega), List.length_replicate, show 49 - p.length - (49 - p.length) = 0 by omega]
  simp [headL, bodyL, be4]
set_option maxHeartbeats 4000000 in
set_option maxRecDepth 20000 in
theorem rSector_calls (gen idx k n B c : Nat) (A : Option Addr) (p : List UInt8) (w : World) (hs : SB w B A n p) (hn : n ≤ 49) (hk : k < 256) :
    Calls Try.prog 77 #[.int .i64 (gen : Int), .int .i64 (idx : Int), .int .i64 (k : Int), .slice A n c] w fun e w' => ∃ v, e = .returned v ∧ Own w' w.heap.size 5 v 64 (secL gen idx k p) ∧ Below w.heap.size w w' := by
  have HS := hid hs.fit
  have HPL := hid hs.1
  clear hs
  have HMK := hid (run_mk64 w)
  have HO0 := hid (own_mk64 w w.heap.size (Nat.le_refl _))
  have HB0 := hid (below_new w (.cells (z64.map bv).toArray 5))
  go_enter Try.func77, Try.ntmps77
  go_wp2_with (at_make; refine Held.go ?_)
  refine wpList_zeros_bytes _ rfl _ _ 34 rfl 5 Try.underlying34 info5' 64 64 rfl rfl rfl (by omega) ?_
  intro w1 ho hb
  have HO := hid (show Own w1 w.heap.size 5 (.slice (some ⟨w.heap.size, 0, none⟩) 64 64) 64 (st1 gen idx 0) from ho)
  have HB := hid hb
  clear ho hb HMK HO0 HB0
  generalize ho : w.heap.size = o at HO HB HS ⊢
  have HOE := hid ho
  clear ho
  go_wp2_with fail
  go_loopw [10] (fun i wr => ∃ j : Nat, j ≤ 4 ∧ i = .int .i64 (j : Int) ∧ Hid (Own wr o 5 (.slice (some ⟨o, 0, none⟩) 64 64) 64 (st1 gen idx j)) ∧ Hid (Below o w wr)) (fun i _ => 4 - (intOf i).toNat)
  case atStart => exact ⟨0, Nat.zero_le _, rfl, HO, HB⟩
  case round =>
    clear HO HB
    obtain ⟨j, hj, rfl, HO, HB⟩ := hrel
    by_cases hlt : j < 4
    · have q0 : (j : Int) < 4 := by omega
      have q1 : (0 : Int) ≤ 24 - 8 * (j : Int) := by omega
      obtain ⟨x1, hx1⟩ : ∃ x, ((st1 gen idx j).map bv)[4 + j]? = some x := ⟨_, List.getElem?_eq_getElem (by rw [List.length_map, st1_len]; omega)⟩
      obtain ⟨x2, hx2⟩ : ∃ x, ((st1 gen idx j).map bv)[8 + j]? = some x := ⟨_, List.getElem?_eq_getElem (by rw [List.length_map, st1_len]; omega)⟩
      have c1 := (World.ownsRow.cellAt HO.out (4 + j) (by omega)).trans hx1
      have c2 := (World.ownsRow.cellAt HO.out (8 + j) (by omega)).trans hx2
      have f1 := World.ownsRow.frozenAt HO.out (4 + j)
      have f2 := World.ownsRow.frozenAt HO.out (8 + j)
      clear hx1 hx2
      have HST1 := hid (fun u => World.ownsRow.stored HO.out (4 + j) u)
      have HB2 := hid HB.out
      go_wp2_with fail
      go_roundw
      case rel =>
        have h1 := World.ownsRow.stored HO.out (4 + j) (Value.int IntKind.u8 (↑gen / 2 ^ (24 - 8 * j) % 256))
        have h2 := World.ownsRow.stored h1.1 (8 + j) (Value.int IntKind.u8 (↑idx / 2 ^ (24 - 8 * j) % 256))
        refine ⟨j + 1, by omega, by go_num, ?_, hid (HB.out.trans (below_of_grown (h1.2.trans h2.2) (by rw [← HOE.out]; exact HB.out.size) (fun g e => by cases e; exact Nat.le_refl _)))⟩
        have h3 := h2.1
        rw [byN_bv, byN_bv, ← List.map_set, ← List.map_set] at h3
        exact hid h3
      case measure => simp [intOf]; omega
    · obtain rfl : j = 4 := by omega
      have q0 : ¬ (((4 : Nat) : Int)) < 4 := by omega
      rw [show (((4 : Nat) : Int)) = 4 from rfl]
      obtain ⟨x1, hx1⟩ : ∃ x, ((st1 gen idx 4).map bv)[12]? = some x := ⟨_, List.getElem?_eq_getElem (by rw [List.length_map, st1_len]; omega)⟩
      obtain ⟨x2, hx2⟩ : ∃ x, ((st1 gen idx 4).map bv)[13]? = some x := ⟨_, List.getElem?_eq_getElem (by rw [List.length_map, st1_len]; omega)⟩
      have c1 := (World.ownsRow.cellAt HO.out 12 (by omega)).trans hx1
      have c2 := (World.ownsRow.cellAt HO.out 13 (by omega)).trans hx2
      have f1 := World.ownsRow.frozenAt HO.out 12
      have f2 := World.ownsRow.frozenAt HO.out 13
      clear hx1 hx2
      go_wp2_with fail
      have g1 := World.ownsRow.stored HO.out 12 (Value.int IntKind.u8 (k : Int))
      have g2 := World.ownsRow.stored g1.1 13 (Value.int IntKind.u8 (n : Int))
      have h3 := g2.1
      rw [← ofNat_bv_lt hk, ← ofNat_bv_lt (show n < 256 by omega), ← List.map_set, ← List.map_set, head_set] at h3
      have HO2 := hid (show Own _ o 5 (.slice (some ⟨o, 0, none⟩) 64 64) 64 (st2 (headL gen idx k n ++ List.replicate 50 0) p 0) from h3)
      have HB2 := hid (HB.out.trans (below_of_grown (g1.2.trans g2.2) (by rw [← HOE.out]; exact HB.out.size) (fun g e => by cases e; exact Nat.le_refl _)))
      rw [ofNat_bv_lt hk, ofNat_bv_lt (show n < 256 by omega)] at HO2
      generalize (wr.setCell ⟨o, 12, none⟩ (.int .u8 (k : Int))).setCell ⟨o, 13, none⟩ (.int .u8 (n : Int)) = w2 at HO2 HB2 ⊢
      clear g1 g2 h3 c1 c2 f1 f2 HO HB
      go_loopw [11] (fun i wr => ∃ j : Nat, j ≤ n ∧ i = .int .i64 (j : Int) ∧ Hid (Own wr o 5 (.slice (some ⟨o, 0, none⟩) 64 64) 64 (st2 (headL gen idx k n ++ List.replicate 50 0) p j)) ∧ Hid (Below o w wr)) (fun i _ => n - (intOf i).toNat)
      case atStart => exact ⟨0, Nat.zero_le _, rfl, HO2, HB2⟩
      case round =>
        clear HO2 HB2
        obtain ⟨j, hj, rfl, HO, HB⟩ := hrel
        by_cases hlt : j < n
        · have q1 : (j : Int) < (n : Int) := by omega
          obtain ⟨b, off, x, rfl, hb, hx, hc⟩ := (HS.out.keepB HB.out).at_ hlt
          obtain ⟨x1, hx1⟩ : ∃ x, ((st2 (headL gen idx k n ++ List.replicate 50 0) p j).map bv)[14 + j]? = some x := ⟨_, List.getElem?_eq_getElem (by rw [List.length_map, st2_len]; show 14 + j < 14 + 50; omega)⟩
          have c1 := (World.ownsRow.cellAt HO.out (14 + j) (by omega)).trans hx1
          have f1 := World.ownsRow.frozenAt HO.out (14 + j)
          have HX := hid hx
          clear hx1 hx
          go_wp2_with fail
          go_roundw
          case rel =>
            have h1 := World.ownsRow.stored HO.out (14 + j) (.int .u8 (x.toNat : Int))
            refine ⟨j + 1, by omega, by go_num, ?_, hid (HB.out.trans (below_of_grown h1.2 (by rw [← HOE.out]; exact HB.out.size) (fun g e => by cases e; exact Nat.le_refl _)))⟩
            have h3 := h1.1
            rw [show Value.int .u8 (x.toNat : Int) = bv x from rfl, ← List.map_set] at h3
            exact hid (show Own _ _ _ _ _ ((st2 _ p j).set (14 + j) (p[j]?.getD 0)) from by rw [HX.out]; exact h3)
          case measure => simp [intOf]; omega
        · obtain rfl : j = n := by omega
          have q1 : ¬ (j : Int) < (j : Int) := by omega
          obtain ⟨x1, hx1⟩ : ∃ x, ((st2 (headL gen idx k j ++ List.replicate 50 0) p j).map bv)[63]? = some x := ⟨_, List.getElem?_eq_getElem (by rw [List.length_map, st2_len]; show 63 < 14 + 50; omega)⟩
          have c1 := (World.ownsRow.cellAt HO.out 63 (by omega)).trans hx1
          have f1 := World.ownsRow.frozenAt HO.out 63
          have g1 := World.ownsRow.stored HO.out 63 (.int .u8 165)
          have h3 := g1.1
          rw [show Value.int .u8 165 = bv 165 from rfl, ← List.map_set] at h3
          have HO3 := hid (show Own (wr.setCell ⟨o, 63, none⟩ (.int .u8 165)) o 5 (.slice (some ⟨o, 0, none⟩) 64 64) 64 (List.replicate 4 0 ++ bodyL gen idx k p) from by
            have e := sec_body gen idx k p (by have := HPL.out; omega)
            rw [HPL.out] at e
            rw [← e]; exact h3)
          have HB3 := hid (HB.out.trans (below_of_grown g1.2 (by rw [← HOE.out]; exact HB.out.size) (fun g e => by cases e; exact Nat.le_refl _)))
          clear g1 h3 hx1
          have HSUM := hid (fun W (h : Own W o 5 (.slice (some ⟨o, 0, none⟩) 64 64) 64 (List.replicate 4 0 ++ bodyL gen idx k p)) => (show Calls Try.prog 91 #[.slice (some ⟨o, 4, none⟩) 60 60] W fun e w' => e = .returned (.int .u32 ((Crc.sum (bodyL gen idx k p)).toNat : Int)) ∧ W = w' from by
            obtain ⟨A', c', e, h64, hs, -⟩ := h.sb
            cases e
            have hd := hs.drop (k := 4) (c := 64) (by omega) (by omega)
            exact refSum_calls _ 60 60 _ _ W hd (by omega)))
          go_wp2_with fail
          generalize wr.setCell ⟨o, 63, none⟩ (.int .u8 165) = w3 at HO3 HB3 ⊢
          refine (HSUM.out w3 HO3.out).mono ?_
          rintro _ _ ⟨rfl, rfl⟩
          have hv : (Crc.sum (bodyL gen idx k p)).toNat < 4294967296 := (Crc.sum (bodyL gen idx k p)).isLt
          have HEND := hid (show st3 (List.replicate 4 0 ++ bodyL gen idx k p) (Crc.sum (bodyL gen idx k p)).toNat 4 = secL gen idx k p from st3_end (bodyL gen idx k p) (Crc.sum (bodyL gen idx k p)).toNat)
          have HO4 := hid (show Own w3 o 5 (.slice (some ⟨o, 0, none⟩) 64 64) 64 (st3 (List.replicate 4 0 ++ bodyL gen idx k p) (Crc.sum (bodyL gen idx k p)).toNat 0) from HO3.out)
          have HS3 := hid (show (List.replicate 4 (0 : UInt8) ++ bodyL gen idx k p).length = 64 from by rw [List.length_append, bodyL_length (by have := HPL.out; omega)]; rfl)
          clear HO HB HO3 HSUM c1 f1
          generalize (Crc.sum (bodyL gen idx k p)).toNat = v at hv HEND HO4 ⊢
          generalize List.replicate 4 (0 : UInt8) ++ bodyL gen idx k p = S3 at HEND HO4 HS3
          go_wp2_with fail
          go_loopw [13] (fun i wr => ∃ j : Nat, j ≤ 4 ∧ i = .int .i64 (j : Int) ∧ Hid (Own wr o 5 (.slice (some ⟨o, 0, none⟩) 64 64) 64 (st3 S3 v j)) ∧ Hid (Below o w wr)) (fun i _ => 4 - (intOf i).toNat)
          case atStart => exact ⟨0, Nat.zero_le _, rfl, HO4, HB3⟩
          case round =>
            clear HO4 HB3
            obtain ⟨i, hi4, rfl, HO, HB⟩ := hrel
            by_cases hlt4 : i < 4
            · have q2 : (i : Int) < 4 := by omega
              have q3 : (0 : Int) ≤ 24 - 8 * (i : Int) := by omega
              obtain ⟨x1, hx1⟩ : ∃ x, ((st3 S3 v i).map bv)[i]? = some x := ⟨_, List.getElem?_eq_getElem (by rw [List.length_map, st3_len, HS3.out]; omega)⟩
              have c1 := (World.ownsRow.cellAt HO.out i (by omega)).trans hx1
              have f1 := World.ownsRow.frozenAt HO.out i
              clear hx1
              go_wp2_with fail
              go_roundw
              case rel =>
                have h1 := World.ownsRow.stored HO.out i (Value.int IntKind.u8 (↑v / 2 ^ (24 - 8 * i) % 256))
                refine ⟨i + 1, by omega, by go_num, ?_, hid (HB.out.trans (below_of_grown h1.2 (by rw [← HOE.out]; exact HB.out.size) (fun g e => by cases e; exact Nat.le_refl _)))⟩
                have h3 := h1.1
                rw [byN_bv, ← List.map_set] at h3
                exact hid h3
              case measure => simp [intOf]; omega
            · obtain rfl : i = 4 := by omega
              have q2 : ¬ (((4 : Nat) : Int)) < 4 := by omega
              rw [HEND.out] at HO
              go_wp2_with fail
              go_ret
              exact ⟨_, rfl, by rw [HOE.out]; exact HO.out, by rw [HOE.out]; exact HB.out⟩
end Go.Proofs.Ytiejndkchcljdaa
/- Contracts: Need, Check and Blank of the plain reference's log. Written by tools/mklg.py out of XLgRfB.tpl. -/
namespace Go.Proofs.Ytiejndkchcljdaa
open Go.RowKit

theorem rNeed_calls (n : Int) (w : World) : Calls Try.prog 39 #[.int .i64 n] w fun e w' => e = .returned (.int .i64 (needE n : Int)) ∧ w = w' := by
  by_cases h1 : n < 0
  · have HE := hid (show (needE n : Int) = 0 from by unfold needE; rw [if_pos (.inl h1)]; rfl)
    rw [HE.out]
    go_enter Try.func39, Try.ntmps39
    go_wp2_with fail
    go_ret
    exact ⟨rfl, rfl⟩
  by_cases h2 : 1048576 < n
  · have HE := hid (show (needE n : Int) = 0 from by unfold needE; rw [if_pos (.inr h2)]; rfl)
    rw [HE.out]
    go_enter Try.func39, Try.ntmps39
    go_wp2_with fail
    go_ret
    exact ⟨rfl, rfl⟩
  obtain ⟨k, rfl⟩ : ∃ k : Nat, n = (k : Int) := ⟨n.toNat, by omega⟩
  have hN : needE (k : Int) = needN k := by unfold needE; rw [if_neg (by omega), Int.toNat_natCast]
  by_cases h3 : k = 0
  · subst h3
    have HE := hid (show (needE ((0 : Nat) : Int) : Int) = 1 from by rw [hN]; rfl)
    rw [HE.out]
    clear hN
    go_enter Try.func39, Try.ntmps39
    go_wp2_with fail
    go_ret
    exact ⟨rfl, rfl⟩
  · have HE := hid (show (needE (k : Int) : Int) = ((k : Int) + 48) / 49 from by rw [hN]; unfold needN; rw [Nat.max_eq_right (by omega)]; push_cast; rfl)
    rw [HE.out]
    have q0 : ((k : Int) == 0) = false := by simp; omega
    have e1 : IntKind.i64.wrap ((k : Int) + 49) = (k : Int) + 49 := by rw [IntWalk.i64_in] <;> omega
    have e2 : IntKind.i64.wrap ((k : Int) + 49 - 1) = (k : Int) + 48 := by rw [IntWalk.i64_in] <;> omega
    have e3 : Int.tdiv ((k : Int) + 48) 49 = ((k : Int) + 48) / 49 := by rw [Int.tdiv_eq_ediv_of_nonneg (by omega)]
    have e4 : IntKind.i64.wrap (((k : Int) + 48) / 49) = ((k : Int) + 48) / 49 := by rw [IntWalk.i64_in] <;> omega
    clear hN HE
    go_enter Try.func39, Try.ntmps39
    go_wp2_with fail
    go_ret
    exact ⟨rfl, rfl⟩
def ck0Val (T : Nat) (x : Int) : Nat → Unit → Value
  | 0, _ => .pointer (some ⟨T, 0, none⟩)
  | 1, _ => .int .i64 x
  | 2, _ => .bool true
  | 3, _ => .bool true
  | 4, _ => undef
  | 5, _ => undef
  | 6, _ => undef
  | 7, _ => undef
  | 8, _ => undef
  | 9, _ => .bool true
  | 10, _ => .bool true
  | 11, _ => undef
  | 12, _ => undef
  | 13, _ => undef
  | 14, _ => undef
  | 15, _ => undef
  | 16, _ => .bool true
  | 17, _ => .bool true
  | 18, _ => undef
  | 19, _ => undef
  | 20, _ => undef
  | 21, _ => .bool true
  | 22, _ => .bool true
  | 23, _ => undef
  | 24, _ => undef
  | 25, _ => undef
  | 26, _ => .bool true
  | _, _ => undef
def ck1Val (T : Nat) (x : Int) (y : Int) : Nat → Unit → Value
  | 0, _ => .pointer (some ⟨T, 0, none⟩)
  | 1, _ => .int .i64 x
  | 2, _ => .bool false
  | 3, _ => .bool false
  | 4, _ => .pointer (some ⟨T, 0, none⟩)
  | 5, _ => .int .i64 x
  | 6, _ => .pointer (some ⟨T, 1, none⟩)
  | 7, _ => .int .i64 y
  | 8, _ => .bool true
  | 9, _ => .bool true
  | 10, _ => .bool true
  | 11, _ => undef
  | 12, _ => undef
  | 13, _ => undef
  | 14, _ => undef
  | 15, _ => undef
  | 16, _ => .bool true
  | 17, _ => .bool true
  | 18, _ => undef
  | 19, _ => undef
  | 20, _ => undef
  | 21, _ => .bool true
  | 22, _ => .bool true
  | 23, _ => undef
  | 24, _ => undef
  | 25, _ => undef
  | 26, _ => .bool true
  | _, _ => undef
def ck2Val (gx : Nat) (T : Nat) (sn : Nat) (x : Int) (y : Int) : Nat → Unit → Value
  | 0, _ => .pointer (some ⟨T, 0, none⟩)
  | 1, _ => .int .i64 x
  | 2, _ => .bool false
  | 3, _ => .bool false
  | 4, _ => .pointer (some ⟨T, 0, none⟩)
  | 5, _ => .int .i64 x
  | 6, _ => .pointer (some ⟨T, 1, none⟩)
  | 7, _ => .int .i64 y
  | 8, _ => .bool false
  | 9, _ => .bool false
  | 10, _ => .bool false
  | 11, _ => .pointer (some ⟨T, 1, none⟩)
  | 12, _ => .int .i64 y
  | 13, _ => .pointer (some ⟨gx, 0, none⟩)
  | 14, _ => .int .i64 (sn : Int)
  | 15, _ => .bool true
  | 16, _ => .bool true
  | 17, _ => .bool true
  | 18, _ => undef
  | 19, _ => undef
  | 20, _ => undef
  | 21, _ => .bool true
  | 22, _ => .bool true
  | 23, _ => undef
  | 24, _ => undef
  | 25, _ => undef
  | 26, _ => .bool true
  | _, _ => undef
def ck3Val (gx : Nat) (T : Nat) (sn : Nat) (x : Int) (y : Int) (z : Int) : Nat → Unit → Value
  | 0, _ => .pointer (some ⟨T, 0, none⟩)
  | 1, _ => .int .i64 x
  | 2, _ => .bool false
  | 3, _ => .bool false
  | 4, _ => .pointer (some ⟨T, 0, none⟩)
  | 5, _ => .int .i64 x
  | 6, _ => .pointer (some ⟨T, 1, none⟩)
  | 7, _ => .int .i64 y
  | 8, _ => .bool false
  | 9, _ => .bool false
  | 10, _ => .bool false
  | 11, _ => .pointer (some ⟨T, 1, none⟩)
  | 12, _ => .int .i64 y
  | 13, _ => .pointer (some ⟨gx, 0, none⟩)
  | 14, _ => .int .i64 (sn : Int)
  | 15, _ => .bool false
  | 16, _ => .bool false
  | 17, _ => .bool false
  | 18, _ => .pointer (some ⟨T, 2, none⟩)
  | 19, _ => .int .i64 z
  | 20, _ => .bool true
  | 21, _ => .bool true
  | 22, _ => .bool true
  | 23, _ => undef
  | 24, _ => undef
  | 25, _ => undef
  | 26, _ => .bool true
  | _, _ => undef
def ck4Val (gx : Nat) (T : Nat) (sn : Nat) (x : Int) (y : Int) (z : Int) : Nat → Unit → Value
  | 0, _ => .pointer (some ⟨T, 0, none⟩)
  | 1, _ => .int .i64 x
  | 2, _ => .bool false
  | 3, _ => .bool false
  | 4, _ => .pointer (some ⟨T, 0, none⟩)
  | 5, _ => .int .i64 x
  | 6, _ => .pointer (some ⟨T, 1, none⟩)
  | 7, _ => .int .i64 y
  | 8, _ => .bool false
  | 9, _ => .bool false
  | 10, _ => .bool false
  | 11, _ => .pointer (some ⟨T, 1, none⟩)
  | 12, _ => .int .i64 y
  | 13, _ => .pointer (some ⟨gx, 0, none⟩)
  | 14, _ => .int .i64 (sn : Int)
  | 15, _ => .bool false
  | 16, _ => .bool false
  | 17, _ => .bool false
  | 18, _ => .pointer (some ⟨T, 2, none⟩)
  | 19, _ => .int .i64 z
  | 20, _ => .bool false
  | 21, _ => .bool false
  | 22, _ => .bool false
  | 23, _ => .pointer (some ⟨T, 2, none⟩)
  | 24, _ => .int .i64 z
  | 25, _ => .bool true
  | 26, _ => .bool true
  | _, _ => undef
def ck5Val (gx : Nat) (T : Nat) (sn : Nat) (x : Int) (y : Int) (z : Int) : Nat → Unit → Value
  | 0, _ => .pointer (some ⟨T, 0, none⟩)
  | 1, _ => .int .i64 x
  | 2, _ => .bool false
  | 3, _ => .bool false
  | 4, _ => .pointer (some ⟨T, 0, none⟩)
  | 5, _ => .int .i64 x
  | 6, _ => .pointer (some ⟨T, 1, none⟩)
  | 7, _ => .int .i64 y
  | 8, _ => .bool false
  | 9, _ => .bool false
  | 10, _ => .bool false
  | 11, _ => .pointer (some ⟨T, 1, none⟩)
  | 12, _ => .int .i64 y
  | 13, _ => .pointer (some ⟨gx, 0, none⟩)
  | 14, _ => .int .i64 (sn : Int)
  | 15, _ => .bool false
  | 16, _ => .bool false
  | 17, _ => .bool false
  | 18, _ => .pointer (some ⟨T, 2, none⟩)
  | 19, _ => .int .i64 z
  | 20, _ => .bool false
  | 21, _ => .bool false
  | 22, _ => .bool false
  | 23, _ => .pointer (some ⟨T, 2, none⟩)
  | 24, _ => .int .i64 z
  | 25, _ => .bool false
  | 26, _ => .bool false
  | _, _ => undef
/-- the worlds of an examination -/
def CkS (w1 : World) (_fd : Nat → Bool) (_gh : Nat → Unit) (W : World) : Prop := Below w1.heap.size w1 W
section
variable (bx gx m : Nat) (Fx : List Nat) (s : DS) (w : World)
set_option maxHeartbeats 4000000 in
set_option maxRecDepth 20000 in
theorem rCheck_calls (a : AR) (h : RdB w bx Fx gx m s) (hn : 1 ≤ s.n) : Calls Try.prog 34 #[.pointer (some ⟨gx, 0, none⟩), arv a] w fun e w' => e = .returned (.int .i64 (checkE s.n a : Int)) ∧ Below w.heap.size w w' := by
  obtain ⟨x, y, z⟩ := a
  have HTB := hid (Blk.new w 33 #[.int .i64 x, .int .i64 y, .int .i64 z])
  have HB1 := hid (below_new w (.cells #[.int .i64 x, .int .i64 y, .int .i64 z] 33))
  have HSZ := hid (fun W (hW : Below (w.alloc (.cells #[.int .i64 x, .int .i64 y, .int .i64 z] 33)).heap.size (w.alloc (.cells #[.int .i64 x, .int .i64 y, .int .i64 z] 33)) W) => rSize_calls bx gx m Fx s W (h.keep (HB1.out.trans (hW.mono HB1.out.size))))
  have HCK := hid (show checkE s.n ⟨x, y, z⟩ = if 0 ≤ x ∧ x ≤ y ∧ y ≤ (s.n : Int) ∧ 1 ≤ z ∧ z ≤ 2147483647 then 0 else 3 from by unfold checkE arOK; rw [if_neg (by omega)])
  clear h
  rw [show arv ⟨x, y, z⟩ = .agg #[.int .i64 x, .int .i64 y, .int .i64 z] from rfl]
  generalize checkE s.n ⟨x, y, z⟩ = CE at HCK ⊢
  generalize s.n = sn at HCK hn HSZ
  go_enter Try.func34, Try.ntmps34
  go_wp2_with fail
  generalize hT : w.heap.size = T at *
  generalize hw1 : w.alloc (.cells #[.int .i64 x, .int .i64 y, .int .i64 z] 33) = w1 at *
  have HC0 := hid (fun W (hW : Below w1.heap.size w1 W) => (HTB.out.keep hW).cell 0 (show _ = some (Value.int .i64 x) from rfl))
  have HC1 := hid (fun W (hW : Below w1.heap.size w1 W) => (HTB.out.keep hW).cell 1 (show _ = some (Value.int .i64 y) from rfl))
  have HC2 := hid (fun W (hW : Below w1.heap.size w1 W) => (HTB.out.keep hW).cell 2 (show _ = some (Value.int .i64 z) from rfl))
  have HST := hid (show CkS w1 (fun j => decide (27 ≤ j)) (fun _ => ()) w1.drew from (Below.refl _ _).drew)
  have HBT := hid (show Below T w w1 from HB1.out)
  have HTW := hid (show T ≤ w1.heap.size from by have := HB1.out.size; omega)
  clear HTB HB1
  by_cases t0 : x < 0
  · have HCE := hid (show (CE : Int) = 3 from by rw [HCK.out, if_neg (by omega)]; rfl)
    clear HCK
    refine wp_region_invG 32 () (ck0Val T x) (CkS w1) (by kernel_rfl) (by kernel_rfl) (by exact Nat.le_refl 32) ?_ ?_ ?_
    · exact HST.out
    · intro i o f gh a W hi hf hdep hsame hcl hval hS
      rcases i with _ | _ | _ | _ | _ | _ | _ | _ | _ | _ | _ | _ | _ | _ | _ | _ | _ | _ | _ | _ | _ | _ | _ | _ | _ | _ | _ | i
      all_goals simp only [List.getElem?_cons_succ, List.getElem?_cons_zero, List.getElem?_nil, Option.some.injEq, reduceCtorEq] at hi
      all_goals subst hi
      · have E3 : a.tmps[3]? = some (.pointer (some ⟨T, 0, none⟩)) := (same_of hsame 3 (by rfl)).trans rfl
        refine g_plain rfl ?_
        exact does_value (w' := W) (v := .pointer (some ⟨T, 0, none⟩)) (by go_simp) ⟨(), .inr rfl, hS⟩
      · have E5 := hval 0 _ 5 rfl rfl (dep_of hdep 0 (by rfl))
        unfold ck0Val at E5
        have c1 := HC0.out W hS
        refine g_plain rfl ?_
        exact does_value (w' := W) (v := .int .i64 x) (by go_simp) ⟨(), .inr rfl, hS⟩
      · have E6 := hval 1 _ 6 rfl rfl (dep_of hdep 1 (by rfl))
        unfold ck0Val at E6
        refine g_plain rfl ?_
        exact does_value (w' := W) (v := .bool true) (by go_simp) ⟨(), .inr rfl, hS⟩
      · have E7 := hval 2 _ 7 rfl rfl (dep_of hdep 2 (by rfl))
        unfold ck0Val at E7
        refine g_plain rfl ?_
        exact does_value (w' := W) (v := .bool true) (by go_simp) ⟨(), .inr rfl, hS⟩
      · have EG := hval 3 _ 8 rfl rfl (dep_of hdep 3 (by rfl))
        unfold ck0Val at EG
        exact g_skip rfl rfl rfl EG rfl ⟨(), .inr rfl, hS⟩
      · have EG := hval 3 _ 8 rfl rfl (dep_of hdep 3 (by rfl))
        unfold ck0Val at EG
        exact g_skip rfl rfl rfl EG rfl ⟨(), .inr rfl, hS⟩
      · have EG := hval 3 _ 8 rfl rfl (dep_of hdep 3 (by rfl))
        unfold ck0Val at EG
        exact g_skip rfl rfl rfl EG rfl ⟨(), .inr rfl, hS⟩
      · have EG := hval 3 _ 8 rfl rfl (dep_of hdep 3 (by rfl))
        unfold ck0Val at EG
        exact g_skip rfl rfl rfl EG rfl ⟨(), .inr rfl, hS⟩
      · have EG := hval 3 _ 8 rfl rfl (dep_of hdep 3 (by rfl))
        unfold ck0Val at EG
        exact g_skip rfl rfl rfl EG rfl ⟨(), .inr rfl, hS⟩
      · have E8 := hval 3 _ 8 rfl rfl (dep_of hdep 3 (by rfl))
        have E13 := hval 8 _ 13 rfl rfl (dep_of hdep 8 (by rfl))
        unfold ck0Val at E8 E13
        refine g_plain rfl ?_
        exact does_value (w' := W) (v := .bool true) (by go_simp) ⟨(), .inr rfl, hS⟩
      · have E14 := hval 9 _ 14 rfl rfl (dep_of hdep 9 (by rfl))
        unfold ck0Val at E14
        refine g_plain rfl ?_
        exact does_value (w' := W) (v := .bool true) (by go_simp) ⟨(), .inr rfl, hS⟩
      · have EG := hval 10 _ 15 rfl rfl (dep_of hdep 10 (by rfl))
        unfold ck0Val at EG
        exact g_skip rfl rfl rfl EG rfl ⟨(), .inr rfl, hS⟩
      · have EG := hval 10 _ 15 rfl rfl (dep_of hdep 10 (by rfl))
        unfold ck0Val at EG
        exact g_skip rfl rfl rfl EG rfl ⟨(), .inr rfl, hS⟩
      · have EG := hval 10 _ 15 rfl rfl (dep_of hdep 10 (by rfl))
        unfold ck0Val at EG
        exact g_skip rfl rfl rfl EG rfl ⟨(), .inr rfl, hS⟩
      · have EG := hval 10 _ 15 rfl rfl (dep_of hdep 10 (by rfl))
        unfold ck0Val at EG
        exact g_skip rfl rfl rfl EG rfl ⟨(), .inr rfl, hS⟩
      · have EG := hval 10 _ 15 rfl rfl (dep_of hdep 10 (by rfl))
        unfold ck0Val at EG
        exact g_skip rfl rfl rfl EG rfl ⟨(), .inr rfl, hS⟩
      · have E15 := hval 10 _ 15 rfl rfl (dep_of hdep 10 (by rfl))
        have E20 := hval 15 _ 20 rfl rfl (dep_of hdep 15 (by rfl))
        unfold ck0Val at E15 E20
        refine g_plain rfl ?_
        exact does_value (w' := W) (v := .bool true) (by go_simp) ⟨(), .inr rfl, hS⟩
      · have E21 := hval 16 _ 21 rfl rfl (dep_of hdep 16 (by rfl))
        unfold ck0Val at E21
        refine g_plain rfl ?_
        exact does_value (w' := W) (v := .bool true) (by go_simp) ⟨(), .inr rfl, hS⟩
      · have EG := hval 17 _ 22 rfl rfl (dep_of hdep 17 (by rfl))
        unfold ck0Val at EG
        exact g_skip rfl rfl rfl EG rfl ⟨(), .inr rfl, hS⟩
      · have EG := hval 17 _ 22 rfl rfl (dep_of hdep 17 (by rfl))
        unfold ck0Val at EG
        exact g_skip rfl rfl rfl EG rfl ⟨(), .inr rfl, hS⟩
      · have EG := hval 17 _ 22 rfl rfl (dep_of hdep 17 (by rfl))
        unfold ck0Val at EG
        exact g_skip rfl rfl rfl EG rfl ⟨(), .inr rfl, hS⟩
      · have E22 := hval 17 _ 22 rfl rfl (dep_of hdep 17 (by rfl))
        have E25 := hval 20 _ 25 rfl rfl (dep_of hdep 20 (by rfl))
        unfold ck0Val at E22 E25
        refine g_plain rfl ?_
        exact does_value (w' := W) (v := .bool true) (by go_simp) ⟨(), .inr rfl, hS⟩
      · have E26 := hval 21 _ 26 rfl rfl (dep_of hdep 21 (by rfl))
        unfold ck0Val at E26
        refine g_plain rfl ?_
        exact does_value (w' := W) (v := .bool true) (by go_simp) ⟨(), .inr rfl, hS⟩
      · have EG := hval 22 _ 27 rfl rfl (dep_of hdep 22 (by rfl))
        unfold ck0Val at EG
        exact g_skip rfl rfl rfl EG rfl ⟨(), .inr rfl, hS⟩
      · have EG := hval 22 _ 27 rfl rfl (dep_of hdep 22 (by rfl))
        unfold ck0Val at EG
        exact g_skip rfl rfl rfl EG rfl ⟨(), .inr rfl, hS⟩
      · have EG := hval 22 _ 27 rfl rfl (dep_of hdep 22 (by rfl))
        unfold ck0Val at EG
        exact g_skip rfl rfl rfl EG rfl ⟨(), .inr rfl, hS⟩
      · have E27 := hval 22 _ 27 rfl rfl (dep_of hdep 22 (by rfl))
        have E30 := hval 25 _ 30 rfl rfl (dep_of hdep 25 (by rfl))
        unfold ck0Val at E27 E30
        refine g_plain rfl ?_
        exact does_value (w' := W) (v := .bool true) (by go_simp) ⟨(), .inr rfl, hS⟩
    · intro gh w8 hS
      have HB8 := hid (show Below w1.heap.size w1 w8 from hS)
      clear hS HST HC0 HC1 HC2 HSZ
      simp only [putAll, ck0Val, Nat.reduceAdd, Nat.zero_add, Act.put, List.setIfInBounds_toArray, List.set_cons_zero, List.set_cons_succ]
      go_wp2_with fail
      go_ret
      exact ⟨by rw [HCE.out]; rfl, by first | exact HBT.out.trans (HB8.out.mono HTW.out) | (rw [hT]; exact HBT.out.trans (HB8.out.mono HTW.out))⟩
  by_cases t1 : y < x
  · have HCE := hid (show (CE : Int) = 3 from by rw [HCK.out, if_neg (by omega)]; rfl)
    clear HCK
    refine wp_region_invG 32 () (ck1Val T x y) (CkS w1) (by kernel_rfl) (by kernel_rfl) (by exact Nat.le_refl 32) ?_ ?_ ?_
    · exact HST.out
    · intro i o f gh a W hi hf hdep hsame hcl hval hS
      rcases i with _ | _ | _ | _ | _ | _ | _ | _ | _ | _ | _ | _ | _ | _ | _ | _ | _ | _ | _ | _ | _ | _ | _ | _ | _ | _ | _ | i
      all_goals simp only [List.getElem?_cons_succ, List.getElem?_cons_zero, List.getElem?_nil, Option.some.injEq, reduceCtorEq] at hi
      all_goals subst hi
      · have E3 : a.tmps[3]? = some (.pointer (some ⟨T, 0, none⟩)) := (same_of hsame 3 (by rfl)).trans rfl
        refine g_plain rfl ?_
        exact does_value (w' := W) (v := .pointer (some ⟨T, 0, none⟩)) (by go_simp) ⟨(), .inr rfl, hS⟩
      · have E5 := hval 0 _ 5 rfl rfl (dep_of hdep 0 (by rfl))
        unfold ck1Val at E5
        have c1 := HC0.out W hS
        refine g_plain rfl ?_
        exact does_value (w' := W) (v := .int .i64 x) (by go_simp) ⟨(), .inr rfl, hS⟩
      · have E6 := hval 1 _ 6 rfl rfl (dep_of hdep 1 (by rfl))
        unfold ck1Val at E6
        refine g_plain rfl ?_
        exact does_value (w' := W) (v := .bool false) (by go_simp) ⟨(), .inr rfl, hS⟩
      · have E7 := hval 2 _ 7 rfl rfl (dep_of hdep 2 (by rfl))
        unfold ck1Val at E7
        refine g_plain rfl ?_
        exact does_value (w' := W) (v := .bool false) (by go_simp) ⟨(), .inr rfl, hS⟩
      · have EG := hval 3 _ 8 rfl rfl (dep_of hdep 3 (by rfl))
        have E3 : a.tmps[3]? = some (.pointer (some ⟨T, 0, none⟩)) := (same_of hsame 3 (by rfl)).trans rfl
        unfold ck1Val at EG
        refine g_want rfl rfl rfl EG ?_
        exact does_value (w' := W) (v := .pointer (some ⟨T, 0, none⟩)) (by go_simp) ⟨(), .inr rfl, hS⟩
      · have EG := hval 3 _ 8 rfl rfl (dep_of hdep 3 (by rfl))
        have E9 := hval 4 _ 9 rfl rfl (dep_of hdep 4 (by rfl))
        unfold ck1Val at EG E9
        have c1 := HC0.out W hS
        refine g_want rfl rfl rfl EG ?_
        exact does_value (w' := W) (v := .int .i64 x) (by go_simp) ⟨(), .inr rfl, hS⟩
      · have EG := hval 3 _ 8 rfl rfl (dep_of hdep 3 (by rfl))
        have E3 : a.tmps[3]? = some (.pointer (some ⟨T, 0, none⟩)) := (same_of hsame 3 (by rfl)).trans rfl
        unfold ck1Val at EG
        refine g_want rfl rfl rfl EG ?_
        exact does_value (w' := W) (v := .pointer (some ⟨T, 1, none⟩)) (by go_simp) ⟨(), .inr rfl, hS⟩
      · have EG := hval 3 _ 8 rfl rfl (dep_of hdep 3 (by rfl))
        have E11 := hval 6 _ 11 rfl rfl (dep_of hdep 6 (by rfl))
        unfold ck1Val at EG E11
        have c1 := HC1.out W hS
        refine g_want rfl rfl rfl EG ?_
        exact does_value (w' := W) (v := .int .i64 y) (by go_simp) ⟨(), .inr rfl, hS⟩
      · have EG := hval 3 _ 8 rfl rfl (dep_of hdep 3 (by rfl))
        have E10 := hval 5 _ 10 rfl rfl (dep_of hdep 5 (by rfl))
        have E12 := hval 7 _ 12 rfl rfl (dep_of hdep 7 (by rfl))
        unfold ck1Val at EG E10 E12
        refine g_want rfl rfl rfl EG ?_
        exact does_value (w' := W) (v := .bool true) (by go_simp) ⟨(), .inr rfl, hS⟩
      · have E8 := hval 3 _ 8 rfl rfl (dep_of hdep 3 (by rfl))
        have E13 := hval 8 _ 13 rfl rfl (dep_of hdep 8 (by rfl))
        unfold ck1Val at E8 E13
        refine g_plain rfl ?_
        exact does_value (w' := W) (v := .bool true) (by go_simp) ⟨(), .inr rfl, hS⟩
      · have E14 := hval 9 _ 14 rfl rfl (dep_of hdep 9 (by rfl))
        unfold ck1Val at E14
        refine g_plain rfl ?_
        exact does_value (w' := W) (v := .bool true) (by go_simp) ⟨(), .inr rfl, hS⟩
      · have EG := hval 10 _ 15 rfl rfl (dep_of hdep 10 (by rfl))
        unfold ck1Val at EG
        exact g_skip rfl rfl rfl EG rfl ⟨(), .inr rfl, hS⟩
      · have EG := hval 10 _ 15 rfl rfl (dep_of hdep 10 (by rfl))
        unfold ck1Val at EG
        exact g_skip rfl rfl rfl EG rfl ⟨(), .inr rfl, hS⟩
      · have EG := hval 10 _ 15 rfl rfl (dep_of hdep 10 (by rfl))
        unfold ck1Val at EG
        exact g_skip rfl rfl rfl EG rfl ⟨(), .inr rfl, hS⟩
      · have EG := hval 10 _ 15 rfl rfl (dep_of hdep 10 (by rfl))
        unfold ck1Val at EG
        exact g_skip rfl rfl rfl EG rfl ⟨(), .inr rfl, hS⟩
      · have EG := hval 10 _ 15 rfl rfl (dep_of hdep 10 (by rfl))
        unfold ck1Val at EG
        exact g_skip rfl rfl rfl EG rfl ⟨(), .inr rfl, hS⟩
      · have E15 := hval 10 _ 15 rfl rfl (dep_of hdep 10 (by rfl))
        have E20 := hval 15 _ 20 rfl rfl (dep_of hdep 15 (by rfl))
        unfold ck1Val at E15 E20
        refine g_plain rfl ?_
        exact does_value (w' := W) (v := .bool true) (by go_simp) ⟨(), .inr rfl, hS⟩
      · have E21 := hval 16 _ 21 rfl rfl (dep_of hdep 16 (by rfl))
        unfold ck1Val at E21
        refine g_plain rfl ?_
        exact does_value (w' := W) (v := .bool true) (by go_simp) ⟨(), .inr rfl, hS⟩
      · have EG := hval 17 _ 22 rfl rfl (dep_of hdep 17 (by rfl))
        unfold ck1Val at EG
        exact g_skip rfl rfl rfl EG rfl ⟨(), .inr rfl, hS⟩
      · have EG := hval 17 _ 22 rfl rfl (dep_of hdep 17 (by rfl))
        unfold ck1Val at EG
        exact g_skip rfl rfl rfl EG rfl ⟨(), .inr rfl, hS⟩
      · have EG := hval 17 _ 22 rfl rfl (dep_of hdep 17 (by rfl))
        unfold ck1Val at EG
        exact g_skip rfl rfl rfl EG rfl ⟨(), .inr rfl, hS⟩
      · have E22 := hval 17 _ 22 rfl rfl (dep_of hdep 17 (by rfl))
        have E25 := hval 20 _ 25 rfl rfl (dep_of hdep 20 (by rfl))
        unfold ck1Val at E22 E25
        refine g_plain rfl ?_
        exact does_value (w' := W) (v := .bool true) (by go_simp) ⟨(), .inr rfl, hS⟩
      · have E26 := hval 21 _ 26 rfl rfl (dep_of hdep 21 (by rfl))
        unfold ck1Val at E26
        refine g_plain rfl ?_
        exact does_value (w' := W) (v := .bool true) (by go_simp) ⟨(), .inr rfl, hS⟩
      · have EG := hval 22 _ 27 rfl rfl (dep_of hdep 22 (by rfl))
        unfold ck1Val at EG
        exact g_skip rfl rfl rfl EG rfl ⟨(), .inr rfl, hS⟩
      · have EG := hval 22 _ 27 rfl rfl (dep_of hdep 22 (by rfl))
        unfold ck1Val at EG
        exact g_skip rfl rfl rfl EG rfl ⟨(), .inr rfl, hS⟩
      · have EG := hval 22 _ 27 rfl rfl (dep_of hdep 22 (by rfl))
        unfold ck1Val at EG
        exact g_skip rfl rfl rfl EG rfl ⟨(), .inr rfl, hS⟩
      · have E27 := hval 22 _ 27 rfl rfl (dep_of hdep 22 (by rfl))
        have E30 := hval 25 _ 30 rfl rfl (dep_of hdep 25 (by rfl))
        unfold ck1Val at E27 E30
        refine g_plain rfl ?_
        exact does_value (w' := W) (v := .bool true) (by go_simp) ⟨(), .inr rfl, hS⟩
    · intro gh w8 hS
      have HB8 := hid (show Below w1.heap.size w1 w8 from hS)
      clear hS HST HC0 HC1 HC2 HSZ
      simp only [putAll, ck1Val, Nat.reduceAdd, Nat.zero_add, Act.put, List.setIfInBounds_toArray, List.set_cons_zero, List.set_cons_succ]
      go_wp2_with fail
      go_ret
      exact ⟨by rw [HCE.out]; rfl, by first | exact HBT.out.trans (HB8.out.mono HTW.out) | (rw [hT]; exact HBT.out.trans (HB8.out.mono HTW.out))⟩
  by_cases t2 : (sn : Int) < y
  · have HCE := hid (show (CE : Int) = 3 from by rw [HCK.out, if_neg (by omega)]; rfl)
    clear HCK
    refine wp_region_invG 32 () (ck2Val gx T sn x y) (CkS w1) (by kernel_rfl) (by kernel_rfl) (by exact Nat.le_refl 32) ?_ ?_ ?_
    · exact HST.out
    · intro i o f gh a W hi hf hdep hsame hcl hval hS
      rcases i with _ | _ | _ | _ | _ | _ | _ | _ | _ | _ | _ | _ | _ | _ | _ | _ | _ | _ | _ | _ | _ | _ | _ | _ | _ | _ | _ | i
      all_goals simp only [List.getElem?_cons_succ, List.getElem?_cons_zero, List.getElem?_nil, Option.some.injEq, reduceCtorEq] at hi
      all_goals subst hi
      · have E3 : a.tmps[3]? = some (.pointer (some ⟨T, 0, none⟩)) := (same_of hsame 3 (by rfl)).trans rfl
        refine g_plain rfl ?_
        exact does_value (w' := W) (v := .pointer (some ⟨T, 0, none⟩)) (by go_simp) ⟨(), .inr rfl, hS⟩
      · have E5 := hval 0 _ 5 rfl rfl (dep_of hdep 0 (by rfl))
        unfold ck2Val at E5
        have c1 := HC0.out W hS
        refine g_plain rfl ?_
        exact does_value (w' := W) (v := .int .i64 x) (by go_simp) ⟨(), .inr rfl, hS⟩
      · have E6 := hval 1 _ 6 rfl rfl (dep_of hdep 1 (by rfl))
        unfold ck2Val at E6
        refine g_plain rfl ?_
        exact does_value (w' := W) (v := .bool false) (by go_simp) ⟨(), .inr rfl, hS⟩
      · have E7 := hval 2 _ 7 rfl rfl (dep_of hdep 2 (by rfl))
        unfold ck2Val at E7
        refine g_plain rfl ?_
        exact does_value (w' := W) (v := .bool false) (by go_simp) ⟨(), .inr rfl, hS⟩
      · have EG := hval 3 _ 8 rfl rfl (dep_of hdep 3 (by rfl))
        have E3 : a.tmps[3]? = some (.pointer (some ⟨T, 0, none⟩)) := (same_of hsame 3 (by rfl)).trans rfl
        unfold ck2Val at EG
        refine g_want rfl rfl rfl EG ?_
        exact does_value (w' := W) (v := .pointer (some ⟨T, 0, none⟩)) (by go_simp) ⟨(), .inr rfl, hS⟩
      · have EG := hval 3 _ 8 rfl rfl (dep_of hdep 3 (by rfl))
        have E9 := hval 4 _ 9 rfl rfl (dep_of hdep 4 (by rfl))
        unfold ck2Val at EG E9
        have c1 := HC0.out W hS
        refine g_want rfl rfl rfl EG ?_
        exact does_value (w' := W) (v := .int .i64 x) (by go_simp) ⟨(), .inr rfl, hS⟩
      · have EG := hval 3 _ 8 rfl rfl (dep_of hdep 3 (by rfl))
        have E3 : a.tmps[3]? = some (.pointer (some ⟨T, 0, none⟩)) := (same_of hsame 3 (by rfl)).trans rfl
        unfold ck2Val at EG
        refine g_want rfl rfl rfl EG ?_
        exact does_value (w' := W) (v := .pointer (some ⟨T, 1, none⟩)) (by go_simp) ⟨(), .inr rfl, hS⟩
      · have EG := hval 3 _ 8 rfl rfl (dep_of hdep 3 (by rfl))
        have E11 := hval 6 _ 11 rfl rfl (dep_of hdep 6 (by rfl))
        unfold ck2Val at EG E11
        have c1 := HC1.out W hS
        refine g_want rfl rfl rfl EG ?_
        exact does_value (w' := W) (v := .int .i64 y) (by go_simp) ⟨(), .inr rfl, hS⟩
      · have EG := hval 3 _ 8 rfl rfl (dep_of hdep 3 (by rfl))
        have E10 := hval 5 _ 10 rfl rfl (dep_of hdep 5 (by rfl))
        have E12 := hval 7 _ 12 rfl rfl (dep_of hdep 7 (by rfl))
        unfold ck2Val at EG E10 E12
        refine g_want rfl rfl rfl EG ?_
        exact does_value (w' := W) (v := .bool false) (by go_simp) ⟨(), .inr rfl, hS⟩
      · have E8 := hval 3 _ 8 rfl rfl (dep_of hdep 3 (by rfl))
        have E13 := hval 8 _ 13 rfl rfl (dep_of hdep 8 (by rfl))
        unfold ck2Val at E8 E13
        refine g_plain rfl ?_
        exact does_value (w' := W) (v := .bool false) (by go_simp) ⟨(), .inr rfl, hS⟩
      · have E14 := hval 9 _ 14 rfl rfl (dep_of hdep 9 (by rfl))
        unfold ck2Val at E14
        refine g_plain rfl ?_
        exact does_value (w' := W) (v := .bool false) (by go_simp) ⟨(), .inr rfl, hS⟩
      · have EG := hval 10 _ 15 rfl rfl (dep_of hdep 10 (by rfl))
        have E3 : a.tmps[3]? = some (.pointer (some ⟨T, 0, none⟩)) := (same_of hsame 3 (by rfl)).trans rfl
        unfold ck2Val at EG
        refine g_want rfl rfl rfl EG ?_
        exact does_value (w' := W) (v := .pointer (some ⟨T, 1, none⟩)) (by go_simp) ⟨(), .inr rfl, hS⟩
      · have EG := hval 10 _ 15 rfl rfl (dep_of hdep 10 (by rfl))
        have E16 := hval 11 _ 16 rfl rfl (dep_of hdep 11 (by rfl))
        unfold ck2Val at EG E16
        have c1 := HC1.out W hS
        refine g_want rfl rfl rfl EG ?_
        exact does_value (w' := W) (v := .int .i64 y) (by go_simp) ⟨(), .inr rfl, hS⟩
      · have EG := hval 10 _ 15 rfl rfl (dep_of hdep 10 (by rfl))
        have E0 : a.tmps[0]? = some (.pointer (some ⟨gx, 0, none⟩)) := (same_of hsame 0 (by rfl)).trans rfl
        unfold ck2Val at EG
        refine g_want rfl rfl rfl EG ?_
        exact does_value (w' := W) (v := .pointer (some ⟨gx, 0, none⟩)) (by go_simp) ⟨(), .inr rfl, hS⟩
      · have EG := hval 10 _ 15 rfl rfl (dep_of hdep 10 (by rfl))
        have E18 := hval 13 _ 18 rfl rfl (dep_of hdep 13 (by rfl))
        unfold ck2Val at EG E18
        refine g_want rfl rfl rfl EG ?_
        refine does_call 71 #[.pointer (some ⟨gx, 0, none⟩)] (by go_simp) ((HSZ.out W hS).mono ?_)
        rintro _ _ ⟨rfl, rfl⟩
        exact ⟨_, rfl, (), .inr rfl, hS⟩
      · have EG := hval 10 _ 15 rfl rfl (dep_of hdep 10 (by rfl))
        have E17 := hval 12 _ 17 rfl rfl (dep_of hdep 12 (by rfl))
        have E19 := hval 14 _ 19 rfl rfl (dep_of hdep 14 (by rfl))
        unfold ck2Val at EG E17 E19
        refine g_want rfl rfl rfl EG ?_
        exact does_value (w' := W) (v := .bool true) (by go_simp) ⟨(), .inr rfl, hS⟩
      · have E15 := hval 10 _ 15 rfl rfl (dep_of hdep 10 (by rfl))
        have E20 := hval 15 _ 20 rfl rfl (dep_of hdep 15 (by rfl))
        unfold ck2Val at E15 E20
        refine g_plain rfl ?_
        exact does_value (w' := W) (v := .bool true) (by go_simp) ⟨(), .inr rfl, hS⟩
      · have E21 := hval 16 _ 21 rfl rfl (dep_of hdep 16 (by rfl))
        unfold ck2Val at E21
        refine g_plain rfl ?_
        exact does_value (w' := W) (v := .bool true) (by go_simp) ⟨(), .inr rfl, hS⟩
      · have EG := hval 17 _ 22 rfl rfl (dep_of hdep 17 (by rfl))
        unfold ck2Val at EG
        exact g_skip rfl rfl rfl EG rfl ⟨(), .inr rfl, hS⟩
      · have EG := hval 17 _ 22 rfl rfl (dep_of hdep 17 (by rfl))
        unfold ck2Val at EG
        exact g_skip rfl rfl rfl EG rfl ⟨(), .inr rfl, hS⟩
      · have EG := hval 17 _ 22 rfl rfl (dep_of hdep 17 (by rfl))
        unfold ck2Val at EG
        exact g_skip rfl rfl rfl EG rfl ⟨(), .inr rfl, hS⟩
      · have E22 := hval 17 _ 22 rfl rfl (dep_of hdep 17 (by rfl))
        have E25 := hval 20 _ 25 rfl rfl (dep_of hdep 20 (by rfl))
        unfold ck2Val at E22 E25
        refine g_plain rfl ?_
        exact does_value (w' := W) (v := .bool true) (by go_simp) ⟨(), .inr rfl, hS⟩
      · have E26 := hval 21 _ 26 rfl rfl (dep_of hdep 21 (by rfl))
        unfold ck2Val at E26
        refine g_plain rfl ?_
        exact does_value (w' := W) (v := .bool true) (by go_simp) ⟨(), .inr rfl, hS⟩
      · have EG := hval 22 _ 27 rfl rfl (dep_of hdep 22 (by rfl))
        unfold ck2Val at EG
        exact g_skip rfl rfl rfl EG rfl ⟨(), .inr rfl, hS⟩
      · have EG := hval 22 _ 27 rfl rfl (dep_of hdep 22 (by rfl))
        unfold ck2Val at EG
        exact g_skip rfl rfl rfl EG rfl ⟨(), .inr rfl, hS⟩
      · have EG := hval 22 _ 27 rfl rfl (dep_of hdep 22 (by rfl))
        unfold ck2Val at EG
        exact g_skip rfl rfl rfl EG rfl ⟨(), .inr rfl, hS⟩
      · have E27 := hval 22 _ 27 rfl rfl (dep_of hdep 22 (by rfl))
        have E30 := hval 25 _ 30 rfl rfl (dep_of hdep 25 (by rfl))
        unfold ck2Val at E27 E30
        refine g_plain rfl ?_
        exact does_value (w' := W) (v := .bool true) (by go_simp) ⟨(), .inr rfl, hS⟩
    · intro gh w8 hS
      have HB8 := hid (show Below w1.heap.size w1 w8 from hS)
      clear hS HST HC0 HC1 HC2 HSZ
      simp only [putAll, ck2Val, Nat.reduceAdd, Nat.zero_add, Act.put, List.setIfInBounds_toArray, List.set_cons_zero, List.set_cons_succ]
      go_wp2_with fail
      go_ret
      exact ⟨by rw [HCE.out]; rfl, by first | exact HBT.out.trans (HB8.out.mono HTW.out) | (rw [hT]; exact HBT.out.trans (HB8.out.mono HTW.out))⟩
  by_cases t3 : z < 1
  · have HCE := hid (show (CE : Int) = 3 from by rw [HCK.out, if_neg (by omega)]; rfl)
    clear HCK
    refine wp_region_invG 32 () (ck3Val gx T sn x y z) (CkS w1) (by kernel_rfl) (by kernel_rfl) (by exact Nat.le_refl 32) ?_ ?_ ?_
    · exact HST.out
    · intro i o f gh a W hi hf hdep hsame hcl hval hS
      rcases i with _ | _ | _ | _ | _ | _ | _ | _ | _ | _ | _ | _ | _ | _ | _ | _ | _ | _ | _ | _ | _ | _ | _ | _ | _ | _ | _ | i
      all_goals simp only [List.getElem?_cons_succ, List.getElem?_cons_zero, List.getElem?_nil, Option.some.injEq, reduceCtorEq] at hi
      all_goals subst hi
      · have E3 : a.tmps[3]? = some (.pointer (some ⟨T, 0, none⟩)) := (same_of hsame 3 (by rfl)).trans rfl
        refine g_plain rfl ?_
        exact does_value (w' := W) (v := .pointer (some ⟨T, 0, none⟩)) (by go_simp) ⟨(), .inr rfl, hS⟩
      · have E5 := hval 0 _ 5 rfl rfl (dep_of hdep 0 (by rfl))
        unfold ck3Val at E5
        have c1 := HC0.out W hS
        refine g_plain rfl ?_
        exact does_value (w' := W) (v := .int .i64 x) (by go_simp) ⟨(), .inr rfl, hS⟩
      · have E6 := hval 1 _ 6 rfl rfl (dep_of hdep 1 (by rfl))
        unfold ck3Val at E6
        refine g_plain rfl ?_
        exact does_value (w' := W) (v := .bool false) (by go_simp) ⟨(), .inr rfl, hS⟩
      · have E7 := hval 2 _ 7 rfl rfl (dep_of hdep 2 (by rfl))
        unfold ck3Val at E7
        refine g_plain rfl ?_
        exact does_value (w' := W) (v := .bool false) (by go_simp) ⟨(), .inr rfl, hS⟩
      · have EG := hval 3 _ 8 rfl rfl (dep_of hdep 3 (by rfl))
        have E3 : a.tmps[3]? = some (.pointer (some ⟨T, 0, none⟩)) := (same_of hsame 3 (by rfl)).trans rfl
        unfold ck3Val at EG
        refine g_want rfl rfl rfl EG ?_
        exact does_value (w' := W) (v := .pointer (some ⟨T, 0, none⟩)) (by go_simp) ⟨(), .inr rfl, hS⟩
      · have EG := hval 3 _ 8 rfl rfl (dep_of hdep 3 (by rfl))
        have E9 := hval 4 _ 9 rfl rfl (dep_of hdep 4 (by rfl))
        unfold ck3Val at EG E9
        have c1 := HC0.out W hS
        refine g_want rfl rfl rfl EG ?_
        exact does_value (w' := W) (v := .int .i64 x) (by go_simp) ⟨(), .inr rfl, hS⟩
      · have EG := hval 3 _ 8 rfl rfl (dep_of hdep 3 (by rfl))
        have E3 : a.tmps[3]? = some (.pointer (some ⟨T, 0, none⟩)) := (same_of hsame 3 (by rfl)).trans rfl
        unfold ck3Val at EG
        refine g_want rfl rfl rfl EG ?_
        exact does_value (w' := W) (v := .pointer (some ⟨T, 1, none⟩)) (by go_simp) ⟨(), .inr rfl, hS⟩
      · have EG := hval 3 _ 8 rfl rfl (dep_of hdep 3 (by rfl))
        have E11 := hval 6 _ 11 rfl rfl (dep_of hdep 6 (by rfl))
        unfold ck3Val at EG E11
        have c1 := HC1.out W hS
        refine g_want rfl rfl rfl EG ?_
        exact does_value (w' := W) (v := .int .i64 y) (by go_simp) ⟨(), .inr rfl, hS⟩
      · have EG := hval 3 _ 8 rfl rfl (dep_of hdep 3 (by rfl))
        have E10 := hval 5 _ 10 rfl rfl (dep_of hdep 5 (by rfl))
        have E12 := hval 7 _ 12 rfl rfl (dep_of hdep 7 (by rfl))
        unfold ck3Val at EG E10 E12
        refine g_want rfl rfl rfl EG ?_
        exact does_value (w' := W) (v := .bool false) (by go_simp) ⟨(), .inr rfl, hS⟩
      · have E8 := hval 3 _ 8 rfl rfl (dep_of hdep 3 (by rfl))
        have E13 := hval 8 _ 13 rfl rfl (dep_of hdep 8 (by rfl))
        unfold ck3Val at E8 E13
        refine g_plain rfl ?_
        exact does_value (w' := W) (v := .bool false) (by go_simp) ⟨(), .inr rfl, hS⟩
      · have E14 := hval 9 _ 14 rfl rfl (dep_of hdep 9 (by rfl))
        unfold ck3Val at E14
        refine g_plain rfl ?_
        exact does_value (w' := W) (v := .bool false) (by go_simp) ⟨(), .inr rfl, hS⟩
      · have EG := hval 10 _ 15 rfl rfl (dep_of hdep 10 (by rfl))
        have E3 : a.tmps[3]? = some (.pointer (some ⟨T, 0, none⟩)) := (same_of hsame 3 (by rfl)).trans rfl
        unfold ck3Val at EG
        refine g_want rfl rfl rfl EG ?_
        exact does_value (w' := W) (v := .pointer (some ⟨T, 1, none⟩)) (by go_simp) ⟨(), .inr rfl, hS⟩
      · have EG := hval 10 _ 15 rfl rfl (dep_of hdep 10 (by rfl))
        have E16 := hval 11 _ 16 rfl rfl (dep_of hdep 11 (by rfl))
        unfold ck3Val at EG E16
        have c1 := HC1.out W hS
        refine g_want rfl rfl rfl EG ?_
        exact does_value (w' := W) (v := .int .i64 y) (by go_simp) ⟨(), .inr rfl, hS⟩
      · have EG := hval 10 _ 15 rfl rfl (dep_of hdep 10 (by rfl))
        have E0 : a.tmps[0]? = some (.pointer (some ⟨gx, 0, none⟩)) := (same_of hsame 0 (by rfl)).trans rfl
        unfold ck3Val at EG
        refine g_want rfl rfl rfl EG ?_
        exact does_value (w' := W) (v := .pointer (some ⟨gx, 0, none⟩)) (by go_simp) ⟨(), .inr rfl, hS⟩
      · have EG := hval 10 _ 15 rfl rfl (dep_of hdep 10 (by rfl))
        have E18 := hval 13 _ 18 rfl rfl (dep_of hdep 13 (by rfl))
        unfold ck3Val at EG E18
        refine g_want rfl rfl rfl EG ?_
        refine does_call 71 #[.pointer (some ⟨gx, 0, none⟩)] (by go_simp) ((HSZ.out W hS).mono ?_)
        rintro _ _ ⟨rfl, rfl⟩
        exact ⟨_, rfl, (), .inr rfl, hS⟩
      · have EG := hval 10 _ 15 rfl rfl (dep_of hdep 10 (by rfl))
        have E17 := hval 12 _ 17 rfl rfl (dep_of hdep 12 (by rfl))
        have E19 := hval 14 _ 19 rfl rfl (dep_of hdep 14 (by rfl))
        unfold ck3Val at EG E17 E19
        refine g_want rfl rfl rfl EG ?_
        exact does_value (w' := W) (v := .bool false) (by go_simp) ⟨(), .inr rfl, hS⟩
      · have E15 := hval 10 _ 15 rfl rfl (dep_of hdep 10 (by rfl))
        have E20 := hval 15 _ 20 rfl rfl (dep_of hdep 15 (by rfl))
        unfold ck3Val at E15 E20
        refine g_plain rfl ?_
        exact does_value (w' := W) (v := .bool false) (by go_simp) ⟨(), .inr rfl, hS⟩
      · have E21 := hval 16 _ 21 rfl rfl (dep_of hdep 16 (by rfl))
        unfold ck3Val at E21
        refine g_plain rfl ?_
        exact does_value (w' := W) (v := .bool false) (by go_simp) ⟨(), .inr rfl, hS⟩
      · have EG := hval 17 _ 22 rfl rfl (dep_of hdep 17 (by rfl))
        have E3 : a.tmps[3]? = some (.pointer (some ⟨T, 0, none⟩)) := (same_of hsame 3 (by rfl)).trans rfl
        unfold ck3Val at EG
        refine g_want rfl rfl rfl EG ?_
        exact does_value (w' := W) (v := .pointer (some ⟨T, 2, none⟩)) (by go_simp) ⟨(), .inr rfl, hS⟩
      · have EG := hval 17 _ 22 rfl rfl (dep_of hdep 17 (by rfl))
        have E23 := hval 18 _ 23 rfl rfl (dep_of hdep 18 (by rfl))
        unfold ck3Val at EG E23
        have c1 := HC2.out W hS
        refine g_want rfl rfl rfl EG ?_
        exact does_value (w' := W) (v := .int .i64 z) (by go_simp) ⟨(), .inr rfl, hS⟩
      · have EG := hval 17 _ 22 rfl rfl (dep_of hdep 17 (by rfl))
        have E24 := hval 19 _ 24 rfl rfl (dep_of hdep 19 (by rfl))
        unfold ck3Val at EG E24
        refine g_want rfl rfl rfl EG ?_
        exact does_value (w' := W) (v := .bool true) (by go_simp) ⟨(), .inr rfl, hS⟩
      · have E22 := hval 17 _ 22 rfl rfl (dep_of hdep 17 (by rfl))
        have E25 := hval 20 _ 25 rfl rfl (dep_of hdep 20 (by rfl))
        unfold ck3Val at E22 E25
        refine g_plain rfl ?_
        exact does_value (w' := W) (v := .bool true) (by go_simp) ⟨(), .inr rfl, hS⟩
      · have E26 := hval 21 _ 26 rfl rfl (dep_of hdep 21 (by rfl))
        unfold ck3Val at E26
        refine g_plain rfl ?_
        exact does_value (w' := W) (v := .bool true) (by go_simp) ⟨(), .inr rfl, hS⟩
      · have EG := hval 22 _ 27 rfl rfl (dep_of hdep 22 (by rfl))
        unfold ck3Val at EG
        exact g_skip rfl rfl rfl EG rfl ⟨(), .inr rfl, hS⟩
      · have EG := hval 22 _ 27 rfl rfl (dep_of hdep 22 (by rfl))
        unfold ck3Val at EG
        exact g_skip rfl rfl rfl EG rfl ⟨(), .inr rfl, hS⟩
      · have EG := hval 22 _ 27 rfl rfl (dep_of hdep 22 (by rfl))
        unfold ck3Val at EG
        exact g_skip rfl rfl rfl EG rfl ⟨(), .inr rfl, hS⟩
      · have E27 := hval 22 _ 27 rfl rfl (dep_of hdep 22 (by rfl))
        have E30 := hval 25 _ 30 rfl rfl (dep_of hdep 25 (by rfl))
        unfold ck3Val at E27 E30
        refine g_plain rfl ?_
        exact does_value (w' := W) (v := .bool true) (by go_simp) ⟨(), .inr rfl, hS⟩
    · intro gh w8 hS
      have HB8 := hid (show Below w1.heap.size w1 w8 from hS)
      clear hS HST HC0 HC1 HC2 HSZ
      simp only [putAll, ck3Val, Nat.reduceAdd, Nat.zero_add, Act.put, List.setIfInBounds_toArray, List.set_cons_zero, List.set_cons_succ]
      go_wp2_with fail
      go_ret
      exact ⟨by rw [HCE.out]; rfl, by first | exact HBT.out.trans (HB8.out.mono HTW.out) | (rw [hT]; exact HBT.out.trans (HB8.out.mono HTW.out))⟩
  by_cases t4 : 2147483647 < z
  · have HCE := hid (show (CE : Int) = 3 from by rw [HCK.out, if_neg (by omega)]; rfl)
    clear HCK
    refine wp_region_invG 32 () (ck4Val gx T sn x y z) (CkS w1) (by kernel_rfl) (by kernel_rfl) (by exact Nat.le_refl 32) ?_ ?_ ?_
    · exact HST.out
    · intro i o f gh a W hi hf hdep hsame hcl hval hS
      rcases i with _ | _ | _ | _ | _ | _ | _ | _ | _ | _ | _ | _ | _ | _ | _ | _ | _ | _ | _ | _ | _ | _ | _ | _ | _ | _ | _ | i
      all_goals simp only [List.getElem?_cons_succ, List.getElem?_cons_zero, List.getElem?_nil, Option.some.injEq, reduceCtorEq] at hi
      all_goals subst hi
      · have E3 : a.tmps[3]? = some (.pointer (some ⟨T, 0, none⟩)) := (same_of hsame 3 (by rfl)).trans rfl
        refine g_plain rfl ?_
        exact does_value (w' := W) (v := .pointer (some ⟨T, 0, none⟩)) (by go_simp) ⟨(), .inr rfl, hS⟩
      · have E5 := hval 0 _ 5 rfl rfl (dep_of hdep 0 (by rfl))
        unfold ck4Val at E5
        have c1 := HC0.out W hS
        refine g_plain rfl ?_
        exact does_value (w' := W) (v := .int .i64 x) (by go_simp) ⟨(), .inr rfl, hS⟩
      · have E6 := hval 1 _ 6 rfl rfl (dep_of hdep 1 (by rfl))
        unfold ck4Val at E6
        refine g_plain rfl ?_
        exact does_value (w' := W) (v := .bool false) (by go_simp) ⟨(), .inr rfl, hS⟩
      · have E7 := hval 2 _ 7 rfl rfl (dep_of hdep 2 (by rfl))
        unfold ck4Val at E7
        refine g_plain rfl ?_
        exact does_value (w' := W) (v := .bool false) (by go_simp) ⟨(), .inr rfl, hS⟩
      · have EG := hval 3 _ 8 rfl rfl (dep_of hdep 3 (by rfl))
        have E3 : a.tmps[3]? = some (.pointer (some ⟨T, 0, none⟩)) := (same_of hsame 3 (by rfl)).trans rfl
        unfold ck4Val at EG
        refine g_want rfl rfl rfl EG ?_
        exact does_value (w' := W) (v := .pointer (some ⟨T, 0, none⟩)) (by go_simp) ⟨(), .inr rfl, hS⟩
      · have EG := hval 3 _ 8 rfl rfl (dep_of hdep 3 (by rfl))
        have E9 := hval 4 _ 9 rfl rfl (dep_of hdep 4 (by rfl))
        unfold ck4Val at EG E9
        have c1 := HC0.out W hS
        refine g_want rfl rfl rfl EG ?_
        exact does_value (w' := W) (v := .int .i64 x) (by go_simp) ⟨(), .inr rfl, hS⟩
      · have EG := hval 3 _ 8 rfl rfl (dep_of hdep 3 (by rfl))
        have E3 : a.tmps[3]? = some (.pointer (some ⟨T, 0, none⟩)) := (same_of hsame 3 (by rfl)).trans rfl
        unfold ck4Val at EG
        refine g_want rfl rfl rfl EG ?_
        exact does_value (w' := W) (v := .pointer (some ⟨T, 1, none⟩)) (by go_simp) ⟨(), .inr rfl, hS⟩
      · have EG := hval 3 _ 8 rfl rfl (dep_of hdep 3 (by rfl))
        have E11 := hval 6 _ 11 rfl rfl (dep_of hdep 6 (by rfl))
        unfold ck4Val at EG E11
        have c1 := HC1.out W hS
        refine g_want rfl rfl rfl EG ?_
        exact does_value (w' := W) (v := .int .i64 y) (by go_simp) ⟨(), .inr rfl, hS⟩
      · have EG := hval 3 _ 8 rfl rfl (dep_of hdep 3 (by rfl))
        have E10 := hval 5 _ 10 rfl rfl (dep_of hdep 5 (by rfl))
        have E12 := hval 7 _ 12 rfl rfl (dep_of hdep 7 (by rfl))
        unfold ck4Val at EG E10 E12
        refine g_want rfl rfl rfl EG ?_
        exact does_value (w' := W) (v := .bool false) (by go_simp) ⟨(), .inr rfl, hS⟩
      · have E8 := hval 3 _ 8 rfl rfl (dep_of hdep 3 (by rfl))
        have E13 := hval 8 _ 13 rfl rfl (dep_of hdep 8 (by rfl))
        unfold ck4Val at E8 E13
        refine g_plain rfl ?_
        exact does_value (w' := W) (v := .bool false) (by go_simp) ⟨(), .inr rfl, hS⟩
      · have E14 := hval 9 _ 14 rfl rfl (dep_of hdep 9 (by rfl))
        unfold ck4Val at E14
        refine g_plain rfl ?_
        exact does_value (w' := W) (v := .bool false) (by go_simp) ⟨(), .inr rfl, hS⟩
      · have EG := hval 10 _ 15 rfl rfl (dep_of hdep 10 (by rfl))
        have E3 : a.tmps[3]? = some (.pointer (some ⟨T, 0, none⟩)) := (same_of hsame 3 (by rfl)).trans rfl
        unfold ck4Val at EG
        refine g_want rfl rfl rfl EG ?_
        exact does_value (w' := W) (v := .pointer (some ⟨T, 1, none⟩)) (by go_simp) ⟨(), .inr rfl, hS⟩
      · have EG := hval 10 _ 15 rfl rfl (dep_of hdep 10 (by rfl))
        have E16 := hval 11 _ 16 rfl rfl (dep_of hdep 11 (by rfl))
        unfold ck4Val at EG E16
        have c1 := HC1.out W hS
        refine g_want rfl rfl rfl EG ?_
        exact does_value (w' := W) (v := .int .i64 y) (by go_simp) ⟨(), .inr rfl, hS⟩
      · have EG := hval 10 _ 15 rfl rfl (dep_of hdep 10 (by rfl))
        have E0 : a.tmps[0]? = some (.pointer (some ⟨gx, 0, none⟩)) := (same_of hsame 0 (by rfl)).trans rfl
        unfold ck4Val at EG
        refine g_want rfl rfl rfl EG ?_
        exact does_value (w' := W) (v := .pointer (some ⟨gx, 0, none⟩)) (by go_simp) ⟨(), .inr rfl, hS⟩
      · have EG := hval 10 _ 15 rfl rfl (dep_of hdep 10 (by rfl))
        have E18 := hval 13 _ 18 rfl rfl (dep_of hdep 13 (by rfl))
        unfold ck4Val at EG E18
        refine g_want rfl rfl rfl EG ?_
        refine does_call 71 #[.pointer (some ⟨gx, 0, none⟩)] (by go_simp) ((HSZ.out W hS).mono ?_)
        rintro _ _ ⟨rfl, rfl⟩
        exact ⟨_, rfl, (), .inr rfl, hS⟩
      · have EG := hval 10 _ 15 rfl rfl (dep_of hdep 10 (by rfl))
        have E17 := hval 12 _ 17 rfl rfl (dep_of hdep 12 (by rfl))
        have E19 := hval 14 _ 19 rfl rfl (dep_of hdep 14 (by rfl))
        unfold ck4Val at EG E17 E19
        refine g_want rfl rfl rfl EG ?_
        exact does_value (w' := W) (v := .bool false) (by go_simp) ⟨(), .inr rfl, hS⟩
      · have E15 := hval 10 _ 15 rfl rfl (dep_of hdep 10 (by rfl))
        have E20 := hval 15 _ 20 rfl rfl (dep_of hdep 15 (by rfl))
        unfold ck4Val at E15 E20
        refine g_plain rfl ?_
        exact does_value (w' := W) (v := .bool false) (by go_simp) ⟨(), .inr rfl, hS⟩
      · have E21 := hval 16 _ 21 rfl rfl (dep_of hdep 16 (by rfl))
        unfold ck4Val at E21
        refine g_plain rfl ?_
        exact does_value (w' := W) (v := .bool false) (by go_simp) ⟨(), .inr rfl, hS⟩
      · have EG := hval 17 _ 22 rfl rfl (dep_of hdep 17 (by rfl))
        have E3 : a.tmps[3]? = some (.pointer (some ⟨T, 0, none⟩)) := (same_of hsame 3 (by rfl)).trans rfl
        unfold ck4Val at EG
        refine g_want rfl rfl rfl EG ?_
        exact does_value (w' := W) (v := .pointer (some ⟨T, 2, none⟩)) (by go_simp) ⟨(), .inr rfl, hS⟩
      · have EG := hval 17 _ 22 rfl rfl (dep_of hdep 17 (by rfl))
        have E23 := hval 18 _ 23 rfl rfl (dep_of hdep 18 (by rfl))
        unfold ck4Val at EG E23
        have c1 := HC2.out W hS
        refine g_want rfl rfl rfl EG ?_
        exact does_value (w' := W) (v := .int .i64 z) (by go_simp) ⟨(), .inr rfl, hS⟩
      · have EG := hval 17 _ 22 rfl rfl (dep_of hdep 17 (by rfl))
        have E24 := hval 19 _ 24 rfl rfl (dep_of hdep 19 (by rfl))
        unfold ck4Val at EG E24
        refine g_want rfl rfl rfl EG ?_
        exact does_value (w' := W) (v := .bool false) (by go_simp) ⟨(), .inr rfl, hS⟩
      · have E22 := hval 17 _ 22 rfl rfl (dep_of hdep 17 (by rfl))
        have E25 := hval 20 _ 25 rfl rfl (dep_of hdep 20 (by rfl))
        unfold ck4Val at E22 E25
        refine g_plain rfl ?_
        exact does_value (w' := W) (v := .bool false) (by go_simp) ⟨(), .inr rfl, hS⟩
      · have E26 := hval 21 _ 26 rfl rfl (dep_of hdep 21 (by rfl))
        unfold ck4Val at E26
        refine g_plain rfl ?_
        exact does_value (w' := W) (v := .bool false) (by go_simp) ⟨(), .inr rfl, hS⟩
      · have EG := hval 22 _ 27 rfl rfl (dep_of hdep 22 (by rfl))
        have E3 : a.tmps[3]? = some (.pointer (some ⟨T, 0, none⟩)) := (same_of hsame 3 (by rfl)).trans rfl
        unfold ck4Val at EG
        refine g_want rfl rfl rfl EG ?_
        exact does_value (w' := W) (v := .pointer (some ⟨T, 2, none⟩)) (by go_simp) ⟨(), .inr rfl, hS⟩
      · have EG := hval 22 _ 27 rfl rfl (dep_of hdep 22 (by rfl))
        have E28 := hval 23 _ 28 rfl rfl (dep_of hdep 23 (by rfl))
        unfold ck4Val at EG E28
        have c1 := HC2.out W hS
        refine g_want rfl rfl rfl EG ?_
        exact does_value (w' := W) (v := .int .i64 z) (by go_simp) ⟨(), .inr rfl, hS⟩
      · have EG := hval 22 _ 27 rfl rfl (dep_of hdep 22 (by rfl))
        have E29 := hval 24 _ 29 rfl rfl (dep_of hdep 24 (by rfl))
        unfold ck4Val at EG E29
        refine g_want rfl rfl rfl EG ?_
        exact does_value (w' := W) (v := .bool true) (by go_simp) ⟨(), .inr rfl, hS⟩
      · have E27 := hval 22 _ 27 rfl rfl (dep_of hdep 22 (by rfl))
        have E30 := hval 25 _ 30 rfl rfl (dep_of hdep 25 (by rfl))
        unfold ck4Val at E27 E30
        refine g_plain rfl ?_
        exact does_value (w' := W) (v := .bool true) (by go_simp) ⟨(), .inr rfl, hS⟩
    · intro gh w8 hS
      have HB8 := hid (show Below w1.heap.size w1 w8 from hS)
      clear hS HST HC0 HC1 HC2 HSZ
      simp only [putAll, ck4Val, Nat.reduceAdd, Nat.zero_add, Act.put, List.setIfInBounds_toArray, List.set_cons_zero, List.set_cons_succ]
      go_wp2_with fail
      go_ret
      exact ⟨by rw [HCE.out]; rfl, by first | exact HBT.out.trans (HB8.out.mono HTW.out) | (rw [hT]; exact HBT.out.trans (HB8.out.mono HTW.out))⟩
  have HCE := hid (show (CE : Int) = 0 from by rw [HCK.out, if_pos (by omega)]; rfl)
  clear HCK
  refine wp_region_invG 32 () (ck5Val gx T sn x y z) (CkS w1) (by kernel_rfl) (by kernel_rfl) (by exact Nat.le_refl 32) ?_ ?_ ?_
  · exact HST.out
  · intro i o f gh a W hi hf hdep hsame hcl hval hS
    rcases i with _ | _ | _ | _ | _ | _ | _ | _ | _ | _ | _ | _ | _ | _ | _ | _ | _ | _ | _ | _ | _ | _ | _ | _ | _ | _ | _ | i
    all_goals simp only [List.getElem?_cons_succ, List.getElem?_cons_zero, List.getElem?_nil, Option.some.injEq, reduceCtorEq] at hi
    all_goals subst hi
    · have E3 : a.tmps[3]? = some (.pointer (some ⟨T, 0, none⟩)) := (same_of hsame 3 (by rfl)).trans rfl
      refine g_plain rfl ?_
      exact does_value (w' := W) (v := .pointer (some ⟨T, 0, none⟩)) (by go_simp) ⟨(), .inr rfl, hS⟩
    · have E5 := hval 0 _ 5 rfl rfl (dep_of hdep 0 (by rfl))
      unfold ck5Val at E5
      have c1 := HC0.out W hS
      refine g_plain rfl ?_
      exact does_value (w' := W) (v := .int .i64 x) (by go_simp) ⟨(), .inr rfl, hS⟩
    · have E6 := hval 1 _ 6 rfl rfl (dep_of hdep 1 (by rfl))
      unfold ck5Val at E6
      refine g_plain rfl ?_
      exact does_value (w' := W) (v := .bool false) (by go_simp) ⟨(), .inr rfl, hS⟩
    · have E7 := hval 2 _ 7 rfl rfl (dep_of hdep 2 (by rfl))
      unfold ck5Val at E7
      refine g_plain rfl ?_
      exact does_value (w' := W) (v := .bool false) (by go_simp) ⟨(), .inr rfl, hS⟩
    · have EG := hval 3 _ 8 rfl rfl (dep_of hdep 3 (by rfl))
      have E3 : a.tmps[3]? = some (.pointer (some ⟨T, 0, none⟩)) := (same_of hsame 3 (by rfl)).trans rfl
      unfold ck5Val at EG
      refine g_want rfl rfl rfl EG ?_
      exact does_value (w' := W) (v := .pointer (some ⟨T, 0, none⟩)) (by go_simp) ⟨(), .inr rfl, hS⟩
    · have EG := hval 3 _ 8 rfl rfl (dep_of hdep 3 (by rfl))
      have E9 := hval 4 _ 9 rfl rfl (dep_of hdep 4 (by rfl))
      unfold ck5Val at EG E9
      have c1 := HC0.out W hS
      refine g_want rfl rfl rfl EG ?_
      exact does_value (w' := W) (v := .int .i64 x) (by go_simp) ⟨(), .inr rfl, hS⟩
    · have EG := hval 3 _ 8 rfl rfl (dep_of hdep 3 (by rfl))
      have E3 : a.tmps[3]? = some (.pointer (some ⟨T, 0, none⟩)) := (same_of hsame 3 (by rfl)).trans rfl
      unfold ck5Val at EG
      refine g_want rfl rfl rfl EG ?_
      exact does_value (w' := W) (v := .pointer (some ⟨T, 1, none⟩)) (by go_simp) ⟨(), .inr rfl, hS⟩
    · have EG := hval 3 _ 8 rfl rfl (dep_of hdep 3 (by rfl))
      have E11 := hval 6 _ 11 rfl rfl (dep_of hdep 6 (by rfl))
      unfold ck5Val at EG E11
      have c1 := HC1.out W hS
      refine g_want rfl rfl rfl EG ?_
      exact does_value (w' := W) (v := .int .i64 y) (by go_simp) ⟨(), .inr rfl, hS⟩
    · have EG := hval 3 _ 8 rfl rfl (dep_of hdep 3 (by rfl))
      have E10 := hval 5 _ 10 rfl rfl (dep_of hdep 5 (by rfl))
      have E12 := hval 7 _ 12 rfl rfl (dep_of hdep 7 (by rfl))
      unfold ck5Val at EG E10 E12
      refine g_want rfl rfl rfl EG ?_
      exact does_value (w' := W) (v := .bool false) (by go_simp) ⟨(), .inr rfl, hS⟩
    · have E8 := hval 3 _ 8 rfl rfl (dep_of hdep 3 (by rfl))
      have E13 := hval 8 _ 13 rfl rfl (dep_of hdep 8 (by rfl))
      unfold ck5Val at E8 E13
      refine g_plain rfl ?_
      exact does_value (w' := W) (v := .bool false) (by go_simp) ⟨(), .inr rfl, hS⟩
    · have E14 := hval 9 _ 14 rfl rfl (dep_of hdep 9 (by rfl))
      unfold ck5Val at E14
      refine g_plain rfl ?_
      exact does_value (w' := W) (v := .bool false) (by go_simp) ⟨(), .inr rfl, hS⟩
    · have EG := hval 10 _ 15 rfl rfl (dep_of hdep 10 (by rfl))
      have E3 : a.tmps[3]? = some (.pointer (some ⟨T, 0, none⟩)) := (same_of hsame 3 (by rfl)).trans rfl
      unfold ck5Val at EG
      refine g_want rfl rfl rfl EG ?_
      exact does_value (w' := W) (v := .pointer (some ⟨T, 1, none⟩)) (by go_simp) ⟨(), .inr rfl, hS⟩
    · have EG := hval 10 _ 15 rfl rfl (dep_of hdep 10 (by rfl))
      have E16 := hval 11 _ 16 rfl rfl (dep_of hdep 11 (by rfl))
      unfold ck5Val at EG E16
      have c1 := HC1.out W hS
      refine g_want rfl rfl rfl EG ?_
      exact does_value (w' := W) (v := .int .i64 y) (by go_simp) ⟨(), .inr rfl, hS⟩
    · have EG := hval 10 _ 15 rfl rfl (dep_of hdep 10 (by rfl))
      have E0 : a.tmps[0]? = some (.pointer (some ⟨gx, 0, none⟩)) := (same_of hsame 0 (by rfl)).trans rfl
      unfold ck5Val at EG
      refine g_want rfl rfl rfl EG ?_
      exact does_value (w' := W) (v := .pointer (some ⟨gx, 0, none⟩)) (by go_simp) ⟨(), .inr rfl, hS⟩
    · have EG := hval 10 _ 15 rfl rfl (dep_of hdep 10 (by rfl))
      have E18 := hval 13 _ 18 rfl rfl (dep_of hdep 13 (by rfl))
      unfold ck5Val at EG E18
      refine g_want rfl rfl rfl EG ?_
      refine does_call 71 #[.pointer (some ⟨gx, 0, none⟩)] (by go_simp) ((HSZ.out W hS).mono ?_)
      rintro _ _ ⟨rfl, rfl⟩
      exact ⟨_, rfl, (), .inr rfl, hS⟩
    · have EG := hval 10 _ 15 rfl rfl (dep_of hdep 10 (by rfl))
      have E17 := hval 12 _ 17 rfl rfl (dep_of hdep 12 (by rfl))
      have E19 := hval 14 _ 19 rfl rfl (dep_of hdep 14 (by rfl))
      unfold ck5Val at EG E17 E19
      refine g_want rfl rfl rfl EG ?_
      exact does_value (w' := W) (v := .bool false) (by go_simp) ⟨(), .inr rfl, hS⟩
    · have E15 := hval 10 _ 15 rfl rfl (dep_of hdep 10 (by rfl))
      have E20 := hval 15 _ 20 rfl rfl (dep_of hdep 15 (by rfl))
      unfold ck5Val at E15 E20
      refine g_plain rfl ?_
      exact does_value (w' := W) (v := .bool false) (by go_simp) ⟨(), .inr rfl, hS⟩
    · have E21 := hval 16 _ 21 rfl rfl (dep_of hdep 16 (by rfl))
      unfold ck5Val at E21
      refine g_plain rfl ?_
      exact does_value (w' := W) (v := .bool false) (by go_simp) ⟨(), .inr rfl, hS⟩
    · have EG := hval 17 _ 22 rfl rfl (dep_of hdep 17 (by rfl))
      have E3 : a.tmps[3]? = some (.pointer (some ⟨T, 0, none⟩)) := (same_of hsame 3 (by rfl)).trans rfl
      unfold ck5Val at EG
      refine g_want rfl rfl rfl EG ?_
      exact does_value (w' := W) (v := .pointer (some ⟨T, 2, none⟩)) (by go_simp) ⟨(), .inr rfl, hS⟩
    · have EG := hval 17 _ 22 rfl rfl (dep_of hdep 17 (by rfl))
      have E23 := hval 18 _ 23 rfl rfl (dep_of hdep 18 (by rfl))
      unfold ck5Val at EG E23
      have c1 := HC2.out W hS
      refine g_want rfl rfl rfl EG ?_
      exact does_value (w' := W) (v := .int .i64 z) (by go_simp) ⟨(), .inr rfl, hS⟩
    · have EG := hval 17 _ 22 rfl rfl (dep_of hdep 17 (by rfl))
      have E24 := hval 19 _ 24 rfl rfl (dep_of hdep 19 (by rfl))
      unfold ck5Val at EG E24
      refine g_want rfl rfl rfl EG ?_
      exact does_value (w' := W) (v := .bool false) (by go_simp) ⟨(), .inr rfl, hS⟩
    · have E22 := hval 17 _ 22 rfl rfl (dep_of hdep 17 (by rfl))
      have E25 := hval 20 _ 25 rfl rfl (dep_of hdep 20 (by rfl))
      unfold ck5Val at E22 E25
      refine g_plain rfl ?_
      exact does_value (w' := W) (v := .bool false) (by go_simp) ⟨(), .inr rfl, hS⟩
    · have E26 := hval 21 _ 26 rfl rfl (dep_of hdep 21 (by rfl))
      unfold ck5Val at E26
      refine g_plain rfl ?_
      exact does_value (w' := W) (v := .bool false) (by go_simp) ⟨(), .inr rfl, hS⟩
    · have EG := hval 22 _ 27 rfl rfl (dep_of hdep 22 (by rfl))
      have E3 : a.tmps[3]? = some (.pointer (some ⟨T, 0, none⟩)) := (same_of hsame 3 (by rfl)).trans rfl
      unfold ck5Val at EG
      refine g_want rfl rfl rfl EG ?_
      exact does_value (w' := W) (v := .pointer (some ⟨T, 2, none⟩)) (by go_simp) ⟨(), .inr rfl, hS⟩
    · have EG := hval 22 _ 27 rfl rfl (dep_of hdep 22 (by rfl))
      have E28 := hval 23 _ 28 rfl rfl (dep_of hdep 23 (by rfl))
      unfold ck5Val at EG E28
      have c1 := HC2.out W hS
      refine g_want rfl rfl rfl EG ?_
      exact does_value (w' := W) (v := .int .i64 z) (by go_simp) ⟨(), .inr rfl, hS⟩
    · have EG := hval 22 _ 27 rfl rfl (dep_of hdep 22 (by rfl))
      have E29 := hval 24 _ 29 rfl rfl (dep_of hdep 24 (by rfl))
      unfold ck5Val at EG E29
      refine g_want rfl rfl rfl EG ?_
      exact does_value (w' := W) (v := .bool false) (by go_simp) ⟨(), .inr rfl, hS⟩
    · have E27 := hval 22 _ 27 rfl rfl (dep_of hdep 22 (by rfl))
      have E30 := hval 25 _ 30 rfl rfl (dep_of hdep 25 (by rfl))
      unfold ck5Val at E27 E30
      refine g_plain rfl ?_
      exact does_value (w' := W) (v := .bool false) (by go_simp) ⟨(), .inr rfl, hS⟩
  · intro gh w8 hS
    have HB8 := hid (show Below w1.heap.size w1 w8 from hS)
    clear hS HST HC0 HC1 HC2 HSZ
    simp only [putAll, ck5Val, Nat.reduceAdd, Nat.zero_add, Act.put, List.setIfInBounds_toArray, List.set_cons_zero, List.set_cons_succ]
    go_wp2_with fail
    go_ret
    exact ⟨by rw [HCE.out]; rfl, by first | exact HBT.out.trans (HB8.out.mono HTW.out) | (rw [hT]; exact HBT.out.trans (HB8.out.mono HTW.out))⟩
end
end Go.Proofs.Ytiejndkchcljdaa
/- Contract: the plain reference's Blank. -/
namespace Go.Proofs.Ytiejndkchcljdaa
open Go.RowKit

/-- a device of the plain reference at work, and blocks that are not its own -/
structure RX (w : World) (bx : Nat) (Fx : List Nat) (gx m : Nat) (H : List Nat) (s : DS) (W : World) : Prop where
  ex : ∃ F, RdB W bx F gx m s ∧ (∀ b ∈ F, b ∈ Fx ∨ w.heap.size ≤ b) ∧ ∀ b ∈ H, b < W.heap.size ∧ b ∉ F
  chg : Chg Fx w W
  bxb : bx ≤ w.heap.size
section
variable {w W W' : World} {bx gx m m' : Nat} {Fx H H' : List Nat} {s s' : DS}
theorem RX.start (h : RdB w bx Fx gx m s) (hb : bx ≤ w.heap.size) : RX w bx Fx gx m [] s w := ⟨⟨Fx, h, fun _ hb => .inl hb, fun _ hb => by cases hb⟩, Chg.refl _ _, hb⟩
theorem RX.call (h : RX w bx Fx gx m H s W) {fn : FuncId} {args : Array Value} {v : Value} (hc : ∀ F, RdB W bx F gx m s → (∀ b ∈ H, b ∉ F) → Calls Try.prog fn args W (RdPost W bx F gx m' s' v)) :
    Calls Try.prog fn args W fun e W' => e = .returned v ∧ RX w bx Fx gx m' H s' W' ∧ HeldW H W W' := by
  obtain ⟨⟨F, hr, hf, hh⟩, hcg, hb⟩ := h
  refine (hc F hr (fun b hm => (hh b hm).2)).mono ?_
  rintro e W' ⟨he, F', hr', hc, hm⟩
  refine ⟨he, ⟨⟨F', hr', fun b hb' => ?_, fun b hb' => ⟨Nat.lt_of_lt_of_le (hh b hb').1 hc.size, fun hb2 => ?_⟩⟩, hcg.trans hc (fun b hb' => hf b hb'), hb⟩, F, hc, fun b hb' => (hh b hb').2⟩
  · rcases hm b hb' with h1 | h1
    · exact hf b h1
    · right; have := hcg.size; omega
  · rcases hm b hb2 with h1 | h1
    · exact (hh b hb').2 h1
    · have := (hh b hb').1; omega
theorem RX.keep (h : RX w bx Fx gx m H s W) (hB : Below W.heap.size W W') : RX w bx Fx gx m H s W' := by
  obtain ⟨⟨F, hr, hf, hh⟩, hcg, hb⟩ := h
  exact ⟨⟨F, hr.keep hB, hf, fun b hm => ⟨Nat.lt_of_lt_of_le (hh b hm).1 hB.size, (hh b hm).2⟩⟩, hcg.trans (Chg.of_below (L := []) hB) (fun _ hm => by cases hm), hb⟩
theorem RX.less (h : RX w bx Fx gx m H s W) (hl : ∀ b ∈ H', b ∈ H) : RX w bx Fx gx m H' s W := by
  obtain ⟨⟨F, hr, hf, hh⟩, hcg, hb⟩ := h
  exact ⟨⟨F, hr, hf, fun b hm => hh b (hl b hm)⟩, hcg, hb⟩
theorem RX.more (h : RX w bx Fx gx m H s W) (hB : Below W.heap.size W W') (hl : ∀ b ∈ H', b ∈ H ∨ (W.heap.size ≤ b ∧ b < W'.heap.size)) : RX w bx Fx gx m H' s W' := by
  obtain ⟨⟨F, hr, hf, hh⟩, hcg, hb⟩ := h
  refine ⟨⟨F, hr.keep hB, hf, fun b hm => ?_⟩, hcg.trans (Chg.of_below (L := []) hB) (fun _ hm => by cases hm), hb⟩
  rcases hl b hm with h1 | ⟨h1, h2⟩
  · exact ⟨Nat.lt_of_lt_of_le (hh b h1).1 hB.size, (hh b h1).2⟩
  · exact ⟨h2, fun hm' => by have := (hr.lt b hm').2; omega⟩
theorem RX.post (h : RX w bx Fx gx m H s W) (hm : m ≤ m') (v : Value) : RdPost w bx Fx gx m' s v (.returned v) W := by
  obtain ⟨⟨F, hr, hf, -⟩, hcg, -⟩ := h
  exact ⟨rfl, F, hr.up hm, hcg, hf⟩
theorem RX.base (h : RX w bx Fx gx m H s W) : bx ≤ W.heap.size := Nat.le_trans h.bxb h.chg.size
theorem RX.n_ (h : RX w bx Fx gx m H s W) : ∃ F, RdB W bx F gx m s := by obtain ⟨⟨F, hr, -⟩, -⟩ := h; exact ⟨F, hr⟩
end
section
variable (bx gx m : Nat) (Fx : List Nat) (s : DS) (w : World)
theorem writes_next {s : DS} {i : Int} {b : List UInt8} {l : List (List UInt8)} : writesS s i (b :: l) = if writeE s i 64 = 0 then writesS (writeS s i b) (i + 1) l else (writeS s i b, writeE s i 64) := rfl
theorem write_loose (s : DS) (i : Int) (b : List UInt8) : (writeS s i b).loose.length ≤ s.loose.length + 1 := by
  unfold writeS
  repeat' split
  all_goals simp [burn, putS]
set_option maxHeartbeats 4000000 in
set_option maxRecDepth 20000 in
theorem rBlank_calls (a : AR) (h : RdB w bx Fx gx m s) (hn : 1 ≤ s.n) (hb : bx ≤ w.heap.size) (M : Nat) (hM : s.n + 1 ≤ M) (hm : m ≤ 100000) (hlo : s.loose.length ≤ 100000) : Calls Try.prog 16 #[.pointer (some ⟨gx, 0, none⟩), arv a] w (RdPost w bx Fx gx (m + M) (blankR s a).1 (.int .i64 ((blankR s a).2 : Int))) := by
  have hnb := h.ok.nb
  by_cases hC : checkE s.n a = 0
  · have hk := check_ok hC
    have HE := hid (show blankR s a = (if (writesS s a.a (List.replicate (a.b - a.a).toNat zeros64)).2 = 0 then (flushD (writesS s a.a (List.replicate (a.b - a.a).toNat zeros64)).1, flushE (writesS s a.a (List.replicate (a.b - a.a).toNat zeros64)).1) else writesS s a.a (List.replicate (a.b - a.a).toNat zeros64)) from if_pos hC)
    have HCK := hid (fun W (hW : Below w.heap.size w W) => rCheck_calls bx gx m Fx s W a (h.keep hW) hn)
    rw [hC] at HCK
    obtain ⟨x, y, z⟩ := a
    obtain ⟨k1, k2, k3, -, -⟩ := hk
    dsimp only at k1 k2 k3 HE
    obtain ⟨f, rfl⟩ : ∃ f : Nat, x = (f : Int) := ⟨x.toNat, by omega⟩
    obtain ⟨n, rfl⟩ : ∃ n : Nat, y = ((f + n : Nat) : Int) := ⟨(y - f).toNat, by omega⟩
    have hfn : f + n ≤ s.n := by omega
    have hfM : n + 1 ≤ M := by omega
    rw [show (((f + n : Nat) : Int) - (f : Int)).toNat = n by omega] at HE
    generalize hRe : writesS s (f : Int) (List.replicate n zeros64) = R at HE
    have HR := hid hRe
    have HX := hid (RX.start h hb)
    have HLO := hid hlo
    generalize blankR s ⟨(f : Int), ((f + n : Nat) : Int), z⟩ = RR at HE ⊢
    rw [show arv ⟨(f : Int), ((f + n : Nat) : Int), z⟩ = .agg #[.int .i64 (f : Int), .int .i64 ((f + n : Nat) : Int), .int .i64 z] from rfl] at HCK ⊢
    have hft : (f : Int) + (n : Int) ≤ 65536 := by omega
    have htt : ((f + n : Nat) : Int) = (f : Int) + (n : Int) := by omega
    rw [htt] at HCK ⊢
    have HTB := hid (Blk.new w 33 #[.int .i64 (f : Int), .int .i64 ((f : Int) + (n : Int)), .int .i64 z])
    have HB1 := hid (below_new w (.cells #[.int .i64 (f : Int), .int .i64 ((f : Int) + (n : Int)), .int .i64 z] 33))
    clear h hn hb hRe k1 k2 k3 hlo htt hC hfn
    go_enter Try.func16, Try.ntmps16
    go_wp2_with fail
    have HX1 := hid (HX.out.more (H' := [w.heap.size]) HB1.out (fun b hb => .inr (by rw [List.mem_singleton.1 hb]; exact ⟨Nat.le_refl _, HTB.out.lt⟩)))
    generalize w.alloc (.cells #[.int .i64 (f : Int), .int .i64 ((f : Int) + (n : Int)), .int .i64 z] 33) = w1 at HTB HB1 HX1 ⊢
    generalize w.heap.size = T at HTB HX1 ⊢
    refine (HCK.out w1 HB1.out).mono ?_
    rintro _ w2 ⟨rfl, hb2⟩
    have HX2 := hid (HX1.out.keep hb2); have HT2 := hid (HTB.out.keep hb2)
    clear hb2 HCK HX HX1 HTB HB1
    have c0 := HT2.out.cell 0 (show _ = some (Value.int .i64 (f : Int)) from rfl)
    go_wp2_with fail
    clear c0
    go_loopw [5, 6] (fun e i wr => ∃ (j : Nat) (s' : DS) (er : Nat), j ≤ n ∧ e = .int .i64 (er : Int) ∧ i = .int .i64 ((f : Int) + (j : Int)) ∧ Hid (RX w bx Fx gx (m + j) [T] s' wr) ∧ Hid (Blk wr T 33 #[.int .i64 (f : Int), .int .i64 ((f : Int) + (n : Int)), .int .i64 z]) ∧ Hid (s'.loose.length ≤ 100000 + j) ∧ Hid ((er = 0 → writesS s' ((f : Int) + (j : Int)) (List.replicate (n - j) zeros64) = R) ∧ (er ≠ 0 → R = (s', er)))) (fun _ i _ => ((f : Int) + (n : Int) - intOf i).toNat)
    case atStart => exact ⟨0, s, 0, Nat.zero_le _, rfl, by simp, HX2, HT2, hid (by have := HLO.out; omega), hid ⟨fun _ => by simpa using HR.out, fun h => absurd rfl h⟩⟩
    case round =>
      clear HX2 HT2 HR HLO
      obtain ⟨j, s', er, hj, rfl, rfl, HX, HT, HLO, HR⟩ := hrel
      have c1 := HT.out.cell 1 (show _ = some (Value.int .i64 ((f : Int) + (n : Int))) from rfl)
      by_cases her : er = 0
      · subst her
        have HRR := hid (HR.out.1 rfl)
        clear HR
        by_cases hlt : j < n
        · have q0 : (f : Int) + (j : Int) < (f : Int) + (n : Int) := by omega
          have HLO2 := hid (write_loose s' ((f : Int) + (j : Int)) zeros64)
          have HN := hid (show writesS s' ((f : Int) + (j : Int)) (List.replicate (n - j) zeros64) = if writeE s' ((f : Int) + (j : Int)) 64 = 0 then writesS (writeS s' ((f : Int) + (j : Int)) zeros64) ((f : Int) + (j : Int) + 1) (List.replicate (n - (j + 1)) zeros64) else (writeS s' ((f : Int) + (j : Int)) zeros64, writeE s' ((f : Int) + (j : Int)) 64) from by
            rw [show n - j = (n - (j + 1)) + 1 by omega, List.replicate_succ]; rfl)
          rw [HRR.out] at HN
          have HW := hid (fun W K (h : RX w bx Fx gx (m + j) [T, K] s' W) (hs : SB W W.heap.size (some ⟨K, 0, none⟩) 64 zeros64) => h.call (v := .int .i64 (writeE s' ((f : Int) + (j : Int)) 64 : Int)) (s' := writeS s' ((f : Int) + (j : Int)) zeros64) (m' := m + j + 1) (args := #[.pointer (some ⟨gx, 0, none⟩), .int .i64 ((f : Int) + (j : Int)), .slice (some ⟨K, 0, none⟩) 64 64]) (fun F hd hF => rWrite_calls bx gx (m + j) F s' W ((f : Int) + (j : Int)) _ 64 64 _ zeros64 (by omega) hd h.base (by have := HLO.out; omega) hs (fun b off e => by cases e; exact hF _ (by simp))))
          go_wp2_with (at_make; refine Held.go ?_)
          refine wpList_zeros_bytes _ rfl _ _ 34 rfl 5 Try.underlying34 info5' 64 64 rfl rfl rfl (by omega) ?_
          intro w3 ho hb
          have HX3 := hid (HX.out.more (H' := [T, wr.heap.size]) hb (fun b hb => by
            simp at hb
            rcases hb with rfl | rfl
            · exact .inl (by simp)
            · exact .inr (ho.block _ rfl)))
          have HT3 := hid (HT.out.keep hb)
          obtain ⟨A9, c9, e9, -, hs9, -⟩ := ho.sb
          cases e9
          have HS9 := hid (show SB w3 w3.heap.size (some ⟨wr.heap.size, 0, none⟩) 64 zeros64 from hs9)
          generalize wr.heap.size = K at HX3 HS9 ⊢
          clear ho hb hs9 HX HT c1
          go_wp2_with fail
          refine (HW.out w3 K HX3.out HS9.out).mono ?_
          rintro _ w4 ⟨rfl, hx, hh⟩
          have HX4 := hid (hx.less (H' := [T]) (fun b hb => by simp at hb; simp [hb]))
          have HT4 := hid (hh.blk HT3.out (by simp))
          have HLO4 := hid (show (writeS s' ((f : Int) + (j : Int)) zeros64).loose.length ≤ 100000 + (j + 1) from by have := HLO.out; have := HLO2.out; omega)
          have HR4 := hid (show (writeE s' ((f : Int) + (j : Int)) 64 = 0 → writesS (writeS s' ((f : Int) + (j : Int)) zeros64) ((f : Int) + ((j + 1 : Nat) : Int)) (List.replicate (n - (j + 1)) zeros64) = R) ∧ (writeE s' ((f : Int) + (j : Int)) 64 ≠ 0 → R = (writeS s' ((f : Int) + (j : Int)) zeros64, writeE s' ((f : Int) + (j : Int)) 64)) from by
            refine ⟨fun h0 => ?_, fun h0 => ?_⟩
            · have h1 := HN.out
              rw [if_pos h0] at h1
              rw [h1]; congr 1
            · have h1 := HN.out
              rw [if_neg h0] at h1
              exact h1)
          clear hx hh HX3 HT3 HS9 HW HN HLO HLO2 HRR
          generalize writeS s' ((f : Int) + (j : Int)) zeros64 = s2 at HX4 HLO4 HR4
          generalize writeE s' ((f : Int) + (j : Int)) 64 = e2 at HR4 ⊢
          go_wp2_with fail
          go_roundw
          case rel => exact ⟨j + 1, s2, e2, by omega, rfl, by first | rfl | (congr 1; omega), HX4, HT4, HLO4, HR4⟩
          case measure => simp [intOf]; omega
        · obtain rfl : j = n := by omega
          have q0 : ¬ (f : Int) + (j : Int) < (f : Int) + (j : Int) := by omega
          have HRE := hid (show R = (s', 0) from by
            have h1 := HRR.out
            rw [Nat.sub_self, List.replicate_zero] at h1
            exact h1.symm)
          have HRX := hid (show RR = (flushD s', flushE s') from by rw [HE.out, HRE.out]; rfl)
          have HFL := hid (fun W (h : RX w bx Fx gx (m + j) [T] s' W) => h.call (v := .int .i64 (flushE s' : Int)) (s' := flushD s') (m' := m + j + 1) (fun F hd hF => rFlush_calls bx gx (m + j) F s' W (by omega) hd (by have := HLO.out; omega)))
          go_wp2_with fail
          refine (HFL.out wr HX.out).mono ?_
          rintro _ w4 ⟨rfl, hx, hh⟩
          have HX4 := hid hx
          clear hx hh HFL HX HT
          go_wp2_with fail
          go_ret
          rw [HRX.out]
          exact HX4.out.post (by omega) _
      · have HRE := hid (HR.out.2 her)
        have HRX := hid (show RR = (s', er) from by rw [HE.out, HRE.out, if_neg her])
        have q1 : ((er : Int) == 0) = false := by simp; omega
        clear HR HRE
        by_cases hlt : j < n
        · have q0 : (f : Int) + (j : Int) < (f : Int) + (n : Int) := by omega
          go_wp2_with fail
          go_ret
          rw [HRX.out]
          exact HX.out.post (by omega) _
        · have q0 : ¬ (f : Int) + (j : Int) < (f : Int) + (n : Int) := by omega
          go_wp2_with fail
          go_ret
          rw [HRX.out]
          exact HX.out.post (by omega) _
  · have HCK := hid (fun W (hW : Below w.heap.size w W) => rCheck_calls bx gx m Fx s W a (h.keep hW) hn)
    have HE := hid (show blankR s a = (s, checkE s.n a) from if_neg hC)
    have HX := hid (RX.start h hb)
    obtain ⟨x, y, z⟩ := a
    rw [HE.out]
    rw [show arv ⟨x, y, z⟩ = .agg #[.int .i64 x, .int .i64 y, .int .i64 z] from rfl] at HCK ⊢
    have HTB := hid (Blk.new w 33 #[.int .i64 x, .int .i64 y, .int .i64 z])
    have HB1 := hid (below_new w (.cells #[.int .i64 x, .int .i64 y, .int .i64 z] 33))
    clear h hn hb HE
    generalize checkE s.n ⟨x, y, z⟩ = ce at HCK hC ⊢
    have q1 : ((ce : Int) == 0) = false := by simp; omega
    go_enter Try.func16, Try.ntmps16
    go_wp2_with fail
    have HX1 := hid (HX.out.keep HB1.out)
    generalize w.alloc (.cells #[.int .i64 x, .int .i64 y, .int .i64 z] 33) = w1 at HTB HB1 HX1 ⊢
    generalize w.heap.size = T at HTB ⊢
    refine (HCK.out w1 HB1.out).mono ?_
    rintro _ w2 ⟨rfl, hb2⟩
    have HX2 := hid (HX1.out.keep hb2); have HT2 := hid (HTB.out.keep hb2)
    clear hb2 HCK HX HX1 HTB HB1
    have c0 := HT2.out.cell 0 (show _ = some (Value.int .i64 x) from rfl)
    have c1 := HT2.out.cell 1 (show _ = some (Value.int .i64 y) from rfl)
    by_cases q0 : x < y
    · go_wp2_with fail
      go_loop [5, 6] (fun e i => e = .int .i64 (ce : Int) ∧ i = .int .i64 x) (fun _ _ => 0)
      case atStart => exact ⟨rfl, rfl⟩
      case round =>
        obtain ⟨rfl, rfl⟩ := hrel
        go_wp2_with fail
        go_ret
        exact HX2.out.post (by omega) _
    · go_wp2_with fail
      go_loop [5, 6] (fun e i => e = .int .i64 (ce : Int) ∧ i = .int .i64 x) (fun _ _ => 0)
      case atStart => exact ⟨rfl, rfl⟩
      case round =>
        obtain ⟨rfl, rfl⟩ := hrel
        go_wp2_with fail
        go_ret
        exact HX2.out.post (by omega) _
end
end Go.Proofs.Ytiejndkchcljdaa
/- Contracts: the sectors of a record, and Write, of the plain reference's log. -/
namespace Go.Proofs.Ytiejndkchcljdaa
open Go.RowKit

def secsR (gen at_ : Nat) (rec : List UInt8) (k : Nat) : List (List UInt8) := (List.range k).map (recSec gen at_ rec)
theorem secsR_len (gen at_ : Nat) (rec : List UInt8) (k : Nat) : (secsR gen at_ rec k).length = k := by simp [secsR]
theorem secsR_next (gen at_ : Nat) (rec : List UInt8) (k : Nat) : secsR gen at_ rec (k + 1) = secsR gen at_ rec k ++ [recSec gen at_ rec k] := by simp [secsR, List.range_succ]
theorem part_cut (rec : List UInt8) (i e : Nat) (he : e = min rec.length ((i + 1) * 49)) : (rec.take e).drop (i * 49) = partN rec i := by
  subst he
  unfold partN
  rw [List.drop_take]
  by_cases h : (i + 1) * 49 ≤ rec.length
  · rw [Nat.min_eq_right h, show (i + 1) * 49 - i * 49 = 49 by omega]
  · rw [Nat.min_eq_left (by omega), List.take_of_length_le (by rw [List.length_drop]; omega), List.take_of_length_le (by rw [List.length_drop]; omega)]
set_option maxHeartbeats 4000000 in
set_option maxRecDepth 20000 in
theorem rSectors_pos (gen idx n B c : Nat) (A : Option Addr) (rec : List UInt8) (w : World) (hs : SB w B A n rec) (hc : n ≤ c) (h0n : 0 < n) (hn : n ≤ 1048576) (hi : idx ≤ 1048576) :
    Calls Try.prog 54 #[.int .i64 (gen : Int), .int .i64 (idx : Int), .slice A n c] w fun e w' => ∃ v vs, e = .returned v ∧ Recs w' w.heap.size v (secsR gen idx rec (needN n)) vs ∧ Below w.heap.size w w' := by
  have HS := hid hs.fit
  have HL := hid hs.1
  have HND := hid (show (needE (n : Int) : Int) = (needN n : Int) from by unfold needE; rw [if_neg (by omega), Int.toNat_natCast])
  have HNP := hid (need_pos n)
  have HNU := hid (show needN n ≤ 21400 ∧ (needN n - 1) * 49 < n from by unfold needN; omega)
  clear hs
  go_enter Try.func54, Try.ntmps54
  go_wp2_with fail
  refine (rNeed_calls (n : Int) w).mono ?_
  rintro _ _ ⟨rfl, rfl⟩
  rw [HND.out]
  have HKN := hid (fun i => (show kindN i (needN n) = if needN n = 1 then 1 else if i = 0 then 2 else if i = needN n - 1 then 4 else 3 from rfl))
  have HRS := hid (fun i => (show recSec gen idx rec i = secL gen (idx + i) (kindN i (needN n)) (partN rec i) from by unfold recSec; rw [HL.out]))
  clear HND
  generalize hnd : needN n = nd at HNP HNU HKN HRS ⊢
  have HNDE := hid hnd
  clear hnd
  go_wp2_with fail
  go_loopw [8, 9] (fun v i wr => ∃ (j : Nat) (vs : List Value), j ≤ nd ∧ i = .int .i64 (j : Int) ∧ Hid (Recs wr w.heap.size v (secsR gen idx rec j) vs) ∧ Hid (Below w.heap.size w wr)) (fun _ i _ => nd - (intOf i).toNat)
  case atStart => exact ⟨0, [], Nat.zero_le _, rfl, hid (Recs.nil _ _), hid (Below.refl _ _)⟩
  case round =>
    obtain ⟨j, vs, hj, rfl, HR, HB⟩ := hrel
    by_cases hlt : j < nd
    · have hnp := HNP.out
      obtain ⟨hnu1, hnu2⟩ := HNU.out
      have q0 : (j : Int) < (nd : Int) := by omega
      have hj49 : j * 49 < n := by
        have : j * 49 ≤ (nd - 1) * 49 := Nat.mul_le_mul_right _ (by omega)
        omega
      by_cases h1 : nd = 1
      · have q1 : ((nd : Int) == 1) = true := by simp [h1]
        have H1 := hid h1
        clear h1
        by_cases hm : (j + 1) * 49 < n
        · obtain ⟨e, he⟩ : ∃ e, e = (j + 1) * 49 := ⟨_, rfl⟩
          have he1 : e ≤ n := by omega
          have he2 : j * 49 ≤ e := by omega
          have he3 : e - j * 49 ≤ 49 := by omega
          have hcut := part_cut rec j e (by rw [HL.out]; omega)
          have hpl : (partN rec j).length = e - j * 49 := by rw [← hcut, List.length_drop, List.length_take, HL.out]; omega
          have hcj : ¬ c = j * 49 := by omega
          obtain ⟨b0, off0, rfl, -, -⟩ := HS.out.2 h0n
          have HSP := hid (show SB wr wr.heap.size (some ⟨b0, off0 + j * 49, none⟩) (e - j * 49) (partN rec j) from by
            have h0 := ((HS.out.keepB HB.out).take e he1).drop (k := j * 49) (c := c) he2 (by omega)
            rw [hcut, if_neg hcj, Option.map_some, Addr.add_lit] at h0
            exact h0.more HB.out.size)
          have HSEC := hid (rSector_calls gen (idx + j) 1 (e - j * 49) _ (c - j * 49) _ (partN rec j) wr HSP.out he3 (by omega))
          have HRE := hid (show secL gen (idx + j) 1 (partN rec j) = recSec gen idx rec j from by rw [HRS.out, HKN.out, if_pos H1.out])
          have HSL := hid (show (recSec gen idx rec j).length = 64 from by rw [← HRE.out]; exact secL_length (by omega))
          rw [HRE.out, show (((1 : Nat) : Int)) = 1 from rfl, show ((idx + j : Nat) : Int) = (idx : Int) + (j : Int) by omega] at HSEC
          have hee : ((j : Int) + 1) * 49 = (e : Int) := by omega
          have hm1 : ¬ (n : Int) ≤ (e : Int) := by omega
          have hm2 : (e : Int) < (n : Int) := by omega
          clear he
          clear HSP HRE hcut hpl HS HKN HRS
          go_wp2_with fail
          refine HSEC.out.mono ?_
          rintro _ w2 ⟨v2, rfl, ho2, hb2⟩
          obtain ⟨q2, c2, rfl⟩ := Go.Joins.ownsRow_form ho2 (by omega)
          have hq2 := ho2.block q2 rfl
          have HR2 := hid (HR.out.keep hb2)
          have HO2 := hid (show Own w2 w.heap.size 5 (.slice (some ⟨q2, 0, none⟩) 64 c2) (recSec gen idx rec j).length (recSec gen idx rec j) from by rw [HSL.out]; exact ho2.lower HB.out.size)
          have HF2 := hid (show farOf u8 vs (Value.slice (some ⟨q2, 0, none⟩) 64 c2).ownBlock from far_new HR.out hq2.1)
          have HB2 := hid (HB.out.trans (hb2.mono HB.out.size))
          clear ho2 hb2 HSEC HR HB hq2
          go_wp2_with (at_builtin; refine Held.go ?_)
          have hbn := below_new w2 (.cells #[Value.slice (some ⟨q2, 0, none⟩) 64 c2] 34)
          have hone := cell_one_new w2 (Value.slice (some ⟨q2, 0, none⟩) 64 c2) 34
          generalize w2.alloc (.cells #[Value.slice (some ⟨q2, 0, none⟩) 64 c2] 34) = w7 at hbn hone ⊢
          have HO7 := hid (HO2.out.keep hbn); have HR7 := hid (HR2.out.keep hbn); have HB7 := hid (HB2.out.trans (hbn.mono HB2.out.size))
          obtain ⟨i0, hi0, hz0, hz1, hz2⟩ := info_parts info_row
          have hrl : (secsR gen idx rec j).length = j := secsR_len _ _ _ _
          have hrow := HR7.out.row
          rw [hrl] at hrow
          refine wpList_append_own_at w7 rfl _ _ 50 rfl w.heap.size 34 i0 _ 1 24 Try.underlying50 hi0 hz0 hz1 hz2 rfl (by omega) _ j vs rfl hrow ⟨w2.heap.size, 0, none⟩ 1 1 [Value.slice (some ⟨q2, 0, none⟩) 64 c2] rfl rfl hone (by simp [Value.oneCell']) (by simp [maxLen]; omega) (by omega) HB7.out.size ?_
          intro v8 w8 h8 hg8 _ hm8
          have HR8 := hid (show Recs w8 w.heap.size v8 (secsR gen idx rec (j + 1)) _ from by rw [secsR_next]; exact HR7.out.push HO7.out HF2.out (by rw [hrl]; exact h8) hg8 (hm8.imp id (fun h => ⟨_, h, Nat.le_refl _⟩)))
          have HB8 := hid (HB7.out.trans (below_of_grown hg8 HB7.out.size (fun b e => (HR7.out.lt b (.inl e)).1)))
          clear h8 hg8 hm8 HO7 HR7 HB7 hone hbn hi0 hz0 hz1 hz2 HO2 HR2 HB2 HF2 hrow hrl HSL
          go_wp2_with fail
          go_roundw
          case rel => exact ⟨j + 1, _, by omega, by go_num, HR8, HB8⟩
          case measure => simp [intOf]; omega
        · obtain ⟨e, he⟩ : ∃ e, e = n := ⟨_, rfl⟩
          have he1 : e ≤ n := by omega
          have he2 : j * 49 ≤ e := by omega
          have he3 : e - j * 49 ≤ 49 := by omega
          have hcut := part_cut rec j e (by rw [HL.out]; omega)
          have hpl : (partN rec j).length = e - j * 49 := by rw [← hcut, List.length_drop, List.length_take, HL.out]; omega
          have hcj : ¬ c = j * 49 := by omega
          obtain ⟨b0, off0, rfl, -, -⟩ := HS.out.2 h0n
          have HSP := hid (show SB wr wr.heap.size (some ⟨b0, off0 + j * 49, none⟩) (e - j * 49) (partN rec j) from by
            have h0 := ((HS.out.keepB HB.out).take e he1).drop (k := j * 49) (c := c) he2 (by omega)
            rw [hcut, if_neg hcj, Option.map_some, Addr.add_lit] at h0
            exact h0.more HB.out.size)
          have HSEC := hid (rSector_calls gen (idx + j) 1 (e - j * 49) _ (c - j * 49) _ (partN rec j) wr HSP.out he3 (by omega))
          have HRE := hid (show secL gen (idx + j) 1 (partN rec j) = recSec gen idx rec j from by rw [HRS.out, HKN.out, if_pos H1.out])
          have HSL := hid (show (recSec gen idx rec j).length = 64 from by rw [← HRE.out]; exact secL_length (by omega))
          rw [HRE.out, show (((1 : Nat) : Int)) = 1 from rfl, show ((idx + j : Nat) : Int) = (idx : Int) + (j : Int) by omega] at HSEC
          have hm1 : (n : Int) ≤ ((j : Int) + 1) * 49 := by omega
          have hm2 : ¬ ((j : Int) + 1) * 49 < (n : Int) := by omega
          subst he
          clear HSP HRE hcut hpl HS HKN HRS
          go_wp2_with fail
          refine HSEC.out.mono ?_
          rintro _ w2 ⟨v2, rfl, ho2, hb2⟩
          obtain ⟨q2, c2, rfl⟩ := Go.Joins.ownsRow_form ho2 (by omega)
          have hq2 := ho2.block q2 rfl
          have HR2 := hid (HR.out.keep hb2)
          have HO2 := hid (show Own w2 w.heap.size 5 (.slice (some ⟨q2, 0, none⟩) 64 c2) (recSec gen idx rec j).length (recSec gen idx rec j) from by rw [HSL.out]; exact ho2.lower HB.out.size)
          have HF2 := hid (show farOf u8 vs (Value.slice (some ⟨q2, 0, none⟩) 64 c2).ownBlock from far_new HR.out hq2.1)
          have HB2 := hid (HB.out.trans (hb2.mono HB.out.size))
          clear ho2 hb2 HSEC HR HB hq2
          go_wp2_with (at_builtin; refine Held.go ?_)
          have hbn := below_new w2 (.cells #[Value.slice (some ⟨q2, 0, none⟩) 64 c2] 34)
          have hone := cell_one_new w2 (Value.slice (some ⟨q2, 0, none⟩) 64 c2) 34
          generalize w2.alloc (.cells #[Value.slice (some ⟨q2, 0, none⟩) 64 c2] 34) = w7 at hbn hone ⊢
          have HO7 := hid (HO2.out.keep hbn); have HR7 := hid (HR2.out.keep hbn); have HB7 := hid (HB2.out.trans (hbn.mono HB2.out.size))
          obtain ⟨i0, hi0, hz0, hz1, hz2⟩ := info_parts info_row
          have hrl : (secsR gen idx rec j).length = j := secsR_len _ _ _ _
          have hrow := HR7.out.row
          rw [hrl] at hrow
          refine wpList_append_own_at w7 rfl _ _ 50 rfl w.heap.size 34 i0 _ 1 24 Try.underlying50 hi0 hz0 hz1 hz2 rfl (by omega) _ j vs rfl hrow ⟨w2.heap.size, 0, none⟩ 1 1 [Value.slice (some ⟨q2, 0, none⟩) 64 c2] rfl rfl hone (by simp [Value.oneCell']) (by simp [maxLen]; omega) (by omega) HB7.out.size ?_
          intro v8 w8 h8 hg8 _ hm8
          have HR8 := hid (show Recs w8 w.heap.size v8 (secsR gen idx rec (j + 1)) _ from by rw [secsR_next]; exact HR7.out.push HO7.out HF2.out (by rw [hrl]; exact h8) hg8 (hm8.imp id (fun h => ⟨_, h, Nat.le_refl _⟩)))
          have HB8 := hid (HB7.out.trans (below_of_grown hg8 HB7.out.size (fun b e => (HR7.out.lt b (.inl e)).1)))
          clear h8 hg8 hm8 HO7 HR7 HB7 hone hbn hi0 hz0 hz1 hz2 HO2 HR2 HB2 HF2 hrow hrl HSL
          go_wp2_with fail
          go_roundw
          case rel => exact ⟨j + 1, _, by omega, by go_num, HR8, HB8⟩
          case measure => simp [intOf]; omega
      have q1 : ((nd : Int) == 1) = false := by simp; omega
      have H1 := hid h1
      by_cases h2 : j = 0
      · have q2 : ((j : Int) == 0) = true := by simp [h2]
        have H2 := hid h2
        clear h1 h2
        by_cases hm : (j + 1) * 49 < n
        · obtain ⟨e, he⟩ : ∃ e, e = (j + 1) * 49 := ⟨_, rfl⟩
          have he1 : e ≤ n := by omega
          have he2 : j * 49 ≤ e := by omega
          have he3 : e - j * 49 ≤ 49 := by omega
          have hcut := part_cut rec j e (by rw [HL.out]; omega)
          have hpl : (partN rec j).length = e - j * 49 := by rw [← hcut, List.length_drop, List.length_take, HL.out]; omega
          have hcj : ¬ c = j * 49 := by omega
          obtain ⟨b0, off0, rfl, -, -⟩ := HS.out.2 h0n
          have HSP := hid (show SB wr wr.heap.size (some ⟨b0, off0 + j * 49, none⟩) (e - j * 49) (partN rec j) from by
            have h0 := ((HS.out.keepB HB.out).take e he1).drop (k := j * 49) (c := c) he2 (by omega)
            rw [hcut, if_neg hcj, Option.map_some, Addr.add_lit] at h0
            exact h0.more HB.out.size)
          have HSEC := hid (rSector_calls gen (idx + j) 2 (e - j * 49) _ (c - j * 49) _ (partN rec j) wr HSP.out he3 (by omega))
          have HRE := hid (show secL gen (idx + j) 2 (partN rec j) = recSec gen idx rec j from by rw [HRS.out, HKN.out, if_neg H1.out, if_pos H2.out])
          have HSL := hid (show (recSec gen idx rec j).length = 64 from by rw [← HRE.out]; exact secL_length (by omega))
          rw [HRE.out, show (((2 : Nat) : Int)) = 2 from rfl, show ((idx + j : Nat) : Int) = (idx : Int) + (j : Int) by omega] at HSEC
          have hee : ((j : Int) + 1) * 49 = (e : Int) := by omega
          have hm1 : ¬ (n : Int) ≤ (e : Int) := by omega
          have hm2 : (e : Int) < (n : Int) := by omega
          clear he
          clear HSP HRE hcut hpl HS HKN HRS
          go_wp2_with fail
          refine HSEC.out.mono ?_
          rintro _ w2 ⟨v2, rfl, ho2, hb2⟩
          obtain ⟨q2, c2, rfl⟩ := Go.Joins.ownsRow_form ho2 (by omega)
          have hq2 := ho2.block q2 rfl
          have HR2 := hid (HR.out.keep hb2)
          have HO2 := hid (show Own w2 w.heap.size 5 (.slice (some ⟨q2, 0, none⟩) 64 c2) (recSec gen idx rec j).length (recSec gen idx rec j) from by rw [HSL.out]; exact ho2.lower HB.out.size)
          have HF2 := hid (show farOf u8 vs (Value.slice (some ⟨q2, 0, none⟩) 64 c2).ownBlock from far_new HR.out hq2.1)
          have HB2 := hid (HB.out.trans (hb2.mono HB.out.size))
          clear ho2 hb2 HSEC HR HB hq2
          go_wp2_with (at_builtin; refine Held.go ?_)
          have hbn := below_new w2 (.cells #[Value.slice (some ⟨q2, 0, none⟩) 64 c2] 34)
          have hone := cell_one_new w2 (Value.slice (some ⟨q2, 0, none⟩) 64 c2) 34
          generalize w2.alloc (.cells #[Value.slice (some ⟨q2, 0, none⟩) 64 c2] 34) = w7 at hbn hone ⊢
          have HO7 := hid (HO2.out.keep hbn); have HR7 := hid (HR2.out.keep hbn); have HB7 := hid (HB2.out.trans (hbn.mono HB2.out.size))
          obtain ⟨i0, hi0, hz0, hz1, hz2⟩ := info_parts info_row
          have hrl : (secsR gen idx rec j).length = j := secsR_len _ _ _ _
          have hrow := HR7.out.row
          rw [hrl] at hrow
          refine wpList_append_own_at w7 rfl _ _ 50 rfl w.heap.size 34 i0 _ 1 24 Try.underlying50 hi0 hz0 hz1 hz2 rfl (by omega) _ j vs rfl hrow ⟨w2.heap.size, 0, none⟩ 1 1 [Value.slice (some ⟨q2, 0, none⟩) 64 c2] rfl rfl hone (by simp [Value.oneCell']) (by simp [maxLen]; omega) (by omega) HB7.out.size ?_
          intro v8 w8 h8 hg8 _ hm8
          have HR8 := hid (show Recs w8 w.heap.size v8 (secsR gen idx rec (j + 1)) _ from by rw [secsR_next]; exact HR7.out.push HO7.out HF2.out (by rw [hrl]; exact h8) hg8 (hm8.imp id (fun h => ⟨_, h, Nat.le_refl _⟩)))
          have HB8 := hid (HB7.out.trans (below_of_grown hg8 HB7.out.size (fun b e => (HR7.out.lt b (.inl e)).1)))
          clear h8 hg8 hm8 HO7 HR7 HB7 hone hbn hi0 hz0 hz1 hz2 HO2 HR2 HB2 HF2 hrow hrl HSL
          go_wp2_with fail
          go_roundw
          case rel => exact ⟨j + 1, _, by omega, by go_num, HR8, HB8⟩
          case measure => simp [intOf]; omega
        · obtain ⟨e, he⟩ : ∃ e, e = n := ⟨_, rfl⟩
          have he1 : e ≤ n := by omega
          have he2 : j * 49 ≤ e := by omega
          have he3 : e - j * 49 ≤ 49 := by omega
          have hcut := part_cut rec j e (by rw [HL.out]; omega)
          have hpl : (partN rec j).length = e - j * 49 := by rw [← hcut, List.length_drop, List.length_take, HL.out]; omega
          have hcj : ¬ c = j * 49 := by omega
          obtain ⟨b0, off0, rfl, -, -⟩ := HS.out.2 h0n
          have HSP := hid (show SB wr wr.heap.size (some ⟨b0, off0 + j * 49, none⟩) (e - j * 49) (partN rec j) from by
            have h0 := ((HS.out.keepB HB.out).take e he1).drop (k := j * 49) (c := c) he2 (by omega)
            rw [hcut, if_neg hcj, Option.map_some, Addr.add_lit] at h0
            exact h0.more HB.out.size)
          have HSEC := hid (rSector_calls gen (idx + j) 2 (e - j * 49) _ (c - j * 49) _ (partN rec j) wr HSP.out he3 (by omega))
          have HRE := hid (show secL gen (idx + j) 2 (partN rec j) = recSec gen idx rec j from by rw [HRS.out, HKN.out, if_neg H1.out, if_pos H2.out])
          have HSL := hid (show (recSec gen idx rec j).length = 64 from by rw [← HRE.out]; exact secL_length (by omega))
          rw [HRE.out, show (((2 : Nat) : Int)) = 2 from rfl, show ((idx + j : Nat) : Int) = (idx : Int) + (j : Int) by omega] at HSEC
          have hm1 : (n : Int) ≤ ((j : Int) + 1) * 49 := by omega
          have hm2 : ¬ ((j : Int) + 1) * 49 < (n : Int) := by omega
          subst he
          clear HSP HRE hcut hpl HS HKN HRS
          go_wp2_with fail
          refine HSEC.out.mono ?_
          rintro _ w2 ⟨v2, rfl, ho2, hb2⟩
          obtain ⟨q2, c2, rfl⟩ := Go.Joins.ownsRow_form ho2 (by omega)
          have hq2 := ho2.block q2 rfl
          have HR2 := hid (HR.out.keep hb2)
          have HO2 := hid (show Own w2 w.heap.size 5 (.slice (some ⟨q2, 0, none⟩) 64 c2) (recSec gen idx rec j).length (recSec gen idx rec j) from by rw [HSL.out]; exact ho2.lower HB.out.size)
          have HF2 := hid (show farOf u8 vs (Value.slice (some ⟨q2, 0, none⟩) 64 c2).ownBlock from far_new HR.out hq2.1)
          have HB2 := hid (HB.out.trans (hb2.mono HB.out.size))
          clear ho2 hb2 HSEC HR HB hq2
          go_wp2_with (at_builtin; refine Held.go ?_)
          have hbn := below_new w2 (.cells #[Value.slice (some ⟨q2, 0, none⟩) 64 c2] 34)
          have hone := cell_one_new w2 (Value.slice (some ⟨q2, 0, none⟩) 64 c2) 34
          generalize w2.alloc (.cells #[Value.slice (some ⟨q2, 0, none⟩) 64 c2] 34) = w7 at hbn hone ⊢
          have HO7 := hid (HO2.out.keep hbn); have HR7 := hid (HR2.out.keep hbn); have HB7 := hid (HB2.out.trans (hbn.mono HB2.out.size))
          obtain ⟨i0, hi0, hz0, hz1, hz2⟩ := info_parts info_row
          have hrl : (secsR gen idx rec j).length = j := secsR_len _ _ _ _
          have hrow := HR7.out.row
          rw [hrl] at hrow
          refine wpList_append_own_at w7 rfl _ _ 50 rfl w.heap.size 34 i0 _ 1 24 Try.underlying50 hi0 hz0 hz1 hz2 rfl (by omega) _ j vs rfl hrow ⟨w2.heap.size, 0, none⟩ 1 1 [Value.slice (some ⟨q2, 0, none⟩) 64 c2] rfl rfl hone (by simp [Value.oneCell']) (by simp [maxLen]; omega) (by omega) HB7.out.size ?_
          intro v8 w8 h8 hg8 _ hm8
          have HR8 := hid (show Recs w8 w.heap.size v8 (secsR gen idx rec (j + 1)) _ from by rw [secsR_next]; exact HR7.out.push HO7.out HF2.out (by rw [hrl]; exact h8) hg8 (hm8.imp id (fun h => ⟨_, h, Nat.le_refl _⟩)))
          have HB8 := hid (HB7.out.trans (below_of_grown hg8 HB7.out.size (fun b e => (HR7.out.lt b (.inl e)).1)))
          clear h8 hg8 hm8 HO7 HR7 HB7 hone hbn hi0 hz0 hz1 hz2 HO2 HR2 HB2 HF2 hrow hrl HSL
          go_wp2_with fail
          go_roundw
          case rel => exact ⟨j + 1, _, by omega, by go_num, HR8, HB8⟩
          case measure => simp [intOf]; omega
      have q2 : ((j : Int) == 0) = false := by simp; omega
      have H2 := hid h2
      by_cases h3 : j = nd - 1
      · have q3 : ((j : Int) == (nd : Int) - 1) = true := by simp; omega
        have H3 := hid h3
        clear h1 h2 h3
        by_cases hm : (j + 1) * 49 < n
        · obtain ⟨e, he⟩ : ∃ e, e = (j + 1) * 49 := ⟨_, rfl⟩
          have he1 : e ≤ n := by omega
          have he2 : j * 49 ≤ e := by omega
          have he3 : e - j * 49 ≤ 49 := by omega
          have hcut := part_cut rec j e (by rw [HL.out]; omega)
          have hpl : (partN rec j).length = e - j * 49 := by rw [← hcut, List.length_drop, List.length_take, HL.out]; omega
          have hcj : ¬ c = j * 49 := by omega
          obtain ⟨b0, off0, rfl, -, -⟩ := HS.out.2 h0n
          have HSP := hid (show SB wr wr.heap.size (some ⟨b0, off0 + j * 49, none⟩) (e - j * 49) (partN rec j) from by
            have h0 := ((HS.out.keepB HB.out).take e he1).drop (k := j * 49) (c := c) he2 (by omega)
            rw [hcut, if_neg hcj, Option.map_some, Addr.add_lit] at h0
            exact h0.more HB.out.size)
          have HSEC := hid (rSector_calls gen (idx + j) 4 (e - j * 49) _ (c - j * 49) _ (partN rec j) wr HSP.out he3 (by omega))
          have HRE := hid (show secL gen (idx + j) 4 (partN rec j) = recSec gen idx rec j from by rw [HRS.out, HKN.out, if_neg H1.out, if_neg H2.out, if_pos H3.out])
          have HSL := hid (show (recSec gen idx rec j).length = 64 from by rw [← HRE.out]; exact secL_length (by omega))
          rw [HRE.out, show (((4 : Nat) : Int)) = 4 from rfl, show ((idx + j : Nat) : Int) = (idx : Int) + (j : Int) by omega] at HSEC
          have hee : ((j : Int) + 1) * 49 = (e : Int) := by omega
          have hm1 : ¬ (n : Int) ≤ (e : Int) := by omega
          have hm2 : (e : Int) < (n : Int) := by omega
          clear he
          clear HSP HRE hcut hpl HS HKN HRS
          go_wp2_with fail
          refine HSEC.out.mono ?_
          rintro _ w2 ⟨v2, rfl, ho2, hb2⟩
          obtain ⟨q2, c2, rfl⟩ := Go.Joins.ownsRow_form ho2 (by omega)
          have hq2 := ho2.block q2 rfl
          have HR2 := hid (HR.out.keep hb2)
          have HO2 := hid (show Own w2 w.heap.size 5 (.slice (some ⟨q2, 0, none⟩) 64 c2) (recSec gen idx rec j).length (recSec gen idx rec j) from by rw [HSL.out]; exact ho2.lower HB.out.size)
          have HF2 := hid (show farOf u8 vs (Value.slice (some ⟨q2, 0, none⟩) 64 c2).ownBlock from far_new HR.out hq2.1)
          have HB2 := hid (HB.out.trans (hb2.mono HB.out.size))
          clear ho2 hb2 HSEC HR HB hq2
          go_wp2_with (at_builtin; refine Held.go ?_)
          have hbn := below_new w2 (.cells #[Value.slice (some ⟨q2, 0, none⟩) 64 c2] 34)
          have hone := cell_one_new w2 (Value.slice (some ⟨q2, 0, none⟩) 64 c2) 34
          generalize w2.alloc (.cells #[Value.slice (some ⟨q2, 0, none⟩) 64 c2] 34) = w7 at hbn hone ⊢
          have HO7 := hid (HO2.out.keep hbn); have HR7 := hid (HR2.out.keep hbn); have HB7 := hid (HB2.out.trans (hbn.mono HB2.out.size))
          obtain ⟨i0, hi0, hz0, hz1, hz2⟩ := info_parts info_row
          have hrl : (secsR gen idx rec j).length = j := secsR_len _ _ _ _
          have hrow := HR7.out.row
          rw [hrl] at hrow
          refine wpList_append_own_at w7 rfl _ _ 50 rfl w.heap.size 34 i0 _ 1 24 Try.underlying50 hi0 hz0 hz1 hz2 rfl (by omega) _ j vs rfl hrow ⟨w2.heap.size, 0, none⟩ 1 1 [Value.slice (some ⟨q2, 0, none⟩) 64 c2] rfl rfl hone (by simp [Value.oneCell']) (by simp [maxLen]; omega) (by omega) HB7.out.size ?_
          intro v8 w8 h8 hg8 _ hm8
          have HR8 := hid (show Recs w8 w.heap.size v8 (secsR gen idx rec (j + 1)) _ from by rw [secsR_next]; exact HR7.out.push HO7.out HF2.out (by rw [hrl]; exact h8) hg8 (hm8.imp id (fun h => ⟨_, h, Nat.le_refl _⟩)))
          have HB8 := hid (HB7.out.trans (below_of_grown hg8 HB7.out.size (fun b e => (HR7.out.lt b (.inl e)).1)))
          clear h8 hg8 hm8 HO7 HR7 HB7 hone hbn hi0 hz0 hz1 hz2 HO2 HR2 HB2 HF2 hrow hrl HSL
          go_wp2_with fail
          go_roundw
          case rel => exact ⟨j + 1, _, by omega, by go_num, HR8, HB8⟩
          case measure => simp [intOf]; omega
        · obtain ⟨e, he⟩ : ∃ e, e = n := ⟨_, rfl⟩
          have he1 : e ≤ n := by omega
          have he2 : j * 49 ≤ e := by omega
          have he3 : e - j * 49 ≤ 49 := by omega
          have hcut := part_cut rec j e (by rw [HL.out]; omega)
          have hpl : (partN rec j).length = e - j * 49 := by rw [← hcut, List.length_drop, List.length_take, HL.out]; omega
          have hcj : ¬ c = j * 49 := by omega
          obtain ⟨b0, off0, rfl, -, -⟩ := HS.out.2 h0n
          have HSP := hid (show SB wr wr.heap.size (some ⟨b0, off0 + j * 49, none⟩) (e - j * 49) (partN rec j) from by
            have h0 := ((HS.out.keepB HB.out).take e he1).drop (k := j * 49) (c := c) he2 (by omega)
            rw [hcut, if_neg hcj, Option.map_some, Addr.add_lit] at h0
            exact h0.more HB.out.size)
          have HSEC := hid (rSector_calls gen (idx + j) 4 (e - j * 49) _ (c - j * 49) _ (partN rec j) wr HSP.out he3 (by omega))
          have HRE := hid (show secL gen (idx + j) 4 (partN rec j) = recSec gen idx rec j from by rw [HRS.out, HKN.out, if_neg H1.out, if_neg H2.out, if_pos H3.out])
          have HSL := hid (show (recSec gen idx rec j).length = 64 from by rw [← HRE.out]; exact secL_length (by omega))
          rw [HRE.out, show (((4 : Nat) : Int)) = 4 from rfl, show ((idx + j : Nat) : Int) = (idx : Int) + (j : Int) by omega] at HSEC
          have hm1 : (n : Int) ≤ ((j : Int) + 1) * 49 := by omega
          have hm2 : ¬ ((j : Int) + 1) * 49 < (n : Int) := by omega
          subst he
          clear HSP HRE hcut hpl HS HKN HRS
          go_wp2_with fail
          refine HSEC.out.mono ?_
          rintro _ w2 ⟨v2, rfl, ho2, hb2⟩
          obtain ⟨q2, c2, rfl⟩ := Go.Joins.ownsRow_form ho2 (by omega)
          have hq2 := ho2.block q2 rfl
          have HR2 := hid (HR.out.keep hb2)
          have HO2 := hid (show Own w2 w.heap.size 5 (.slice (some ⟨q2, 0, none⟩) 64 c2) (recSec gen idx rec j).length (recSec gen idx rec j) from by rw [HSL.out]; exact ho2.lower HB.out.size)
          have HF2 := hid (show farOf u8 vs (Value.slice (some ⟨q2, 0, none⟩) 64 c2).ownBlock from far_new HR.out hq2.1)
          have HB2 := hid (HB.out.trans (hb2.mono HB.out.size))
          clear ho2 hb2 HSEC HR HB hq2
          go_wp2_with (at_builtin; refine Held.go ?_)
          have hbn := below_new w2 (.cells #[Value.slice (some ⟨q2, 0, none⟩) 64 c2] 34)
          have hone := cell_one_new w2 (Value.slice (some ⟨q2, 0, none⟩) 64 c2) 34
          generalize w2.alloc (.cells #[Value.slice (some ⟨q2, 0, none⟩) 64 c2] 34) = w7 at hbn hone ⊢
          have HO7 := hid (HO2.out.keep hbn); have HR7 := hid (HR2.out.keep hbn); have HB7 := hid (HB2.out.trans (hbn.mono HB2.out.size))
          obtain ⟨i0, hi0, hz0, hz1, hz2⟩ := info_parts info_row
          have hrl : (secsR gen idx rec j).length = j := secsR_len _ _ _ _
          have hrow := HR7.out.row
          rw [hrl] at hrow
          refine wpList_append_own_at w7 rfl _ _ 50 rfl w.heap.size 34 i0 _ 1 24 Try.underlying50 hi0 hz0 hz1 hz2 rfl (by omega) _ j vs rfl hrow ⟨w2.heap.size, 0, none⟩ 1 1 [Value.slice (some ⟨q2, 0, none⟩) 64 c2] rfl rfl hone (by simp [Value.oneCell']) (by simp [maxLen]; omega) (by omega) HB7.out.size ?_
          intro v8 w8 h8 hg8 _ hm8
          have HR8 := hid (show Recs w8 w.heap.size v8 (secsR gen idx rec (j + 1)) _ from by rw [secsR_next]; exact HR7.out.push HO7.out HF2.out (by rw [hrl]; exact h8) hg8 (hm8.imp id (fun h => ⟨_, h, Nat.le_refl _⟩)))
          have HB8 := hid (HB7.out.trans (below_of_grown hg8 HB7.out.size (fun b e => (HR7.out.lt b (.inl e)).1)))
          clear h8 hg8 hm8 HO7 HR7 HB7 hone hbn hi0 hz0 hz1 hz2 HO2 HR2 HB2 HF2 hrow hrl HSL
          go_wp2_with fail
          go_roundw
          case rel => exact ⟨j + 1, _, by omega, by go_num, HR8, HB8⟩
          case measure => simp [intOf]; omega
      have q3 : ((j : Int) == (nd : Int) - 1) = false := by simp; omega
      have H3 := hid h3
      clear h1 h2 h3
      by_cases hm : (j + 1) * 49 < n
      · obtain ⟨e, he⟩ : ∃ e, e = (j + 1) * 49 := ⟨_, rfl⟩
        have he1 : e ≤ n := by omega
        have he2 : j * 49 ≤ e := by omega
        have he3 : e - j * 49 ≤ 49 := by omega
        have hcut := part_cut rec j e (by rw [HL.out]; omega)
        have hpl : (partN rec j).length = e - j * 49 := by rw [← hcut, List.length_drop, List.length_take, HL.out]; omega
        have hcj : ¬ c = j * 49 := by omega
        obtain ⟨b0, off0, rfl, -, -⟩ := HS.out.2 h0n
        have HSP := hid (show SB wr wr.heap.size (some ⟨b0, off0 + j * 49, none⟩) (e - j * 49) (partN rec j) from by
          have h0 := ((HS.out.keepB HB.out).take e he1).drop (k := j * 49) (c := c) he2 (by omega)
          rw [hcut, if_neg hcj, Option.map_some, Addr.add_lit] at h0
          exact h0.more HB.out.size)
        have HSEC := hid (rSector_calls gen (idx + j) 3 (e - j * 49) _ (c - j * 49) _ (partN rec j) wr HSP.out he3 (by omega))
        have HRE := hid (show secL gen (idx + j) 3 (partN rec j) = recSec gen idx rec j from by rw [HRS.out, HKN.out, if_neg H1.out, if_neg H2.out, if_neg H3.out])
        have HSL := hid (show (recSec gen idx rec j).length = 64 from by rw [← HRE.out]; exact secL_length (by omega))
        rw [HRE.out, show (((3 : Nat) : Int)) = 3 from rfl, show ((idx + j : Nat) : Int) = (idx : Int) + (j : Int) by omega] at HSEC
        have hee : ((j : Int) + 1) * 49 = (e : Int) := by omega
        have hm1 : ¬ (n : Int) ≤ (e : Int) := by omega
        have hm2 : (e : Int) < (n : Int) := by omega
        clear he
        clear HSP HRE hcut hpl HS HKN HRS
        go_wp2_with fail
        refine HSEC.out.mono ?_
        rintro _ w2 ⟨v2, rfl, ho2, hb2⟩
        obtain ⟨q2, c2, rfl⟩ := Go.Joins.ownsRow_form ho2 (by omega)
        have hq2 := ho2.block q2 rfl
        have HR2 := hid (HR.out.keep hb2)
        have HO2 := hid (show Own w2 w.heap.size 5 (.slice (some ⟨q2, 0, none⟩) 64 c2) (recSec gen idx rec j).length (recSec gen idx rec j) from by rw [HSL.out]; exact ho2.lower HB.out.size)
        have HF2 := hid (show farOf u8 vs (Value.slice (some ⟨q2, 0, none⟩) 64 c2).ownBlock from far_new HR.out hq2.1)
        have HB2 := hid (HB.out.trans (hb2.mono HB.out.size))
        clear ho2 hb2 HSEC HR HB hq2
        go_wp2_with (at_builtin; refine Held.go ?_)
        have hbn := below_new w2 (.cells #[Value.slice (some ⟨q2, 0, none⟩) 64 c2] 34)
        have hone := cell_one_new w2 (Value.slice (some ⟨q2, 0, none⟩) 64 c2) 34
        generalize w2.alloc (.cells #[Value.slice (some ⟨q2, 0, none⟩) 64 c2] 34) = w7 at hbn hone ⊢
        have HO7 := hid (HO2.out.keep hbn); have HR7 := hid (HR2.out.keep hbn); have HB7 := hid (HB2.out.trans (hbn.mono HB2.out.size))
        obtain ⟨i0, hi0, hz0, hz1, hz2⟩ := info_parts info_row
        have hrl : (secsR gen idx rec j).length = j := secsR_len _ _ _ _
        have hrow := HR7.out.row
        rw [hrl] at hrow
        refine wpList_append_own_at w7 rfl _ _ 50 rfl w.heap.size 34 i0 _ 1 24 Try.underlying50 hi0 hz0 hz1 hz2 rfl (by omega) _ j vs rfl hrow ⟨w2.heap.size, 0, none⟩ 1 1 [Value.slice (some ⟨q2, 0, none⟩) 64 c2] rfl rfl hone (by simp [Value.oneCell']) (by simp [maxLen]; omega) (by omega) HB7.out.size ?_
        intro v8 w8 h8 hg8 _ hm8
        have HR8 := hid (show Recs w8 w.heap.size v8 (secsR gen idx rec (j + 1)) _ from by rw [secsR_next]; exact HR7.out.push HO7.out HF2.out (by rw [hrl]; exact h8) hg8 (hm8.imp id (fun h => ⟨_, h, Nat.le_refl _⟩)))
        have HB8 := hid (HB7.out.trans (below_of_grown hg8 HB7.out.size (fun b e => (HR7.out.lt b (.inl e)).1)))
        clear h8 hg8 hm8 HO7 HR7 HB7 hone hbn hi0 hz0 hz1 hz2 HO2 HR2 HB2 HF2 hrow hrl HSL
        go_wp2_with fail
        go_roundw
        case rel => exact ⟨j + 1, _, by omega, by go_num, HR8, HB8⟩
        case measure => simp [intOf]; omega
      · obtain ⟨e, he⟩ : ∃ e, e = n := ⟨_, rfl⟩
        have he1 : e ≤ n := by omega
        have he2 : j * 49 ≤ e := by omega
        have he3 : e - j * 49 ≤ 49 := by omega
        have hcut := part_cut rec j e (by rw [HL.out]; omega)
        have hpl : (partN rec j).length = e - j * 49 := by rw [← hcut, List.length_drop, List.length_take, HL.out]; omega
        have hcj : ¬ c = j * 49 := by omega
        obtain ⟨b0, off0, rfl, -, -⟩ := HS.out.2 h0n
        have HSP := hid (show SB wr wr.heap.size (some ⟨b0, off0 + j * 49, none⟩) (e - j * 49) (partN rec j) from by
          have h0 := ((HS.out.keepB HB.out).take e he1).drop (k := j * 49) (c := c) he2 (by omega)
          rw [hcut, if_neg hcj, Option.map_some, Addr.add_lit] at h0
          exact h0.more HB.out.size)
        have HSEC := hid (rSector_calls gen (idx + j) 3 (e - j * 49) _ (c - j * 49) _ (partN rec j) wr HSP.out he3 (by omega))
        have HRE := hid (show secL gen (idx + j) 3 (partN rec j) = recSec gen idx rec j from by rw [HRS.out, HKN.out, if_neg H1.out, if_neg H2.out, if_neg H3.out])
        have HSL := hid (show (recSec gen idx rec j).length = 64 from by rw [← HRE.out]; exact secL_length (by omega))
        rw [HRE.out, show (((3 : Nat) : Int)) = 3 from rfl, show ((idx + j : Nat) : Int) = (idx : Int) + (j : Int) by omega] at HSEC
        have hm1 : (n : Int) ≤ ((j : Int) + 1) * 49 := by omega
        have hm2 : ¬ ((j : Int) + 1) * 49 < (n : Int) := by omega
        subst he
        clear HSP HRE hcut hpl HS HKN HRS
        go_wp2_with fail
        refine HSEC.out.mono ?_
        rintro _ w2 ⟨v2, rfl, ho2, hb2⟩
        obtain ⟨q2, c2, rfl⟩ := Go.Joins.ownsRow_form ho2 (by omega)
        have hq2 := ho2.block q2 rfl
        have HR2 := hid (HR.out.keep hb2)
        have HO2 := hid (show Own w2 w.heap.size 5 (.slice (some ⟨q2, 0, none⟩) 64 c2) (recSec gen idx rec j).length (recSec gen idx rec j) from by rw [HSL.out]; exact ho2.lower HB.out.size)
        have HF2 := hid (show farOf u8 vs (Value.slice (some ⟨q2, 0, none⟩) 64 c2).ownBlock from far_new HR.out hq2.1)
        have HB2 := hid (HB.out.trans (hb2.mono HB.out.size))
        clear ho2 hb2 HSEC HR HB hq2
        go_wp2_with (at_builtin; refine Held.go ?_)
        have hbn := below_new w2 (.cells #[Value.slice (some ⟨q2, 0, none⟩) 64 c2] 34)
        have hone := cell_one_new w2 (Value.slice (some ⟨q2, 0, none⟩) 64 c2) 34
        generalize w2.alloc (.cells #[Value.slice (some ⟨q2, 0, none⟩) 64 c2] 34) = w7 at hbn hone ⊢
        have HO7 := hid (HO2.out.keep hbn); have HR7 := hid (HR2.out.keep hbn); have HB7 := hid (HB2.out.trans (hbn.mono HB2.out.size))
        obtain ⟨i0, hi0, hz0, hz1, hz2⟩ := info_parts info_row
        have hrl : (secsR gen idx rec j).length = j := secsR_len _ _ _ _
        have hrow := HR7.out.row
        rw [hrl] at hrow
        refine wpList_append_own_at w7 rfl _ _ 50 rfl w.heap.size 34 i0 _ 1 24 Try.underlying50 hi0 hz0 hz1 hz2 rfl (by omega) _ j vs rfl hrow ⟨w2.heap.size, 0, none⟩ 1 1 [Value.slice (some ⟨q2, 0, none⟩) 64 c2] rfl rfl hone (by simp [Value.oneCell']) (by simp [maxLen]; omega) (by omega) HB7.out.size ?_
        intro v8 w8 h8 hg8 _ hm8
        have HR8 := hid (show Recs w8 w.heap.size v8 (secsR gen idx rec (j + 1)) _ from by rw [secsR_next]; exact HR7.out.push HO7.out HF2.out (by rw [hrl]; exact h8) hg8 (hm8.imp id (fun h => ⟨_, h, Nat.le_refl _⟩)))
        have HB8 := hid (HB7.out.trans (below_of_grown hg8 HB7.out.size (fun b e => (HR7.out.lt b (.inl e)).1)))
        clear h8 hg8 hm8 HO7 HR7 HB7 hone hbn hi0 hz0 hz1 hz2 HO2 HR2 HB2 HF2 hrow hrl HSL
        go_wp2_with fail
        go_roundw
        case rel => exact ⟨j + 1, _, by omega, by go_num, HR8, HB8⟩
        case measure => simp [intOf]; omega
    · obtain rfl : j = nd := by omega
      have q0 : ¬ (j : Int) < (j : Int) := by omega
      go_wp2_with fail
      go_ret
      exact ⟨_, rfl, ⟨vs, by rw [HNDE.out]; exact HR.out⟩, HB.out⟩
set_option maxHeartbeats 2000000 in
set_option maxRecDepth 20000 in
theorem rSectors_zeroC (gen idx c : Nat) (A : Option Addr) (w : World) (hi : idx ≤ 1048576) (hc0 : ¬ c = 0) :
    Calls Try.prog 54 #[.int .i64 (gen : Int), .int .i64 (idx : Int), .slice A 0 c] w fun e w' => ∃ v vs, e = .returned v ∧ Recs w' w.heap.size v (secsR gen idx [] (needN 0)) vs ∧ Below w.heap.size w w' := by
  have HND := hid (show (needE ((0 : Nat) : Int) : Int) = 1 from rfl)
  have HSEC := hid (fun A2 c2 => rSector_calls gen idx 1 0 0 c2 A2 [] w (SB.nil _ _ _) (by omega) (by omega))
  have HRE := hid (show secL gen idx 1 [] = recSec gen idx [] 0 from rfl)
  have HSL := hid (show (recSec gen idx [] 0).length = 64 from by rw [← HRE.out]; exact secL_length (by simp))
  rw [HRE.out] at HSEC
  have HRN := hid (show secsR gen idx [] (needN 0) = [] ++ [recSec gen idx [] 0] from rfl)
  rw [HRN.out]
  clear HRN HRE
  generalize recSec gen idx [] 0 = rs at HSEC HSL ⊢
  go_enter Try.func54, Try.ntmps54
  go_wp2_with fail
  refine (rNeed_calls ((0 : Nat) : Int) w).mono ?_
  rintro _ _ ⟨rfl, rfl⟩
  rw [HND.out]
  clear HND
  go_wp2_with fail
  go_loopw [8, 9] (fun v i wr => (v = .slice none 0 0 ∧ i = .int .i64 0 ∧ Hid (wr = w)) ∨ (i = .int .i64 1 ∧ ∃ vs, Hid (Recs wr w.heap.size v ([] ++ [rs]) vs) ∧ Hid (Below w.heap.size w wr))) (fun _ i _ => 1 - (intOf i).toNat)
  case atStart => exact .inl ⟨rfl, rfl, rfl⟩
  case round =>
    rcases hrel with ⟨rfl, rfl, hw⟩ | ⟨rfl, vs, HR, HB⟩
    · obtain rfl : wr = w := hw
      go_wp2_with fail
      refine (HSEC.out _ _).mono ?_
      rintro _ w2 ⟨v2, rfl, ho2, hb2⟩
      obtain ⟨q2, c2, rfl⟩ := Go.Joins.ownsRow_form ho2 (by omega)
      have HO2 := hid (show Own w2 wr.heap.size 5 (.slice (some ⟨q2, 0, none⟩) 64 c2) rs.length rs from by rw [HSL.out]; exact ho2)
      have HB2 := hid hb2
      clear ho2 hb2 HSEC
      go_wp2_with (at_builtin; refine Held.go ?_)
      have hbn := below_new w2 (.cells #[Value.slice (some ⟨q2, 0, none⟩) 64 c2] 34)
      have hone := cell_one_new w2 (Value.slice (some ⟨q2, 0, none⟩) 64 c2) 34
      generalize w2.alloc (.cells #[Value.slice (some ⟨q2, 0, none⟩) 64 c2] 34) = w7 at hbn hone ⊢
      have HO7 := hid (HO2.out.keep hbn); have HB7 := hid (HB2.out.trans (hbn.mono HB2.out.size))
      obtain ⟨i0, hi0, hz0, hz1, hz2⟩ := info_parts info_row
      refine wpList_append_own_at w7 rfl _ _ 50 rfl wr.heap.size 34 i0 _ 1 24 Try.underlying50 hi0 hz0 hz1 hz2 rfl (by omega) _ 0 [] rfl (Recs.nil w7 wr.heap.size).row ⟨w2.heap.size, 0, none⟩ 1 1 [Value.slice (some ⟨q2, 0, none⟩) 64 c2] rfl rfl hone (by simp [Value.oneCell']) (by simp [maxLen]) (by omega) HB7.out.size ?_
      intro v8 w8 h8 hg8 _ hm8
      have HR8 := hid ((Recs.nil w7 wr.heap.size).push HO7.out (show farOf _ _ _ from fun b _ => ⟨fun e => (by cases e), fun u hu => (by cases hu)⟩) h8 hg8 (hm8.imp id (fun h => ⟨_, h, Nat.le_refl _⟩)))
      have HB8 := hid (HB7.out.trans (below_of_grown hg8 HB7.out.size (fun b e => by cases e)))
      clear h8 hg8 hm8 HO7 HB7 hone hbn hi0 hz0 hz1 hz2 HO2 HB2 HSL
      go_wp2_with fail
      go_roundw
      case rel => exact .inr ⟨by go_num, _, HR8, HB8⟩
      case measure => simp [intOf]
    · go_wp2_with fail
      go_ret
      exact ⟨_, vs, rfl, HR.out, HB.out⟩
set_option maxHeartbeats 2000000 in
set_option maxRecDepth 20000 in
theorem rSectors_zero0 (gen idx : Nat) (A : Option Addr) (w : World) (hi : idx ≤ 1048576) :
    Calls Try.prog 54 #[.int .i64 (gen : Int), .int .i64 (idx : Int), .slice A 0 0] w fun e w' => ∃ v vs, e = .returned v ∧ Recs w' w.heap.size v (secsR gen idx [] (needN 0)) vs ∧ Below w.heap.size w w' := by
  have HND := hid (show (needE ((0 : Nat) : Int) : Int) = 1 from rfl)
  have HSEC := hid (fun A2 c2 => rSector_calls gen idx 1 0 0 c2 A2 [] w (SB.nil _ _ _) (by omega) (by omega))
  have HRE := hid (show secL gen idx 1 [] = recSec gen idx [] 0 from rfl)
  have HSL := hid (show (recSec gen idx [] 0).length = 64 from by rw [← HRE.out]; exact secL_length (by simp))
  rw [HRE.out] at HSEC
  have HRN := hid (show secsR gen idx [] (needN 0) = [] ++ [recSec gen idx [] 0] from rfl)
  rw [HRN.out]
  clear HRN HRE
  generalize recSec gen idx [] 0 = rs at HSEC HSL ⊢
  go_enter Try.func54, Try.ntmps54
  go_wp2_with fail
  refine (rNeed_calls ((0 : Nat) : Int) w).mono ?_
  rintro _ _ ⟨rfl, rfl⟩
  rw [HND.out]
  clear HND
  go_wp2_with fail
  go_loopw [8, 9] (fun v i wr => (v = .slice none 0 0 ∧ i = .int .i64 0 ∧ Hid (wr = w)) ∨ (i = .int .i64 1 ∧ ∃ vs, Hid (Recs wr w.heap.size v ([] ++ [rs]) vs) ∧ Hid (Below w.heap.size w wr))) (fun _ i _ => 1 - (intOf i).toNat)
  case atStart => exact .inl ⟨rfl, rfl, rfl⟩
  case round =>
    rcases hrel with ⟨rfl, rfl, hw⟩ | ⟨rfl, vs, HR, HB⟩
    · obtain rfl : wr = w := hw
      go_wp2_with fail
      refine (HSEC.out _ _).mono ?_
      rintro _ w2 ⟨v2, rfl, ho2, hb2⟩
      obtain ⟨q2, c2, rfl⟩ := Go.Joins.ownsRow_form ho2 (by omega)
      have HO2 := hid (show Own w2 wr.heap.size 5 (.slice (some ⟨q2, 0, none⟩) 64 c2) rs.length rs from by rw [HSL.out]; exact ho2)
      have HB2 := hid hb2
      clear ho2 hb2 HSEC
      go_wp2_with (at_builtin; refine Held.go ?_)
      have hbn := below_new w2 (.cells #[Value.slice (some ⟨q2, 0, none⟩) 64 c2] 34)
      have hone := cell_one_new w2 (Value.slice (some ⟨q2, 0, none⟩) 64 c2) 34
      generalize w2.alloc (.cells #[Value.slice (some ⟨q2, 0, none⟩) 64 c2] 34) = w7 at hbn hone ⊢
      have HO7 := hid (HO2.out.keep hbn); have HB7 := hid (HB2.out.trans (hbn.mono HB2.out.size))
      obtain ⟨i0, hi0, hz0, hz1, hz2⟩ := info_parts info_row
      refine wpList_append_own_at w7 rfl _ _ 50 rfl wr.heap.size 34 i0 _ 1 24 Try.underlying50 hi0 hz0 hz1 hz2 rfl (by omega) _ 0 [] rfl (Recs.nil w7 wr.heap.size).row ⟨w2.heap.size, 0, none⟩ 1 1 [Value.slice (some ⟨q2, 0, none⟩) 64 c2] rfl rfl hone (by simp [Value.oneCell']) (by simp [maxLen]) (by omega) HB7.out.size ?_
      intro v8 w8 h8 hg8 _ hm8
      have HR8 := hid ((Recs.nil w7 wr.heap.size).push HO7.out (show farOf _ _ _ from fun b _ => ⟨fun e => (by cases e), fun u hu => (by cases hu)⟩) h8 hg8 (hm8.imp id (fun h => ⟨_, h, Nat.le_refl _⟩)))
      have HB8 := hid (HB7.out.trans (below_of_grown hg8 HB7.out.size (fun b e => by cases e)))
      clear h8 hg8 hm8 HO7 HB7 hone hbn hi0 hz0 hz1 hz2 HO2 HB2 HSL
      go_wp2_with fail
      go_roundw
      case rel => exact .inr ⟨by go_num, _, HR8, HB8⟩
      case measure => simp [intOf]
    · go_wp2_with fail
      go_ret
      exact ⟨_, vs, rfl, HR.out, HB.out⟩
theorem rSectors_zero (gen idx c : Nat) (A : Option Addr) (w : World) (hi : idx ≤ 1048576) :
    Calls Try.prog 54 #[.int .i64 (gen : Int), .int .i64 (idx : Int), .slice A 0 c] w fun e w' => ∃ v vs, e = .returned v ∧ Recs w' w.heap.size v (secsR gen idx [] (needN 0)) vs ∧ Below w.heap.size w w' := by
  by_cases hc0 : c = 0
  · subst hc0; exact rSectors_zero0 gen idx A w hi
  · exact rSectors_zeroC gen idx c A w hi hc0
theorem rSectors_calls (gen idx n B c : Nat) (A : Option Addr) (rec : List UInt8) (w : World) (hs : SB w B A n rec) (hc : n ≤ c) (hn : n ≤ 1048576) (hi : idx ≤ 1048576) :
    Calls Try.prog 54 #[.int .i64 (gen : Int), .int .i64 (idx : Int), .slice A n c] w fun e w' => ∃ v vs, e = .returned v ∧ Recs w' w.heap.size v (secsR gen idx rec (needN n)) vs ∧ Below w.heap.size w w' := by
  rcases Nat.eq_zero_or_pos n with rfl | h
  · obtain rfl : rec = [] := List.eq_nil_of_length_eq_zero hs.1
    exact rSectors_zero gen idx c A w hi
  · exact rSectors_pos gen idx n B c A rec w hs hc h hn hi
end Go.Proofs.Ytiejndkchcljdaa
