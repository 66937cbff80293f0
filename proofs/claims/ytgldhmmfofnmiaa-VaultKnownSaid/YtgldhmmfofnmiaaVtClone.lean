/- A vault as plain mathematics: superblocks, areas, and what its calls make of a device. Nothing here speaks of a program's text. -/
import Derived.Test.YtgldhmmfofnmiaaLgHas
import Derived.Test.YtgldhmmfofnmiaaLgSec
import Derived.Laws.BitsAllLaws
import Derived.Deep.RegionHeld3
import Derived.Lib.AppendZeros
namespace Go.Proofs.Ytgldhmmfofnmiaa
open Go.RowKit

def supBody (gen n : Nat) : List UInt8 := be4 gen ++ be4 n ++ [7] ++ List.replicate 19 0
/-- a superblock: half of its sector -/
def supL (gen n : Nat) : List UInt8 := be4 (Crc.sum (supBody gen n)).toNat ++ supBody gen n
/-- the sector of a superblock -/
def supS (gen n : Nat) : List UInt8 := supL gen n ++ supL gen n
theorem supBody_length (gen n : Nat) : (supBody gen n).length = 28 := rfl
theorem supL_length (gen n : Nat) : (supL gen n).length = 32 := rfl
theorem supS_length (gen n : Nat) : (supS gen n).length = 64 := rfl
/-- the number of four bytes -/
def num4 (l : List UInt8) : Nat := l.foldl (fun a b => a * 256 + b.toNat) 0
def genB (b : List UInt8) : Nat := num4 ((b.drop 4).take 4)
def rightB (n : Nat) (b : List UInt8) : Bool := decide (1 ≤ genB b) && (decide (genB b ≤ 2147483647) && b == supL (genB b) n)
/-- what a sector claims -/
def claimB (n : Nat) (s : List UInt8) : Nat × Bool := if s.take 32 = (s.drop 32).take 32 ∧ rightB n (s.take 32) = true then (genB (s.take 32), true) else (0, false)
def topC (c d : Nat × Bool) : Nat × Bool := if c.1 < d.1 then d else c
def countR (s : DS) : Nat × Nat :=
  if readE s 0 = 0 then
    if readE s 1 = 0 then
      if (topC (claimB s.n (readB s 0)) (claimB s.n (readB s 1))).2 = true then ((topC (claimB s.n (readB s 0)) (claimB s.n (readB s 1))).1, 0) else (0, 23)
    else (0, readE s 1)
  else (0, readE s 0)
def halfN (n : Nat) : Nat := (n - 2) / 2
def fromN (n gen : Nat) : Nat := 2 + gen % 2 * halfN n
/-- the area of a generation -/
def areaV (n gen : Nat) : AR := ⟨(fromN n gen : Int), ((fromN n gen + halfN n : Nat) : Int), (gen : Int)⟩
/-- steps, one behind the other, till an error comes -/
def chainR {σ : Type} : List (σ → σ × Nat) → σ → σ × Nat
  | [], s => (s, 0)
  | f :: l, s => if (f s).2 = 0 then chainR l (f s).1 else f s
def flushR (s : DS) : DS × Nat := (flushD s, flushE s)
def writeR (i : Int) (bs : List UInt8) (s : DS) : DS × Nat := (writeS s i bs, writeE s i bs.length)
def superR (gen : Nat) (s : DS) : DS × Nat := writeR ((gen % 2 : Nat) : Int) (supS gen s.n) s
def checkV (s : DS) : Nat := checkE s.n ⟨0, 8, 1⟩
def formatSteps (n : Nat) : List (DS → DS × Nat) := [writeR 0 zeros64, writeR 1 zeros64, flushR, fun s => blankR s (areaV n 1), superR 1, flushR]
/-- what Format leaves, and answers -/
def formatR (s : DS) : DS × Nat := if checkV s = 0 then chainR (formatSteps s.n) s else (s, checkV s)
/-- a vault -/
structure VS where
  gen : Nat
  recs : List (List UInt8)
  fin : Int
  broken : Bool
def needAll (l : List (List UInt8)) : Nat := (l.map fun r => needN r.length).sum
/-- why a vault cannot be moved -/
def movesE (n gen : Nat) (l : List (List UInt8)) : Nat :=
  if gen = 2147483647 then 10 else if (l.all fun r => decide (r.length ≤ 1048576)) = false then 4 else if halfN n < needAll l then 10 else 0
/-- one record is written; the state is a device, and where the next one begins -/
def putStep (a : AR) (rec : List UInt8) (p : DS × Int) : (DS × Int) × Nat := (((logWR p.1 a p.2 rec).1, (logWR p.1 a p.2 rec).2.1), (logWR p.1 a p.2 rec).2.2)
def onDev (f : DS → DS × Nat) (p : DS × Int) : (DS × Int) × Nat := (((f p.1).1, p.2), (f p.1).2)
def moveSteps (n gen : Nat) (l : List (List UInt8)) : List (DS × Int → (DS × Int) × Nat) :=
  onDev (fun s => blankR s (areaV n gen)) :: (l.map (putStep (areaV n gen)) ++ [onDev flushR, onDev (superR gen), onDev flushR])
/-- to move a vault to records -/
def moveR (s : DS) (v : VS) (l : List (List UInt8)) : DS × VS × Nat :=
  if movesE s.n v.gen l = 0 then
    (if (chainR (moveSteps s.n (v.gen + 1) l) (s, 0)).2 = 0 then ((chainR (moveSteps s.n (v.gen + 1) l) (s, 0)).1.1, ⟨v.gen + 1, l, (chainR (moveSteps s.n (v.gen + 1) l) (s, 0)).1.2, false⟩, 0)
    else ((chainR (moveSteps s.n (v.gen + 1) l) (s, 0)).1.1, { v with broken := true }, (chainR (moveSteps s.n (v.gen + 1) l) (s, 0)).2))
  else (s, v, movesE s.n v.gen l)
def replaceR (s : DS) (v : VS) (l : List (List UInt8)) : DS × VS × Nat := if v.broken = true then (s, v, 23) else moveR s v l
def freeV (n : Nat) (v : VS) : Int := (halfN n : Int) - v.fin
def appendSteps (a : AR) (rec : List UInt8) : List (DS × Int → (DS × Int) × Nat) := [putStep a rec, onDev flushR]
def appendR (s : DS) (v : VS) (rec : List UInt8) : DS × VS × Nat :=
  if v.broken = true then (s, v, 23) else if 1048576 < rec.length then (s, v, 4) else if freeV s.n v < (needN rec.length : Int) then (s, v, 10) else
    if (chainR (appendSteps (areaV s.n v.gen) rec) (s, v.fin)).2 = 0 then ((chainR (appendSteps (areaV s.n v.gen) rec) (s, v.fin)).1.1, { v with recs := v.recs ++ [rec], fin := (chainR (appendSteps (areaV s.n v.gen) rec) (s, v.fin)).1.2, broken := false }, 0)
    else ((chainR (appendSteps (areaV s.n v.gen) rec) (s, v.fin)).1.1, { v with broken := true }, (chainR (appendSteps (areaV s.n v.gen) rec) (s, v.fin)).2)
/-- what Open makes of a device: the device, its answer, and the vault where that is 0 -/
def openR (s : DS) : DS × VS × Nat :=
  if checkV s = 0 then
    if (countR s).2 = 0 then
      if scanE s (areaV s.n (countR s).1) = 0 then
        moveR s ⟨(countR s).1, [], 0, false⟩ (scanR s (areaV s.n (countR s).1)).1
      else (s, ⟨0, [], 0, false⟩, scanE s (areaV s.n (countR s).1))
    else (s, ⟨0, [], 0, false⟩, (countR s).2)
  else (s, ⟨0, [], 0, false⟩, checkV s)
end Go.Proofs.Ytgldhmmfofnmiaa
/- Contract: a new superblock of a vault. -/
namespace Go.Proofs.Ytgldhmmfofnmiaa
open Go.RowKit

theorem vnumber_calls (n : Nat) (hn : n < 4294967296) (w : World) : Calls Try.prog 85 #[.int .u32 (n : Int)] w fun e w' => e = .returned (.slice (some ⟨w.heap.size, 0, none⟩) 4 4) ∧ w' = w.alloc (.cells (bcs (be4 n)).toArray 5) := by
  have HE := hid (show (bcs (be4 n)).toArray = #[.int .u8 ((n : Int) / 16777216), .int .u8 ((n : Int) / 65536 % 256), .int .u8 ((n : Int) / 256 % 256), .int .u8 ((n : Int) % 256)] from by
    simp only [bcs, be4, List.map_cons, List.map_nil, ofNat_bv]
    have : (n : Int) / 16777216 % 256 = (n : Int) / 16777216 := by omega
    simp [this])
  rw [HE.out]
  have hn' : (n : Int) < 4294967296 := by omega
  clear HE
  go_enter Try.func85, Try.ntmps85
  go_wp2_with fail
  go_ret
  exact ⟨rfl, rfl⟩
theorem size_sup : (Try.prog.info? 107).map (·.size) = some 32 := by kernel_rfl
/-- what is in the superblock behind each step -/
def su0 : List Value := List.replicate 32 (.int .u8 0)
theorem zero_sup : (Try.prog.info? 107).map (·.zero) = some (some (.agg su0.toArray)) := by kernel_rfl
def su1 (gen : Nat) : List Value := splice su0 4 (bcs (be4 gen))
def su2 (gen n : Nat) : List Value := splice (su1 gen) 8 (bcs (be4 n))
def su3 (gen n : Nat) : List Value := (su2 gen n).set 12 (.int .u8 7)
theorem su_len1 (gen : Nat) : (su1 gen).length = 32 := by
  unfold su1
  rw [length_splice _ _ _ (by simp [su0, bcs, be4_length])]
  rfl
theorem su_len2 (gen n : Nat) : (su2 gen n).length = 32 := by
  unfold su2
  rw [length_splice _ _ _ (by simp [su_len1, bcs, be4_length]), su_len1]
theorem su3_eq (gen n : Nat) : su3 gen n = bcs (List.replicate 4 0 ++ supBody gen n) := by
  have e0 : su0 = List.replicate 4 (.int .u8 0) ++ (List.replicate 4 (.int .u8 0) ++ List.replicate 24 (.int .u8 0)) := rfl
  have e1 : su1 gen = (List.replicate 4 (.int .u8 0) ++ bcs (be4 gen)) ++ (List.replicate 4 (.int .u8 0) ++ List.replicate 20 (.int .u8 0)) := by
    unfold su1
    rw [e0, splice_mid _ _ _ _ 4 (by simp) (by simp [bcs, be4_length])]
    simp
  have e2 : su2 gen n = List.replicate 4 (.int .u8 0) ++ (bcs (be4 gen) ++ (bcs (be4 n) ++ List.replicate 20 (.int .u8 0))) := by
    unfold su2
    rw [e1, splice_mid _ _ _ _ 8 (by simp [bcs, be4_length]) (by simp [bcs, be4_length])]
    simp
  unfold su3
  rw [e2]
  simp only [bcs, be4, List.map_cons, List.map_nil]
  rfl
theorem su3_sum (gen n : Nat) : splice (su3 gen n) 0 (bcs (be4 (Crc.sum (supBody gen n)).toNat)) = bcs (supL gen n) := by
  rw [su3_eq, bcs_append]
  have := splice_mid [] (bcs (List.replicate 4 0)) (bcs (supBody gen n)) (bcs (be4 (Crc.sum (supBody gen n)).toNat)) 0 rfl (by simp [bcs, be4_length])
  rw [List.nil_append] at this
  rw [this, supL, bcs_append]
  rfl
attribute [local go_sem] steady
attribute [local irreducible] wpPhase
section
variable (gen n : Nat) (w : World)
set_option maxRecDepth 20000 in
set_option maxHeartbeats 4000000 in
theorem newSup_calls (hg : gen < 4294967296) (hi : n < 4294967296) :
    Calls Try.prog 70 #[.int .i64 (gen : Int), .int .i64 (n : Int)] w fun e w' => e = .returned (.agg (bcs (supL gen n)).toArray) ∧ Below w.heap.size w w' := by
  have HN1 := hid (fun W => vnumber_calls gen hg W)
  have HN2 := hid (fun W => vnumber_calls n hi W)
  have hg' : (gen : Int) < 4294967296 := by omega
  have hi' : (n : Int) < 4294967296 := by omega
  have W1 : IntKind.u32.wrap (gen : Int) = (gen : Int) := u32_keep hg
  have W2 : IntKind.u32.wrap (n : Int) = (n : Int) := u32_keep hi
  go_enter Try.func70, Try.ntmps70
  go_wp2_with (refine wpList_alloc_blk rfl 107 rfl _ zero_sup ?_)
  have hsz := size_new w (.cells (Value.agg su0.toArray).cells 107)
  have k8 : Blk ((w.alloc (.cells (Value.agg su0.toArray).cells 107)).alloc (.cells (Value.agg su0.toArray).cells 107)) w.heap.size 107 su0.toArray := (Blk.new w _ _).keep (below_new _ _)
  have k9 : Blk ((w.alloc (.cells (Value.agg su0.toArray).cells 107)).alloc (.cells (Value.agg su0.toArray).cells 107)) (w.alloc (.cells (Value.agg su0.toArray).cells 107)).heap.size 107 su0.toArray := Blk.new _ _ _
  have b2 : Below w.heap.size w ((w.alloc (.cells (Value.agg su0.toArray).cells 107)).alloc (.cells (Value.agg su0.toArray).cells 107)) := (below_new w _).trans ((below_new _ _).mono (by rw [hsz]; omega))
  rw [hsz] at k9 ⊢
  generalize (w.alloc (.cells (Value.agg su0.toArray).cells 107)).alloc (.cells (Value.agg su0.toArray).cells 107) = w2 at k8 k9 b2 ⊢
  have hg9 : w.heap.size + 1 < w2.heap.size := k9.lt
  have K8 := hid k8; have K9 := hid k9; have B2 := hid b2
  generalize hge : w.heap.size = g0 at K8 K9 B2 hg9 ⊢
  clear k8 k9 b2 hsz
  go_wp2_with fail
  refine wp_region_phaseT goCall 4 (fun k w' => w' = (if k = 0 then w2.drew else w2.drew.alloc (.cells (bcs (be4 gen)).toArray 5))) (fun _ => True) (fun _ _ _ => trivial) (by kernel_rfl) (by kernel_rfl) (by kernel_rfl) rfl ?_
  intro S _ at_ _
  simp only [List.take_succ_cons, List.take_zero]
  (refine phase_plain rfl (fun K hK => ?_); go_simp; refine hK _ ?_; clear hK K)
  (refine phase_plain rfl (fun K hK => ?_); go_simp; refine hK _ ?_; clear hK K)
  (refine phase_plain rfl (fun K hK => ?_); go_simp; refine hK _ ?_; clear hK K)
  refine phase_call rfl rfl 85 #[.int .u32 (gen : Int)] (fun w => by go_simp) (.slice (some ⟨w2.drew.heap.size, 0, none⟩) 4 4) (by rintro _ rfl; exact HN1.out _) ?_
  refine phase_nil ?_
  rintro _ rfl
  simp only [List.drop_succ_cons, List.drop_zero]
  have hk9 := K9.out
  have hb3 := (Below.refl (g0 + 1) w2).drew.alloc (by simp; omega) (.cells (bcs (be4 gen)).toArray 5)
  go_wp2_with (refine wpList_copy_splice rfl (.tmp 6) (.tmp 9) 38 38 rfl 5 Try.underlying38 info_u8 (some ⟨g0 + 1, 4, none⟩) (some ⟨w2.drew.heap.size, 0, none⟩) 28 28 4 4 rfl rfl (g0 + 1) 4 su0 107 (hk9.drew.alloc _) (bcs (be4 gen)) rfl (fun _ => ⟨rfl, _, rfl, new_cells _ _ _⟩) (by rw [len_be4]; decide) (bcs_oneCell _) (g0 + 1) w2 hb3 (Nat.le_refl _) ?_)
  clear hk9 hb3
  intro w3 HG3 hB3
  have K9 := hid (show Blk w3 (g0 + 1) 107 (su1 gen).toArray from HG3.out)
  have HB := hid hB3
  clear HG3 hB3
  have hsz3 : g0 + 1 < w3.heap.size := K9.out.lt
  go_wp2_with fail
  refine wp_region_phaseT goCall 4 (fun k w' => w' = (if k = 0 then w3.drew else w3.drew.alloc (.cells (bcs (be4 n)).toArray 5))) (fun _ => True) (fun _ _ _ => trivial) (by kernel_rfl) (by kernel_rfl) (by kernel_rfl) rfl ?_
  intro S _ at_ _
  simp only [List.take_succ_cons, List.take_zero]
  (refine phase_plain rfl (fun K hK => ?_); go_simp; refine hK _ ?_; clear hK K)
  (refine phase_plain rfl (fun K hK => ?_); go_simp; refine hK _ ?_; clear hK K)
  (refine phase_plain rfl (fun K hK => ?_); go_simp; refine hK _ ?_; clear hK K)
  refine phase_call rfl rfl 85 #[.int .u32 (n : Int)] (fun w => by go_simp) (.slice (some ⟨w3.drew.heap.size, 0, none⟩) 4 4) (by rintro _ rfl; exact HN2.out _) ?_
  refine phase_nil ?_
  rintro _ rfl
  simp only [List.drop_succ_cons, List.drop_zero]
  have hk9 := K9.out
  have hb3 := HB.out.drew.alloc (by simp; omega) (.cells (bcs (be4 n)).toArray 5)
  have hfit : 8 + (bcs (be4 n)).length ≤ (su1 gen).length := by rw [len_be4, su_len1]; decide
  go_wp2_with (refine wpList_copy_splice rfl (.tmp 11) (.tmp 14) 38 38 rfl 5 Try.underlying38 info_u8 (some ⟨g0 + 1, 8, none⟩) (some ⟨w3.drew.heap.size, 0, none⟩) 24 24 4 4 rfl rfl (g0 + 1) 8 (su1 gen) 107 (hk9.drew.alloc _) (bcs (be4 n)) rfl (fun _ => ⟨rfl, _, rfl, new_cells _ _ _⟩) hfit (bcs_oneCell _) (g0 + 1) w2 hb3 (Nat.le_refl _) ?_)
  clear hk9 hb3 hfit
  intro w4 HG4 hB4
  have K9 := hid (show Blk w4 (g0 + 1) 107 (su2 gen n).toArray from HG4.out)
  have HB := hid hB4
  clear HG4 hB4 hsz3
  have hsz4 : g0 + 1 < w4.heap.size := K9.out.lt
  obtain ⟨x12, hx12⟩ : ∃ x, (su2 gen n).toArray[12]? = some x := at_some (by rw [su_len2]; decide)
  have c12 := K9.out.cell 12 hx12
  have f12 := K9.out.frozen 12
  have k12 := K9.out.set_ 12 (.int .u8 7)
  rw [List.setIfInBounds_toArray] at k12
  have hB5 := HB.out.setCell (p := ⟨g0 + 1, 12, none⟩) (Nat.le_refl _) (.int .u8 7)
  have hk6 : Blk (w4.setCell ⟨g0 + 1, 12, none⟩ (.int .u8 7)) (g0 + 1) 107 (bcs (List.replicate 4 0 ++ supBody gen n)).toArray := by
    rw [← su3_eq]; exact k12
  have hbl : (supBody gen n).length = 28 := rfl
  have K6 := hid hk6; have HB7 := hid hB5
  clear k12 hB5 hk6 hx12 HB K9
  generalize hS : Crc.sum (supBody gen n) = S0
  have HSN := hid (fun W => vnumber_calls S0.toNat S0.isLt W)
  go_wp2_with fail
  generalize w4.setCell ⟨g0 + 1, 12, none⟩ (.int .u8 7) = w7 at K6 HB7 ⊢
  clear c12 f12
  have HSUM := hid (sum_calls _ 28 28 (some ⟨g0 + 1, 4, none⟩) (supBody gen n) w7.drew (sb_blk K6.out.drew 4 28 (supBody gen n) (by rw [List.drop_append_of_le_length (by simp), List.drop_of_length_le (by simp), List.nil_append]; exact List.take_of_length_le (by omega)) hbl) (by omega))
  rw [hS] at HSUM
  have HS0 := hid hS
  have hl6 : (bcs (List.replicate 4 0 ++ supBody gen n)).length = 32 := by rw [bcs_length, List.length_append, hbl]; simp
  have HE := hid (su3_sum gen n)
  rw [su3_eq gen n, hS] at HE
  have h64 : (supL gen n).length = 32 := rfl
  generalize bcs (List.replicate 4 0 ++ supBody gen n) = L6 at K6 HE hl6
  generalize hL7 : supL gen n = L7 at HE h64
  have HL7 := hid hL7
  clear hL7 hS hbl hg' hi' W1 W2
  refine wp_region_orders (by kernel_rfl) [[0, 1, 2, 3, 4], [1, 0, 2, 3, 4], [1, 2, 0, 3, 4], [1, 2, 3, 0, 4]] (by kernel_rfl) ?_
  refine List.forall_mem_cons.2 ⟨?_, List.forall_mem_cons.2 ⟨?_, List.forall_mem_cons.2 ⟨?_, List.forall_mem_cons.2 ⟨?_, by simp⟩⟩⟩⟩
  all_goals
    simp only [List.filterMap_cons, List.filterMap_nil, List.getElem?_cons_succ, List.getElem?_cons_zero]
    go_wp2_with fail
    refine HSUM.out.mono ?_
    rintro _ w8 ⟨rfl, hb8⟩
    have K8b := hid (K6.out.drew.keep hb8)
    have HB8 := hid (HB7.out.drew.trans (hb8.mono (Nat.le_of_lt K6.out.lt)))
    clear hb8
    go_wp2_with fail
    refine (HSN.out _).mono ?_
    rintro _ _ ⟨rfl, rfl⟩
    have hk := K8b.out
    have hb9 := HB8.out.alloc (Nat.le_of_lt K8b.out.lt) (.cells (bcs (be4 S0.toNat)).toArray 5)
    have hfit : 0 + (bcs (be4 S0.toNat)).length ≤ L6.length := by rw [len_be4, hl6]; decide
    rename_i K1 hK1
    dsimp only
    refine hK1 _ _ ?_
    clear hK1
    first
      | (refine wpList_copy_splice rfl (.tmp 17) (.tmp 20) 38 38 rfl 5 Try.underlying38 info_u8 (some ⟨g0 + 1, 0, none⟩) (some ⟨w8.heap.size, 0, none⟩) 4 32 4 4 rfl rfl (g0 + 1) 0 L6 107 (hk.alloc _) (bcs (be4 S0.toNat)) rfl (fun _ => ⟨rfl, _, rfl, new_cells _ _ _⟩) hfit (bcs_oneCell _) (g0 + 1) w2 hb9 (Nat.le_refl _) ?_)
      | (refine wpList_step (fun K2 hK2 => ?_); go_simp; refine hK2 _ _ ?_; clear hK2 K2; (refine wpList_copy_splice rfl (.tmp 17) (.tmp 20) 38 38 rfl 5 Try.underlying38 info_u8 (some ⟨g0 + 1, 0, none⟩) (some ⟨w8.heap.size, 0, none⟩) 4 32 4 4 rfl rfl (g0 + 1) 0 L6 107 (hk.alloc _) (bcs (be4 S0.toNat)) rfl (fun _ => ⟨rfl, _, rfl, new_cells _ _ _⟩) hfit (bcs_oneCell _) (g0 + 1) w2 hb9 (Nat.le_refl _) ?_))
    clear hk hb9 hfit
    intro w9 HG9 hB9
    rw [HE.out] at HG9
    have hk9 := hid (show Blk w9 (g0 + 1) 107 (bcs L7).toArray from HG9.out)
    have hk0 := hid (K8.out.keepB hB9 (Nat.lt_succ_self _))
    have hB := hid (B2.out.trans (hB9.mono (Nat.le_succ _)))
    clear HG9 hB9
    have hsz : (Try.prog.info? 107).map (·.size) = some (bcs L7).toArray.size := by rw [size_sup]; simp [bcs, h64]
    have hold : su0.toArray.size = (bcs L7).toArray.size := by simp [bcs, h64, su0]
    have h1c : (bcs L7).toArray.toList.all (·.oneCell') = true := by simp only [List.all_eq_true]; exact bcs_oneCell L7
    have Hsz := hid hsz; have Hold := hid hold; have H1c := hid h1c
    clear hsz hold h1c
    go_wp2_with (first
      | (refine wpList_load_blk rfl 107 _ rfl (g0 + 1) rfl 107 _ hk9.out 32 5 Try.underlying107 Hsz.out ?_)
      | (refine wpList_store_blk rfl 107 _ _ rfl g0 _ rfl rfl 107 _ hk0.out Hsz.out Hold.out H1c.out ?_))
    refine bodyPost_ret (v := .agg (bcs L7).toArray) (results_cell_row rfl _ _ g0 107 _ (0, 0) _ rfl (hk0.out.setRow _) Try.underlying107 rfl Hsz.out) rfl ⟨by rw [HL7.out], ?_⟩
    exact hB.out.trans (below_of_grown (grown_setRow w9 _ _) (Nat.le_of_lt hk0.out.lt) (fun g' e => by cases e; exact Nat.le_refl _))
end
end Go.Proofs.Ytgldhmmfofnmiaa
/- Contracts: what a superblock says, and what a sector claims. -/
namespace Go.Proofs.Ytgldhmmfofnmiaa
open Go.RowKit

theorem i64_or_nat (a b : Nat) (ha : a < 9223372036854775808) (hb : b < 9223372036854775808) : bits .or .i64 (a : Int) (b : Int) = ((a ||| b : Nat) : Int) := by
  have hx : a ||| b < 2 ^ 63 := Nat.or_lt_two_pow (by omega) (by omega)
  show IntKind.i64.wrap ((BitVec.ofInt 64 (a : Int) ||| BitVec.ofInt 64 (b : Int)).toNat : Int) = _
  rw [BitVec.toNat_or, ofInt_u64 a (by omega), ofInt_u64 b (by omega)]
  exact IntWalk.i64_in _ (by omega)
theorem shl8_or (x c : Nat) (hc : c < 256) : x * 256 ||| c = x * 256 + c := by
  have := Nat.shiftLeft_add_eq_or_of_lt (i := 8) (b := c) (by omega) x
  rw [Nat.shiftLeft_eq] at this
  exact this.symm
theorem num4_next (l : List UInt8) (k : Nat) (x : UInt8) (h : l[k]? = some x) : num4 (l.take (k + 1)) = num4 (l.take k) * 256 + x.toNat := by
  unfold num4
  rw [List.take_add_one, h, List.foldl_append]; rfl
theorem num4_from (l : List UInt8) (a : Nat) : l.foldl (fun a b => a * 256 + b.toNat) a < (a + 1) * 256 ^ l.length := by
  induction l generalizing a with
  | nil => simp
  | cons x l ih =>
    have hx := x.toNat_lt
    have h := ih (a * 256 + x.toNat)
    rw [List.foldl_cons, List.length_cons, Nat.pow_succ]
    have h2 : (a * 256 + x.toNat + 1) * 256 ^ l.length ≤ ((a + 1) * 256) * 256 ^ l.length := Nat.mul_le_mul_right _ (by omega)
    rw [Nat.mul_comm (256 ^ l.length) 256, ← Nat.mul_assoc]
    omega
theorem num4_lt (l : List UInt8) : num4 l < 256 ^ l.length := by
  have h := num4_from l 0
  unfold num4
  omega
theorem genB_lt (b : List UInt8) : genB b < 4294967296 := by
  have h := num4_lt ((b.drop 4).take 4)
  have hl : ((b.drop 4).take 4).length ≤ 4 := by simp; omega
  have h2 : 256 ^ ((b.drop 4).take 4).length ≤ 256 ^ 4 := Nat.pow_le_pow_right (by omega) hl
  unfold genB
  omega
set_option maxRecDepth 20000 in
set_option maxHeartbeats 1000000 in
theorem sgen_calls (b : List UInt8) (w : World) (hb : b.length = 32) : Calls Try.prog 74 #[.agg (bcs b).toArray] w fun e w' => e = .returned (.int .i64 (genB b : Int)) ∧ Below w.heap.size w w' := by
  have hkb := Blk.new w 107 (bcs b).toArray
  have HB := hid (below_new w (.cells (bcs b).toArray 107))
  have hsz : (bcs b).toArray.size = 32 := by simp [bcs, hb]
  have HSB := hid (sb_blk hkb 4 4 ((b.drop 4).take 4) rfl (by simp [hb]))
  have HG := hid (show genB b = num4 ((b.drop 4).take 4) from rfl)
  have hl : ((b.drop 4).take 4).length = 4 := by simp [hb]
  rw [HG.out]
  generalize (b.drop 4).take 4 = l at HSB hl ⊢
  clear HG
  have HL := hid hl
  go_enter Try.func74, Try.ntmps74
  go_wp2_with fail
  generalize w.alloc (.cells (bcs b).toArray 107) = w1 at HB HSB ⊢
  go_loop [3, 5, 8] (fun x _ i => ∃ k : Nat, k ≤ 4 ∧ i = .int .i64 (k : Int) ∧ x = .int .i64 (num4 (l.take k) : Int)) (fun _ _ i => 4 - (intOf i).toNat)
  case atStart => exact ⟨0, by omega, rfl, rfl⟩
  case round =>
    obtain ⟨k, hk, rfl, rfl⟩ := hrel
    by_cases hlt : k < 4
    · have q9 : (k : Int) < 4 := by omega
      obtain ⟨bb, off, x, e, -, hx, hc⟩ := HSB.out.at_ hlt
      cases e
      have HS := hid (num4_next l k x hx)
      have hv := num4_lt (l.take k)
      have hv2 : num4 (l.take k) < 16777216 := by
        rw [List.length_take, HL.out, Nat.min_eq_left (by omega)] at hv
        have : 256 ^ k ≤ 256 ^ 3 := Nat.pow_le_pow_right (by omega) (by omega)
        omega
      have hyl := x.toNat_lt
      clear hv hx
      generalize num4 (l.take k) = V at HS hv2 ⊢
      generalize x.toNat = y at HS hc hyl ⊢
      have HO := hid (show bits .or .i64 ((V : Int) * 256) (y : Int) = ((V * 256 + y : Nat) : Int) from by
        have := i64_or_nat (V * 256) y (by omega) (by omega)
        rw [shl8_or V y (by omega), Int.natCast_mul] at this
        exact this)
      go_wp2_with fail
      go_round
      case rel => exact ⟨k + 1, by omega, by go_num, val_int (by rw [HO.out, HS.out])⟩
      case measure => simp [intOf]; omega
    · obtain rfl : k = 4 := by omega
      have HE := hid (show l.take 4 = l from List.take_of_length_le (by have := HL.out; omega))
      go_wp2_with fail
      go_ret
      exact ⟨by rw [HE.out]; rfl, HB.out⟩
theorem run_eq_sup (y z : List UInt8) (hy : y.length = 32) (hz : z.length = 32) (W : World) : (Op.equalIn 10000 107 (.agg (bcs y).toArray) (.agg (bcs z).toArray)).run Try.prog W = .ok (y == z) W :=
  run_equal_arr (P := Try.prog) 107 5 32 Try.underlying107 Try.underlying5 (by kernel_rfl) y z hy hz W
attribute [local irreducible] wpQuiet
set_option maxRecDepth 20000 in
set_option maxHeartbeats 2000000 in
theorem right_calls (b : List UInt8) (n : Nat) (w : World) (hb : b.length = 32) (hn : n < 4294967296) : Calls Try.prog 73 #[.agg (bcs b).toArray, .int .i64 (n : Int)] w fun e w' => e = .returned (.bool (rightB n b)) ∧ Below w.heap.size w w' := by
  have hkb := Blk.new w 107 (bcs b).toArray
  have HB := hid (below_new w (.cells (bcs b).toArray 107))
  have hsz : (Try.prog.info? 107).map (·.size) = some (bcs b).toArray.size := by rw [size_sup]; simp [bcs, hb]
  have HZ := hid hsz
  have HGE := hid (fun W => sgen_calls b W hb)
  have HR := hid (show rightB n b = (decide (1 ≤ genB b) && (decide (genB b ≤ 2147483647) && b == supL (genB b) n)) from rfl)
  have hg := genB_lt b
  have HNS := hid (fun W => newSup_calls (genB b) n W hg hn)
  have HQ := hid (run_eq_sup b (supL (genB b) n) hb rfl)
  clear hsz
  generalize rightB n b = R at HR ⊢
  generalize supL (genB b) n = L at HNS HQ HR
  generalize genB b = G at HGE HNS hg HR
  have hzs := HZ.out
  go_enter Try.func73, Try.ntmps73
  go_wp2_with (refine wpList_load_blk rfl 107 _ rfl w.heap.size rfl 107 _ hkb 32 5 Try.underlying107 hzs ?_)
  generalize w.alloc (.cells (bcs b).toArray 107) = w1 at HB hkb ⊢
  have HK := hid hkb
  clear hkb hzs
  refine (HGE.out _).mono ?_
  rintro _ w2 ⟨rfl, hb2⟩
  have HK2 := hid (HK.out.keep hb2); have HB2 := hid (HB.out.trans (hb2.mono HB.out.size))
  clear hb2 HK HB HGE
  go_wp2_with fail
  refine wp_region_class (fun w' => Blk w' w.heap.size 107 (bcs b).toArray ∧ Below w.heap.size w w') (by kernel_rfl) (by kernel_rfl) ⟨HK2.out.drew, HB2.out.drew⟩ ?_
  intro S _ at_ hS hin
  have HhS := hid hS; have Hin := hid hin
  clear hS hin
  by_cases h1 : 1 ≤ G
  · have h1' : (1 : Int) ≤ (G : Int) := by omega
    by_cases h2 : G ≤ 2147483647
    · have h2' : (G : Int) ≤ 2147483647 := by omega
      have HE := hid (show R = (b == L) from by rw [HR.out, decide_eq_true h1, decide_eq_true h2]; rfl)
      clear h1 h2
      (refine wpQuiet_step (fun K hK => ?_); go_simp; refine hK _ ?_; clear hK K)
      (refine wpQuiet_step (fun K hK => ?_); go_simp; refine hK _ ?_; clear hK K)
      (refine wpQuiet_step (fun K hK => ?_); go_simp; refine hK _ ?_; clear hK K)
      (refine wpQuiet_step (fun K hK => ?_); go_simp; refine hK _ ?_; clear hK K)
      (refine wpQuiet_step (fun K hK => ?_); go_simp; refine hK _ ?_; clear hK K)
      (refine wpQuiet_step (fun K hK => ?_); go_simp; refine hK _ ?_; clear hK K)
      (refine wpQuiet_step (fun K hK => ?_); go_simp; refine hK _ ?_; clear hK K)
      (refine wpQuiet_step (fun K hK => ?_); (refine quiet_loadK rfl _ _ rfl w.heap.size rfl _ _ (fun z => (HhS.out z).1) 32 5 Try.underlying107 HZ.out ?_); go_simp; refine hK _ ?_; clear hK K)
      (refine wpQuiet_step (fun K hK => ?_); go_simp; refine hK _ ?_; clear hK K)
      (refine wpQuiet_step (fun K hK => ?_); go_simp; refine hK _ ?_; clear hK K)
      (refine wpQuiet_step (fun K hK => ?_); (refine quiet_callK rfl 70 #[.int .i64 (G : Int), .int .i64 (n : Int)] (fun w => by go_simp) (.agg (bcs L).toArray) (fun z => (HNS.out _).mono fun e w' ⟨he, hw⟩ => ⟨he, Hin.out w' ⟨(HhS.out z).1.keep hw, (HhS.out z).2.trans (hw.mono (HhS.out z).2.size)⟩⟩) ?_); go_simp; refine hK _ ?_; clear hK K)
      have hq := HQ.out
      (refine wpQuiet_step (fun K hK => ?_); go_simp; refine hK _ ?_; clear hK K)
      clear hq
      (refine wpQuiet_step (fun K hK => ?_); go_simp; refine hK _ ?_; clear hK K)
      (refine wpQuiet_step (fun K hK => ?_); go_simp; refine hK _ ?_; clear hK K)
      refine wpQuiet_nil ?_
      rintro w' ⟨-, hB⟩
      have HB := hid hB
      clear hB
      go_wp2_with fail
      go_ret
      exact ⟨by rw [HE.out]; rfl, HB.out⟩
    · have h2' : ¬ (G : Int) ≤ 2147483647 := by omega
      have HE := hid (show R = false from by rw [HR.out, decide_eq_false h2]; simp)
      clear h1 h2
      (refine wpQuiet_step (fun K hK => ?_); go_simp; refine hK _ ?_; clear hK K)
      (refine wpQuiet_step (fun K hK => ?_); go_simp; refine hK _ ?_; clear hK K)
      (refine wpQuiet_step (fun K hK => ?_); go_simp; refine hK _ ?_; clear hK K)
      (refine wpQuiet_step (fun K hK => ?_); go_simp; refine hK _ ?_; clear hK K)
      (refine wpQuiet_step (fun K hK => ?_); go_simp; refine hK _ ?_; clear hK K)
      (refine wpQuiet_step (fun K hK => ?_); go_simp; refine hK _ ?_; clear hK K)
      (refine wpQuiet_step (fun K hK => ?_); go_simp; refine hK _ ?_; clear hK K)
      (refine wpQuiet_step (fun K hK => ?_); go_simp; refine hK _ ?_; clear hK K)
      (refine wpQuiet_step (fun K hK => ?_); go_simp; refine hK _ ?_; clear hK K)
      (refine wpQuiet_step (fun K hK => ?_); go_simp; refine hK _ ?_; clear hK K)
      (refine wpQuiet_step (fun K hK => ?_); go_simp; refine hK _ ?_; clear hK K)
      (refine wpQuiet_step (fun K hK => ?_); go_simp; refine hK _ ?_; clear hK K)
      (refine wpQuiet_step (fun K hK => ?_); go_simp; refine hK _ ?_; clear hK K)
      (refine wpQuiet_step (fun K hK => ?_); go_simp; refine hK _ ?_; clear hK K)
      refine wpQuiet_nil ?_
      rintro w' ⟨-, hB⟩
      have HB := hid hB
      clear hB
      go_wp2_with fail
      go_ret
      exact ⟨by rw [HE.out]; rfl, HB.out⟩
  · have h1' : ¬ (1 : Int) ≤ (G : Int) := by omega
    have HE := hid (show R = false from by rw [HR.out, decide_eq_false h1]; simp)
    clear h1
    (refine wpQuiet_step (fun K hK => ?_); go_simp; refine hK _ ?_; clear hK K)
    (refine wpQuiet_step (fun K hK => ?_); go_simp; refine hK _ ?_; clear hK K)
    (refine wpQuiet_step (fun K hK => ?_); go_simp; refine hK _ ?_; clear hK K)
    (refine wpQuiet_step (fun K hK => ?_); go_simp; refine hK _ ?_; clear hK K)
    (refine wpQuiet_step (fun K hK => ?_); go_simp; refine hK _ ?_; clear hK K)
    (refine wpQuiet_step (fun K hK => ?_); go_simp; refine hK _ ?_; clear hK K)
    (refine wpQuiet_step (fun K hK => ?_); go_simp; refine hK _ ?_; clear hK K)
    (refine wpQuiet_step (fun K hK => ?_); go_simp; refine hK _ ?_; clear hK K)
    (refine wpQuiet_step (fun K hK => ?_); go_simp; refine hK _ ?_; clear hK K)
    (refine wpQuiet_step (fun K hK => ?_); go_simp; refine hK _ ?_; clear hK K)
    (refine wpQuiet_step (fun K hK => ?_); go_simp; refine hK _ ?_; clear hK K)
    (refine wpQuiet_step (fun K hK => ?_); go_simp; refine hK _ ?_; clear hK K)
    (refine wpQuiet_step (fun K hK => ?_); go_simp; refine hK _ ?_; clear hK K)
    (refine wpQuiet_step (fun K hK => ?_); go_simp; refine hK _ ?_; clear hK K)
    refine wpQuiet_nil ?_
    rintro w' ⟨-, hB⟩
    have HB := hid hB
    clear hB
    go_wp2_with fail
    go_ret
    exact ⟨by rw [HE.out]; rfl, HB.out⟩
end Go.Proofs.Ytgldhmmfofnmiaa
/- Contract: what a sector claims. -/
namespace Go.Proofs.Ytgldhmmfofnmiaa
open Go.RowKit

def clv (c : Nat × Bool) : Value := .agg #[.int .i64 (c.1 : Int), .bool c.2]
theorem info_claim : (Try.prog.info? 87).map (·.zero) = some (some (.agg #[.int .i64 0, .bool false])) := by kernel_rfl
theorem size_claim : (Try.prog.info? 87).map (·.size) = some 2 := by kernel_rfl
theorem under_claim : (match Try.prog.underlying 87 with | some (.struct _) => true | _ => false) = true := by kernel_rfl
theorem claim_struct : ∃ fs, Try.prog.underlying 87 = some (.struct fs) := by
  have h := under_claim
  split at h
  · rename_i fs he
    exact ⟨fs, he⟩
  · cases h
theorem threeNew (w : World) (c0 c1 c2 : Array Value) (t0 t1 t2 : TypeId) : ∃ W, W = ((w.alloc (.cells c0 t0)).alloc (.cells c1 t1)).alloc (.cells c2 t2) ∧ Blk W w.heap.size t0 c0 ∧ Blk W (w.heap.size + 1) t1 c1 ∧ Blk W (w.heap.size + 1 + 1) t2 c2 ∧ Below w.heap.size w W := by
  obtain ⟨W, e, k0, k1, hb⟩ := two_new w c0 c1 t0 t1
  have s : W.heap.size = w.heap.size + 2 := by rw [e]; simp
  have k2 := Blk.new W t2 c2
  have b2 := below_new W (.cells c2 t2)
  rw [s] at k2
  exact ⟨_, rfl, by rw [← e]; exact k0.keep b2, by rw [← e]; exact k1.keep b2, by rw [← e]; exact k2, by rw [← e]; exact hb.trans (b2.mono hb.size)⟩
theorem splice_all {α : Type} (Z X : List α) (h : Z.length = X.length) : splice Z 0 X = X := by
  have := splice_mid ([] : List α) Z [] X 0 rfl h.symm
  simpa using this
theorem step_copy_set {P : Program} {ops : Array Oper} {o : Oper} {a : Act} {w : World} {K : Act → World → Prop} {Q : Exit → Act → World → Prop} {E : Prop} (hw : Region.wanted o (yielded ops a.tmps) = true) (d s : Operand) (dT sT : TypeId)
    (ho : o.op = .call { callee := .builtin .copy, args := #[d, s], argTypes := #[dT, sT] }) (elem : TypeId) (hu : P.underlying dT = some (.slice elem)) (hsz : (P.info? elem).map (·.size) = some 1)
    (g off dLen dCap : Nat) (ad : Addr) (sLen sCap : Nat) (hd : a.eval d = .slice (some ⟨g, off, none⟩) dLen dCap) (hs : a.eval s = .slice (some ad) sLen sCap)
    (cur : List Value) (t : TypeId) (hg : Blk w g t cur.toArray) (cs : List Value) (hn : cs.length = Nat.min sLen dLen)
    (hsrc : ∀ j v, cs[j]? = some v → w.cell? (ad.add j) = some v) (hfit : off + cs.length ≤ cur.length) (h1 : ∀ v ∈ cs, v.oneCell' = true) (new : List Value) (hnew : splice cur off cs = new)
    (h : K (a.put o.dst (goInt cs.length)) (w.setRow g new.toArray)) :
    if Region.wanted o (yielded ops a.tmps) = true then Oper.wp P o a w K Q else E := by
  subst hnew
  rw [if_pos hw]
  have hrun := run_copy_row (P := P) w dT sT o.type elem g off dLen dCap ad sLen sCap cur.toArray t cs hu hsz hg hn hsrc (by simpa using hfit) h1
  unfold Oper.wp
  simp [execOp, ho, resolve, invoke, builtin, hd, hs, hrun, Result.andThen]
  have e : (cur.take off ++ (cs ++ cur.drop (off + cs.length))) = splice cur off cs := by simp [splice]
  first
    | exact h
    | (rw [← e] at h; simpa using h)
theorem row_apart {w : World} {g g' : Nat} {t : TypeId} {cs ac : Array Value} (h : Blk w g t cs) (hne : g' ≠ g) : Blk (w.setRow g' ac) g t cs := (grown_setRow w g' ac).block g h.lt (fun e => hne (by injection e with e; exact e.symm)) |>.trans h
theorem su0_len : su0.length = 32 := by simp [su0]
set_option maxRecDepth 20000 in
set_option maxHeartbeats 4000000 in
theorem claimOf_calls (b : List UInt8) (n B c : Nat) (A : Option Addr) (w : World) (hs : SB w B A 64 b) (hc : 64 ≤ c) (hn : n < 4294967296) :
    Calls Try.prog 51 #[.slice A 64 c, .int .i64 (n : Int)] w fun e w' => e = .returned (clv (claimB n b)) ∧ Below w.heap.size w w' := by
  have hbl := hs.1
  obtain ⟨ab, ao, rfl, hlt, hcell⟩ := hs.2 (by omega)
  have h1 : (b.take 32).length = 32 := by simp [hbl]
  have h2 : ((b.drop 32).take 32).length = 32 := by simp [hbl]
  have HC1 := hid (fun (j : Nat) v (hv : (bcs (b.take 32))[j]? = some v) => show w.cell? ⟨ab, ao + j, none⟩ = some v from by
    simp only [bcs, List.getElem?_map] at hv
    obtain ⟨x, hx, rfl⟩ := Option.map_eq_some_iff.1 hv
    rw [List.getElem?_take] at hx
    split at hx
    · exact hcell j x hx
    · cases hx)
  have HC2 := hid (fun (j : Nat) v (hv : (bcs ((b.drop 32).take 32))[j]? = some v) => show w.cell? ⟨ab, ao + 32 + j, none⟩ = some v from by
    simp only [bcs, List.getElem?_map] at hv
    obtain ⟨x, hx, rfl⟩ := Option.map_eq_some_iff.1 hv
    rw [List.getElem?_take] at hx
    split at hx
    · rw [List.getElem?_drop] at hx
      have := hcell (32 + j) x hx
      rw [← Nat.add_assoc] at this
      exact this
    · cases hx)
  have HD := hid (show claimB n b = if b.take 32 = (b.drop 32).take 32 ∧ rightB n (b.take 32) = true then (genB (b.take 32), true) else (0, false) from rfl)
  have HRC := hid (fun W => right_calls (b.take 32) n W h1 hn)
  have HGC := hid (fun W => sgen_calls (b.take 32) W h1)
  have hq := run_eq_sup (b.take 32) ((b.drop 32).take 32) h1 h2
  have HQ := hid hq
  clear hcell hs hq
  generalize claimB n b = R at HD ⊢
  generalize b.take 32 = y at HC1 HD HRC HGC HQ h1
  generalize (b.drop 32).take 32 = z at HC2 HD HQ h2
  have hlt' : ab < w.heap.size := lt_of_cell (HC1.out 0 _ (List.getElem?_eq_getElem (by rw [bcs_length]; omega)))
  have HY := hid (show bcs y = bcs y from rfl)
  go_enter Try.func51, Try.ntmps51
  go_wp2_with (first
    | (refine wpList_alloc_blk rfl 107 rfl _ zero_sup ?_)
    | (refine wpList_alloc_blk rfl 87 rfl _ info_claim ?_))
  obtain ⟨W, hW, k0, k1, k2, hB⟩ := threeNew w #[.int .i64 0, .bool false] su0.toArray su0.toArray 87 107 107
  rw [← hW]
  have K0 := hid k0; have K1 := hid k1; have K2 := hid k2; have HB := hid hB
  have hWs : w.heap.size + 1 + 1 < W.heap.size := k2.lt
  clear hW k0 k1 k2 hB
  generalize hge : w.heap.size = g0 at K0 K1 K2 HB hlt' hWs ⊢
  have HGE := hid hge
  clear hge
  have HC1 := hid (fun (j : Nat) v (hv : (bcs y)[j]? = some v) => (World.cell?_of_block (HB.out.block ab hlt')).trans (HC1.out j v hv) : ∀ (j : Nat) v, (bcs y)[j]? = some v → W.cell? ⟨ab, ao + j, none⟩ = some v)
  have HC2 := hid (fun (j : Nat) v (hv : (bcs z)[j]? = some v) => (World.cell?_of_block (HB.out.block ab hlt')).trans (HC2.out j v hv) : ∀ (j : Nat) v, (bcs z)[j]? = some v → W.cell? ⟨ab, ao + 32 + j, none⟩ = some v)
  have b32 : (32 : Int) ≤ (c : Int) := by omega
  have c32 : ¬ c = 32 := by omega
  have hwk := K1.out.drew
  have hsrc1 : ∀ j v, (bcs y)[j]? = some v → W.drew.cell? ((⟨ab, ao, none⟩ : Addr).add j) = some v := fun j v hv => by rw [Addr.add_lit]; exact HC1.out j v hv
  have hl1 : (bcs y).length = Nat.min 64 32 := by rw [bcs_length, h1]; rfl
  have hf1 : 0 + (bcs y).length ≤ su0.length := by rw [bcs_length, h1, su0_len]; decide
  have hbl1 : ((bcs y).length : Int) = 32 := by rw [bcs_length, h1]; rfl
  have es1 : splice su0 0 (bcs y) = bcs y := splice_all _ _ (by rw [bcs_length, h1, su0_len])
  have es2 : splice su0 0 (bcs z) = bcs z := splice_all _ _ (by rw [bcs_length, h2, su0_len])
  have hwk2 : Blk (W.drew.setRow (g0 + 1) (bcs y).toArray) (g0 + 1 + 1) 107 su0.toArray := row_apart K2.out.drew (by omega)
  have hsrc2 : ∀ j v, (bcs z)[j]? = some v → (W.drew.setRow (g0 + 1) (bcs y).toArray).cell? ((⟨ab, ao + 32, none⟩ : Addr).add j) = some v := fun j v hv => by
    rw [Addr.add_lit]
    exact (World.cell?_of_block (setRow_other W.drew (g0 + 1) ab _ (by omega))).trans (HC2.out j v hv)
  have hl2 : (bcs z).length = Nat.min 32 32 := by rw [bcs_length, h2]; rfl
  have hf2 : 0 + (bcs z).length ≤ su0.length := by rw [bcs_length, h2, su0_len]; decide
  have hbl2 : ((bcs z).length : Int) = 32 := by rw [bcs_length, h2]; rfl
  go_region_held3 (fun _ => True) (trivial) (first
    | (refine step_copy_set (by rfl) (.tmp 9) (.tmp 10) 38 38 (by rfl) 5 Try.underlying38 info_u8 (g0 + 1) 0 32 32 ⟨ab, ao, none⟩ 64 c (by rfl) (by rfl) su0 107 hwk (bcs y) hl1 hsrc1 hf1 (bcs_oneCell _) (bcs y) es1 ?_)
    | (refine step_copy_set (by rfl) (.tmp 7) (.tmp 12) 38 38 (by rfl) 5 Try.underlying38 info_u8 (g0 + 1 + 1) 0 32 32 ⟨ab, ao + 32, none⟩ 32 (c - 32) (by rfl) (by rfl) su0 107 hwk2 (bcs z) hl2 hsrc2 hf2 (bcs_oneCell _) (bcs z) es2 ?_))
  have KA := hid (show Blk ((W.drew.setRow (g0 + 1) (bcs y).toArray).setRow (g0 + 1 + 1) (bcs z).toArray) (g0 + 1) 107 (bcs y).toArray from row_apart (K1.out.drew.setRow _) (by omega))
  have KB := hid (show Blk ((W.drew.setRow (g0 + 1) (bcs y).toArray).setRow (g0 + 1 + 1) (bcs z).toArray) (g0 + 1 + 1) 107 (bcs z).toArray from (row_apart K2.out.drew (by omega)).setRow _)
  have KR := hid (show Blk ((W.drew.setRow (g0 + 1) (bcs y).toArray).setRow (g0 + 1 + 1) (bcs z).toArray) g0 87 #[.int .i64 0, .bool false] from row_apart (row_apart K0.out.drew (by omega)) (by omega))
  have HB2 := hid (show Below g0 w ((W.drew.setRow (g0 + 1) (bcs y).toArray).setRow (g0 + 1 + 1) (bcs z).toArray) from (below_setRow (below_setRow HB.out.drew (by omega) _) (by omega) _))
  clear hwk hsrc1 hl1 hf1 es1 es2 hwk2 hsrc2 hl2 hf2 HC1 HC2 K0 K1 K2 HB
  generalize (W.drew.setRow (g0 + 1) (bcs y).toArray).setRow (g0 + 1 + 1) (bcs z).toArray = w3 at KA KB KR HB2 ⊢
  have Hsy := hid (show (Try.prog.info? 107).map (·.size) = some (bcs y).toArray.size from by rw [size_sup]; simp [bcs, h1])
  have Hsz := hid (show (Try.prog.info? 107).map (·.size) = some (bcs z).toArray.size from by rw [size_sup]; simp [bcs, h2])
  obtain ⟨fs, hu⟩ := claim_struct
  have HU := hid hu
  clear hu
  have hq := HQ.out
  by_cases hyz : y = z
  · subst hyz
    have e1 : (y == y) = true := by simp
    have HE0 := hid (show R = if rightB n y = true then (genB y, true) else (0, false) from by
      rw [HD.out]
      by_cases hr : rightB n y = true
      · rw [if_pos ⟨rfl, hr⟩, if_pos hr]
      · rw [if_neg (fun h => hr h.2), if_neg hr])
    rw [e1] at hq
    clear e1 HD HQ
    go_wp2_with (first
      | (refine wpList_load_blk rfl 107 _ rfl (g0 + 1) rfl 107 _ KA.out 32 5 Try.underlying107 Hsy.out ?_)
      | (refine wpList_load_blk rfl 107 _ rfl (g0 + 1 + 1) rfl 107 _ KB.out 32 5 Try.underlying107 Hsz.out ?_)
      | (refine wpList_load_blk_g (by rfl) 107 _ (by rfl) (g0 + 1) (by rfl) 107 _ KA.out 32 5 Try.underlying107 Hsy.out ?_))
    clear hq
    refine (HRC.out _).mono ?_
    rintro _ w4 ⟨rfl, hb4⟩
    have KA4 := hid (KA.out.keep hb4); have KR4 := hid (KR.out.keep hb4); have HB4 := hid (HB2.out.trans (hb4.mono (by have h1 := HB2.out.size; have h2 := HGE.out; omega)))
    clear KA KB KR HB2 hb4 HRC
    by_cases hr : rightB n y = true
    · rw [hr]
      have HE := hid (show R = (genB y, true) from by rw [HE0.out, if_pos hr])
      clear HE0 hr
      go_wp2_with (first
        | (refine wpList_load_blk rfl 107 _ rfl (g0 + 1) rfl 107 _ KA4.out 32 5 Try.underlying107 Hsy.out ?_))
      refine (HGC.out _).mono ?_
      rintro _ w5 ⟨rfl, hb5⟩
      have KR5 := hid (KR4.out.keep hb5); have HB5 := hid (HB4.out.trans (hb5.mono (by have h1 := HB4.out.size; have h2 := HGE.out; omega)))
      clear KA4 KR4 HB4 hb5 HGC
      generalize genB y = G at HE ⊢
      go_wp2_with (first
        | (refine wpList_store_blk rfl 87 _ _ rfl g0 #[.int .i64 (G : Int), .bool true] rfl rfl 87 _ KR5.out size_claim rfl rfl ?_))
      refine bodyPost_ret (v := clv (G, true)) (results_cell_row rfl _ _ g0 87 _ (0, 0) _ rfl (KR5.out.setRow _) HU.out rfl size_claim) rfl ⟨by rw [HE.out], ?_⟩
      rw [HGE.out]; exact below_setRow HB5.out (Nat.le_refl _) _
    · have hr' : rightB n y = false := by simpa using hr
      rw [hr']
      have HE := hid (show R = (0, false) from by rw [HE0.out, if_neg hr])
      clear HE0 hr hr'
      go_wp2_with (first
        | (refine wpList_store_blk rfl 87 _ _ rfl g0 #[.int .i64 0, .bool false] rfl rfl 87 _ KR4.out size_claim rfl rfl ?_))
      refine bodyPost_ret (v := clv (0, false)) (results_cell_row rfl _ _ g0 87 _ (0, 0) _ rfl (KR4.out.setRow _) HU.out rfl size_claim) rfl ⟨by rw [HE.out], ?_⟩
      rw [HGE.out]; exact below_setRow HB4.out (Nat.le_refl _) _
  · have e1 : (y == z) = false := by simpa using hyz
    have HE := hid (show R = (0, false) from by rw [HD.out, if_neg (fun h => hyz h.1)])
    rw [e1] at hq
    clear e1 HD HQ hyz
    go_wp2_with (first
      | (refine wpList_load_blk rfl 107 _ rfl (g0 + 1) rfl 107 _ KA.out 32 5 Try.underlying107 Hsy.out ?_)
      | (refine wpList_load_blk rfl 107 _ rfl (g0 + 1 + 1) rfl 107 _ KB.out 32 5 Try.underlying107 Hsz.out ?_)
      | (refine wpList_store_blk rfl 87 _ _ rfl g0 #[.int .i64 0, .bool false] rfl rfl 87 _ KR.out size_claim rfl rfl ?_))
    refine bodyPost_ret (v := clv (0, false)) (results_cell_row rfl _ _ g0 87 _ (0, 0) _ rfl (KR.out.setRow _) HU.out rfl size_claim) rfl ⟨by rw [HE.out], ?_⟩
    rw [HGE.out]; exact below_setRow HB2.out (Nat.le_refl _) _
end Go.Proofs.Ytgldhmmfofnmiaa
/- Contracts: which claim is the greatest, and which generation counts. -/
namespace Go.Proofs.Ytgldhmmfofnmiaa
open Go.RowKit

def cmpN (x y : Nat) : Int := if x < y then -1 else if y < x then 1 else 0
theorem nan_calls (x : Int) (w : World) : Calls Try.prog 88 #[.int .i64 x] w fun e w' => e = .returned (.bool false) ∧ w = w' := by
  go_enter Try.func88, Try.ntmps88
  go_wp2_with fail
  go_ret
  exact ⟨rfl, rfl⟩
theorem icmp_calls (x y : Nat) (w : World) : Calls Try.prog 75 #[.int .i64 (x : Int), .int .i64 (y : Int)] w fun e w' => e = .returned (.int .i64 (cmpN x y)) ∧ w = w' := by
  by_cases h1 : x < y
  · have HE := hid (show cmpN x y = -1 from if_pos h1)
    have h1' : (x : Int) < (y : Int) := by omega
    clear h1
    go_enter Try.func75, Try.ntmps75
    go_wp2_with fail
    refine (nan_calls _ _).mono ?_
    rintro _ _ ⟨rfl, rfl⟩
    go_wp2_with fail
    refine (nan_calls _ _).mono ?_
    rintro _ _ ⟨rfl, rfl⟩
    go_wp2_with fail
    go_ret
    exact ⟨by rw [HE.out]; rfl, rfl⟩
  · have h1' : ¬ (x : Int) < (y : Int) := by omega
    by_cases h2 : y < x
    · have HE := hid (show cmpN x y = 1 from by unfold cmpN; rw [if_neg h1, if_pos h2])
      have h2' : (y : Int) < (x : Int) := by omega
      clear h1 h2
      go_enter Try.func75, Try.ntmps75
      go_wp2_with fail
      refine (nan_calls _ _).mono ?_
      rintro _ _ ⟨rfl, rfl⟩
      go_wp2_with fail
      refine (nan_calls _ _).mono ?_
      rintro _ _ ⟨rfl, rfl⟩
      go_wp2_with fail
      go_ret
      exact ⟨by rw [HE.out]; rfl, rfl⟩
    · have HE := hid (show cmpN x y = 0 from by unfold cmpN; rw [if_neg h1, if_neg h2])
      have h2' : ¬ (y : Int) < (x : Int) := by omega
      clear h1 h2
      go_enter Try.func75, Try.ntmps75
      go_wp2_with fail
      refine (nan_calls _ _).mono ?_
      rintro _ _ ⟨rfl, rfl⟩
      go_wp2_with fail
      refine (nan_calls _ _).mono ?_
      rintro _ _ ⟨rfl, rfl⟩
      go_wp2_with fail
      go_ret
      exact ⟨by rw [HE.out]; rfl, rfl⟩
theorem compare_calls (c d : Nat × Bool) (w : World) : Calls Try.prog 53 #[clv c, clv d] w fun e w' => e = .returned (.int .i64 (cmpN c.1 d.1)) ∧ Below w.heap.size w w' := by
  obtain ⟨x, p⟩ := c
  obtain ⟨y, q⟩ := d
  unfold clv
  dsimp only
  obtain ⟨W, hW, k0, k1, hB⟩ := two_new w #[.int .i64 (x : Int), .bool p] #[.int .i64 (y : Int), .bool q] 87 87
  have HB := hid hB
  have c0 := k0.cell 0 rfl
  have c1 := k1.cell 0 rfl
  clear k0 k1 hB
  have HW := hid hW
  clear hW
  go_enter Try.func53, Try.ntmps53
  go_wp2_with fail
  rw [← HW.out]
  refine (icmp_calls x y _).mono ?_
  rintro _ _ ⟨rfl, rfl⟩
  go_wp2_with fail
  go_ret
  exact ⟨rfl, HB.out⟩
attribute [local irreducible] wpQuiet
set_option maxRecDepth 20000 in
set_option maxHeartbeats 4000000 in
theorem max_calls (c d : Nat × Bool) (b cap : Nat) (w : World) (_hc : 2 ≤ cap) (h : w.cell? ⟨b, 0, none⟩ = some (.int .i64 (c.1 : Int)) ∧ w.cell? ⟨b, 1, none⟩ = some (.bool c.2) ∧ w.cell? ⟨b, 2, none⟩ = some (.int .i64 (d.1 : Int)) ∧ w.cell? ⟨b, 3, none⟩ = some (.bool d.2)) :
    Calls Try.prog 52 #[.slice (some ⟨b, 0, none⟩) 2 cap, .func (.func 53) #[] #[]] w fun e w' => e = .returned (clv (topC c d)) ∧ Below w.heap.size w w' := by
  have HC := hid (fun W => compare_calls d c W)
  have hE : ∀ args w, (callFunc 53 args).run Try.prog w = .ok (.enter 53 args) w := enters_of Try.func53 (by kernel_rfl) rfl
  obtain ⟨x, p⟩ := c
  obtain ⟨y, q⟩ := d
  dsimp only at h HC
  obtain ⟨c0, c1, c2, c3⟩ := h
  have hlt := lt_of_cell c0
  unfold clv at HC
  dsimp only at HC
  go_enter Try.func52, Try.ntmps52
  go_wp2_with (refine wpList_alloc_blk rfl 87 rfl _ info_claim ?_)
  obtain ⟨W, hW, k0, k1, hB⟩ := two_new w #[.int .i64 0, .bool false] #[.int .i64 (x : Int), .bool p] 87 87
  rw [← hW]
  have hlt' : b < w.heap.size := hlt
  have HCE := hid (fun (W' : World) (hb : Below w.heap.size w W') => (⟨(World.cell?_of_block (hb.block b hlt')).trans c2, (World.cell?_of_block (hb.block b hlt')).trans c3⟩ : W'.cell? ⟨b, 2, none⟩ = some (.int .i64 (y : Int)) ∧ W'.cell? ⟨b, 3, none⟩ = some (.bool q)))
  have K0 := hid k0; have K1 := hid k1; have HB := hid hB
  clear hW k0 k1 hB c0 c1 c2 c3 hlt
  generalize hge : w.heap.size = g0 at K0 K1 HB HCE hlt' ⊢
  have HGE := hid hge
  clear hge
  obtain ⟨fs, hu⟩ := claim_struct
  have HU := hid hu
  clear hu
  go_loopw [6] (fun v6 wr => ∃ (k : Nat) (m : Nat × Bool), v6 = .int .i64 (k : Int) ∧ (k = 1 ∧ m = (x, p) ∨ k = 2 ∧ m = topC (x, p) (y, q)) ∧ Hid (Blk wr (g0 + 1) 87 #[.int .i64 (m.1 : Int), .bool m.2]) ∧ Hid (Blk wr g0 87 #[.int .i64 0, .bool false]) ∧ Hid (Below g0 w wr)) (fun v6 _ => 2 - (intOf v6).toNat)
  case atStart => exact ⟨1, (x, p), rfl, .inl ⟨rfl, rfl⟩, K1, K0, HB⟩
  case round =>
    clear K0 K1 HB
    obtain ⟨k, m, rfl, hkm, K1, K0, HB⟩ := hrel
    rcases hkm with ⟨rfl, rfl⟩ | ⟨rfl, rfl⟩
    · rw [show ((1 : Nat) : Int) = 1 from rfl]
      dsimp only at K1
      have hcs := HCE.out _ HB.out.drew
      have hk1 := K1.out.drew
      go_wp2_with fail
      refine wp_region_class (fun w' => (w'.cell? ⟨b, 2, none⟩ = some (.int .i64 (y : Int)) ∧ w'.cell? ⟨b, 3, none⟩ = some (.bool q)) ∧ (w'.cell? ⟨g0 + 1, 0, none⟩ = some (.int .i64 (x : Int)) ∧ w'.cell? ⟨g0 + 1, 1, none⟩ = some (.bool p)) ∧ Blk w' (g0 + 1) 87 #[.int .i64 (x : Int), .bool p] ∧ Blk w' g0 87 #[.int .i64 0, .bool false] ∧ Below g0 w w') (by kernel_rfl) (by kernel_rfl) ⟨hcs, ⟨hk1.cell 0 rfl, hk1.cell 1 rfl⟩, hk1, K0.out.drew, HB.out.drew⟩ ?_
      intro S _ at_ hS hin
      have HhS := hid hS; have Hin := hid hin
      have e0 := fun z => (hS z).1.1
      have e1 := fun z => (hS z).1.2
      have e2 := fun z => (hS z).2.1.1
      have e3 := fun z => (hS z).2.1.2
      clear hS hin hcs hk1 K0 K1 HB
      (refine wpQuiet_step (fun K hK => ?_); go_simp; refine hK _ ?_; clear hK K)
      (refine wpQuiet_step (fun K hK => ?_); go_simp; refine hK _ ?_; clear hK K)
      (refine wpQuiet_step (fun K hK => ?_); go_simp; refine hK _ ?_; clear hK K)
      (refine wpQuiet_step (fun K hK => ?_); go_simp; refine hK _ ?_; clear hK K)
      (refine wpQuiet_step (fun K hK => ?_); go_simp; refine hK _ ?_; clear hK K)
      (refine wpQuiet_step (fun K hK => ?_); go_simp; refine hK _ ?_; clear hK K)
      (refine wpQuiet_step (fun K hK => ?_); (refine quiet_callK rfl 53 #[.agg #[.int .i64 (y : Int), .bool q], .agg #[.int .i64 (x : Int), .bool p]] (fun w => by go_simp) (.int .i64 (cmpN y x)) (fun z => (HC.out _).mono fun e w' ⟨he, hw⟩ => ⟨he, Hin.out w' ⟨HCE.out _ ((HhS.out z).2.2.2.2.trans (hw.mono (by have h1 := (HhS.out z).2.2.2.1.lt; omega))), ⟨((HhS.out z).2.2.1.keep hw).cell 0 rfl, ((HhS.out z).2.2.1.keep hw).cell 1 rfl⟩, (HhS.out z).2.2.1.keep hw, (HhS.out z).2.2.2.1.keep hw, (HhS.out z).2.2.2.2.trans (hw.mono (by have h1 := (HhS.out z).2.2.2.1.lt; omega))⟩⟩) ?_); go_simp; refine hK _ ?_; clear hK K)
      (refine wpQuiet_step (fun K hK => ?_); go_simp; refine hK _ ?_; clear hK K)
      refine wpQuiet_nil ?_
      rintro w' ⟨⟨d0, d1⟩, -, hk1, hk0, hB⟩
      have K1 := hid hk1; have K0 := hid hk0; have HB := hid hB
      clear e0 e1 e2 e3 hk1 hk0 hB HhS Hin
      by_cases hxy : x < y
      · have hcm : cmpN y x = 1 := by unfold cmpN; rw [if_neg (by omega), if_pos hxy]
        have HT := hid (show topC (x, p) (y, q) = (y, q) from if_pos hxy)
        rw [hcm]
        clear hcm
        go_wp2_with (refine wpList_store_blk rfl 87 _ _ rfl (g0 + 1) #[.int .i64 (y : Int), .bool q] rfl rfl 87 _ K1.out size_claim rfl rfl ?_)
        go_roundw
        case rel => exact ⟨2, _, rfl, .inr ⟨rfl, rfl⟩, hid (by rw [HT.out]; exact K1.out.setRow _), hid (row_apart K0.out (by omega)), hid (below_setRow HB.out (by omega) _)⟩
        case measure => simp [intOf]
      · have hcm : ¬ 0 < cmpN y x := by unfold cmpN; split <;> (try split) <;> omega
        have HT := hid (show topC (x, p) (y, q) = (x, p) from if_neg hxy)
        generalize cmpN y x = r at hcm ⊢
        go_wp2_with fail
        go_roundw
        case rel => exact ⟨2, _, rfl, .inr ⟨rfl, rfl⟩, hid (by rw [HT.out]; exact K1.out), K0, HB⟩
        case measure => simp [intOf]
    · rw [show ((2 : Nat) : Int) = 2 from rfl]
      have c0 := K1.out.cell 0 rfl
      have c1 := K1.out.cell 1 rfl
      generalize hT : topC (x, p) (y, q) = T at K1 c0 c1 ⊢
      have HT := hid hT
      clear hT
      go_wp2_with (refine wpList_store_blk rfl 87 _ _ rfl g0 #[.int .i64 (T.1 : Int), .bool T.2] rfl rfl 87 _ K0.out size_claim rfl rfl ?_)
      refine bodyPost_ret (v := clv T) (results_cell_row rfl _ _ g0 87 _ (0, 0) _ rfl (K0.out.setRow _) HU.out rfl size_claim) rfl ⟨by rw [HT.out], ?_⟩
      rw [HGE.out]; exact below_setRow HB.out (Nat.le_refl _) _
/-! ### the generation that counts -/
theorem info_claims : (Try.prog.info? 87).map (fun i => (i.zero, i.size, i.bytes)) = some (some (.agg #[.int .i64 0, .bool false]), 2, 16) := by kernel_rfl
def ccells (l : List (Nat × Bool)) : List Value := l.flatMap fun c => [.int .i64 (c.1 : Int), .bool c.2]
theorem read_two {s : DS} (hn : 2 ≤ s.n) (i : Nat) (hi : i < 2) : readE s (i : Int) = (if s.out = true then 22 else 0) := by
  have h : hasB s.n (i : Int) = true := by unfold hasB; exact decide_eq_true (by omega)
  unfold readE
  by_cases ho : s.out = true
  · rw [if_pos ho, if_pos ho]
  · rw [if_neg ho, if_neg ho, if_pos h]
theorem count_bad {s : DS} (hn : 2 ≤ s.n) (ho : s.out = true) : countR s = (0, 22) := by
  have h0 := read_two hn 0 (by omega)
  rw [if_pos ho] at h0
  have h0' : readE s 0 = 22 := h0
  unfold countR
  rw [h0']; simp
theorem count_good {s : DS} (hn : 2 ≤ s.n) (ho : s.out = false) : countR s = if (topC (claimB s.n (readB s 0)) (claimB s.n (readB s 1))).2 = true then ((topC (claimB s.n (readB s 0)) (claimB s.n (readB s 1))).1, 0) else (0, 23) := by
  have h0 : readE s 0 = 0 := by have h := read_two hn 0 (by omega); rw [ho] at h; exact h
  have h1 : readE s 1 = 0 := by have h := read_two hn 1 (by omega); rw [ho] at h; exact h
  unfold countR
  rw [if_pos h0, if_pos h1]
set_option maxRecDepth 20000 in
set_option maxHeartbeats 4000000 in
theorem counting_calls (base g : Nat) (F : List Nat) (s : DS) (w : World) (h : DevB w base F g s) (hn : 2 ≤ s.n) :
    Calls Try.prog 20 #[.pointer (some ⟨g, 0, none⟩)] w fun e w' => e = .returned (.tuple #[.int .i64 ((countR s).1 : Int), .int .i64 ((countR s).2 : Int)]) ∧ Below w.heap.size w w' := by
  have hnb := h.ok.nb
  have HZ := hid (fun W (hW : Below w.heap.size w W) => dSize_calls base g F s W (h.keep hW))
  have HR := hid (fun W (hW : Below w.heap.size w W) (i : Nat) => dRead_calls base g F s W (i : Int) (h.keep hW))
  have HL := hid (fun i : Int => readB_len s h.ok i)
  clear h
  by_cases ho : s.out = true
  · have HE := hid (count_bad hn ho)
    have H0 := HR.out w (Below.refl _ _) 0
    rw [read_two hn 0 (by omega), if_pos ho] at H0
    have H0 := hid H0
    generalize countR s = R at HE ⊢
    clear HR HZ HL ho
    go_enter Try.func20, Try.ntmps20
    go_wp2_with fail
    go_loopw [9] (fun v wr => v = .int .i64 0 ∧ wr = w) (fun _ _ => 0)
    case atStart => exact ⟨rfl, rfl⟩
    case round =>
      obtain ⟨rfl, rfl⟩ := hrel
      go_wp2_with fail
      refine H0.out.mono ?_
      rintro _ w1 ⟨v, rfl, -, hb⟩
      have HB := hid hb
      clear hb
      go_wp2_with fail
      go_ret2
      exact ⟨by rw [HE.out]; rfl, HB.out⟩
  · have ho' : s.out = false := by simpa using ho
    have HE := hid (count_good hn ho')
    have HRE := hid (fun i (hi : i < 2) => show readE s ((i : Nat) : Int) = 0 from by rw [read_two hn i hi, ho']; rfl)
    have HMX := hid (fun b cap W (hW : W.cell? ⟨b, 0, none⟩ = some (.int .i64 ((claimB s.n (readB s 0)).1 : Int)) ∧ W.cell? ⟨b, 1, none⟩ = some (.bool (claimB s.n (readB s 0)).2) ∧ W.cell? ⟨b, 2, none⟩ = some (.int .i64 ((claimB s.n (readB s 1)).1 : Int)) ∧ W.cell? ⟨b, 3, none⟩ = some (.bool (claimB s.n (readB s 1)).2)) (hc : 2 ≤ cap) => max_calls (claimB s.n (readB s 0)) (claimB s.n (readB s 1)) b cap W hc hW)
    have HCO := hid (fun (i : Nat) B c A W (hs : SB W B A 64 (readB s (i : Int))) (hc : 64 ≤ c) => claimOf_calls (readB s (i : Int)) s.n B c A W hs hc (by omega))
    generalize countR s = R at HE ⊢
    have HC := hid (fun i : Nat => show (ccells ((List.range (i + 1)).map fun j : Nat => claimB s.n (readB s (j : Int)))) = ccells ((List.range i).map fun j : Nat => claimB s.n (readB s (j : Int))) ++ [.int .i64 ((claimB s.n (readB s (i : Int))).1 : Int), .bool (claimB s.n (readB s (i : Int))).2] from by
      simp [List.range_succ, ccells])
    go_enter Try.func20, Try.ntmps20
    go_wp2_with fail
    go_loopw [4, 9] (fun v4 v9 wr => ∃ k : Nat, v9 = .int .i64 (k : Int) ∧ k ≤ 2 ∧ Hid (wr.ownsRow w.heap.size 87 2 v4 k (ccells ((List.range k).map fun j : Nat => claimB s.n (readB s (j : Int))))) ∧ Hid (Below w.heap.size w wr)) (fun _ v9 _ => 2 - (intOf v9).toNat)
    case atStart => exact ⟨0, rfl, by omega, hid (World.ownsRow_nil _ _ _ _), hid (Below.refl _ _)⟩
    case round =>
      obtain ⟨k, rfl, hk, HO, HB⟩ := hrel
      by_cases hlt : k < 2
      · have hlt' : (k : Int) < 2 := by omega
        have HRk := hid (HR.out wr HB.out k)
        have hl := HL.out (k : Int)
        rw [HRE.out k hlt] at HRk hl
        have hl64 : (readB s (k : Int)).length = 64 := by simpa using hl
        have H64 := hid hl64
        clear hl hl64
        go_wp2_with fail
        refine HRk.out.mono ?_
        rintro _ w1 ⟨v, rfl, hown, hb⟩
        rw [H64.out] at hown
        obtain ⟨A', c', rfl, hc', hs', -⟩ := hown.sb
        have HO1 := hid (ownsRow_chg HO.out (Chg.of_below (L := []) hb) (fun _ _ => by simp))
        have HB1 := hid (HB.out.trans (hb.mono HB.out.size)); have HS1 := hid hs'
        clear hown hb hs' HRk HO HB H64
        go_wp2_with fail
        refine (HZ.out _ HB1.out).mono ?_
        rintro _ _ ⟨rfl, rfl⟩
        go_wp2_with fail
        refine (HCO.out k _ _ _ _ HS1.out hc').mono ?_
        rintro _ w2 ⟨rfl, hb2⟩
        have HO2 := hid (ownsRow_chg HO1.out (Chg.of_below (L := []) hb2) (fun _ _ => by simp))
        have HB2 := hid (HB1.out.trans (hb2.mono HB1.out.size))
        have HCK := hid (HC.out k)
        clear HO1 HB1 HS1 hb2 HCO
        generalize claimB s.n (readB s (k : Int)) = CK at HCK ⊢
        unfold clv
        go_wp2_with (at_builtin; refine Held.go ?_)
        have hbn := below_new w2 (.cells #[.int .i64 (CK.1 : Int), .bool CK.2] 87)
        have kn := Blk.new w2 87 #[.int .i64 (CK.1 : Int), .bool CK.2]
        have hcells : ∀ (j : Nat) u, ([.int .i64 (CK.1 : Int), .bool CK.2] : List Value)[j]? = some u → (w2.alloc (.cells #[.int .i64 (CK.1 : Int), .bool CK.2] 87)).cell? ((⟨w2.heap.size, 0, none⟩ : Addr).add j) = some u := fun j u hu => by
          rw [Addr.add_lit, Nat.zero_add]
          exact kn.cell j (by simpa using hu)
        have HO3 := hid (ownsRow_chg HO2.out (Chg.of_below (L := []) hbn) (fun _ _ => by simp))
        have HB3 := hid (HB2.out.trans (hbn.mono HB2.out.size))
        generalize w2.alloc (.cells #[.int .i64 (CK.1 : Int), .bool CK.2] 87) = w3 at hcells HO3 HB3 ⊢
        obtain ⟨i0, hi0, hz0, hz1, hz2⟩ := info_parts info_claims
        refine wpList_append_own_at w3 rfl _ _ 83 rfl w.heap.size 87 i0 _ 2 16 Try.underlying83 hi0 hz0 hz1 hz2 rfl (by omega) u4 k _ rfl HO3.out ⟨w2.heap.size, 0, none⟩ 1 1 [.int .i64 (CK.1 : Int), .bool CK.2] rfl rfl hcells (by simp [Value.oneCell']) (by simp [maxLen]; omega) (by omega) HB3.out.size ?_
        intro v8 w8 h8 hg8 _ _
        rw [← HCK.out] at h8
        have HO8 := hid h8
        have HB8 := hid (HB3.out.trans (below_of_grown hg8 HB3.out.size (fun b e => (World.ownsRow.lt HO3.out b e).1)))
        clear h8 hg8 hcells hbn kn hi0 hz0 hz1 hz2 HO2 HB2 HO3 HB3
        go_wp2_with fail
        go_roundw
        case rel => exact ⟨k + 1, by go_num, by omega, HO8, HB8⟩
        case measure => simp [intOf]; omega
      · obtain rfl : k = 2 := by omega
        rw [show ((2 : Nat) : Int) = 2 from rfl]
        obtain ⟨b, cap, hu4, _, _⟩ := World.ownsRow.form HO.out (by omega)
        have hcs := World.ownsRow.cells HO.out (g := b) (by rw [hu4]; rfl)
        have e2 : ccells ((List.range 2).map fun j : Nat => claimB s.n (readB s (j : Int))) = [.int .i64 ((claimB s.n (readB s 0)).1 : Int), .bool (claimB s.n (readB s 0)).2, .int .i64 ((claimB s.n (readB s 1)).1 : Int), .bool (claimB s.n (readB s 1)).2] := rfl
        rw [e2] at hcs
        have h4 : wr.cell? ⟨b, 0, none⟩ = some (.int .i64 ((claimB s.n (readB s 0)).1 : Int)) ∧ wr.cell? ⟨b, 1, none⟩ = some (.bool (claimB s.n (readB s 0)).2) ∧ wr.cell? ⟨b, 2, none⟩ = some (.int .i64 ((claimB s.n (readB s 1)).1 : Int)) ∧ wr.cell? ⟨b, 3, none⟩ = some (.bool (claimB s.n (readB s 1)).2) := ⟨by have := hcs 0 _ rfl; simpa [Addr.add_lit] using this, by have := hcs 1 _ rfl; simpa [Addr.add_lit] using this, by have := hcs 2 _ rfl; simpa [Addr.add_lit] using this, by have := hcs 3 _ rfl; simpa [Addr.add_lit] using this⟩
        have hcap : 2 ≤ cap := by
          rcases HO.out.2 with ⟨e, _⟩ | ⟨_, cap', _, e, _, _, hle, _⟩
          · rw [hu4] at e; cases e
          · rw [hu4] at e
            cases e
            exact hle
        have HM := hid (HMX.out b cap wr h4 hcap)
        subst hu4
        clear hcs e2 h4 hcap HO HMX HC HRE HR HL HZ HCO
        generalize topC (claimB s.n (readB s 0)) (claimB s.n (readB s 1)) = T at HE HM
        go_wp2_with fail
        refine HM.out.mono ?_
        rintro _ w5 ⟨rfl, hb5⟩
        have HB5 := hid (HB.out.trans (hb5.mono HB.out.size))
        obtain ⟨tg, tb⟩ := T
        dsimp only at HE
        unfold clv
        dsimp only
        clear hb5 HB HM
        cases tb with
        | false =>
          have HE2 := hid (show R = (0, 23) from by rw [HE.out]; rfl)
          have HNS := hid (new_set w5 87 #[.int .i64 0, .bool false] #[.int .i64 (tg : Int), .bool false])
          have kz := Blk.new w5 87 #[.int .i64 0, .bool false]
          have x0 := HNS.out.2.cell 0 rfl
          have x1 := HNS.out.2.cell 1 rfl
          have HF := hid (HB5.out.trans (HNS.out.1.mono HB5.out.size))
          clear HE HNS
          go_wp2_with (first
            | (refine wpList_alloc_blk rfl 87 rfl _ info_claim ?_)
            | (refine wpList_store_blk rfl 87 _ _ rfl w5.heap.size #[.int .i64 (tg : Int), .bool false] rfl rfl 87 _ kz size_claim rfl rfl ?_))
          go_ret2
          exact ⟨by rw [HE2.out]; rfl, HF.out⟩
        | true =>
          have HE2 := hid (show R = (tg, 0) from by rw [HE.out]; rfl)
          have HNS := hid (new_set w5 87 #[.int .i64 0, .bool false] #[.int .i64 (tg : Int), .bool true])
          have kz := Blk.new w5 87 #[.int .i64 0, .bool false]
          have x0 := HNS.out.2.cell 0 rfl
          have x1 := HNS.out.2.cell 1 rfl
          have HF := hid (HB5.out.trans (HNS.out.1.mono HB5.out.size))
          clear HE HNS
          go_wp2_with (first
            | (refine wpList_alloc_blk rfl 87 rfl _ info_claim ?_)
            | (refine wpList_store_blk rfl 87 _ _ rfl w5.heap.size #[.int .i64 (tg : Int), .bool true] rfl rfl 87 _ kz size_claim rfl rfl ?_))
          go_ret2
          exact ⟨by rw [HE2.out]; rfl, HF.out⟩
end Go.Proofs.Ytgldhmmfofnmiaa
/- Contracts: areas of a vault, and what Format and Open check. -/
namespace Go.Proofs.Ytgldhmmfofnmiaa
open Go.RowKit

theorem half_le {n : Nat} (h : n ≤ 65536) : halfN n ≤ 32767 := by unfold halfN; omega
theorem from_le {n gen : Nat} (h : n ≤ 65536) : fromN n gen ≤ 32769 := by
  have := half_le h
  have h2 : gen % 2 * halfN n ≤ 1 * halfN n := Nat.mul_le_mul_right _ (by omega)
  unfold fromN; omega
theorem area_room {n gen : Nat} (h : 2 ≤ n) : fromN n gen + halfN n ≤ n := by
  have h2 : gen % 2 * halfN n ≤ 1 * halfN n := Nat.mul_le_mul_right _ (by omega)
  have h3 : halfN n = (n - 2) / 2 := rfl
  unfold fromN; omega
set_option maxRecDepth 20000 in
set_option maxHeartbeats 2000000 in
theorem areaOf_calls (n gen : Nat) (w : World) (h2 : 2 ≤ n) (hn : n ≤ 65536) (hg : gen ≤ 4294967296) :
    Calls Try.prog 21 #[.int .i64 (n : Int), .int .i64 (gen : Int)] w fun e w' => e = .returned (arv (areaV n gen)) ∧ Below w.heap.size w w' := by
  have hh := half_le hn
  have hf := from_le (gen := gen) hn
  obtain ⟨m, hm0⟩ : ∃ m, n - 2 = m := ⟨_, rfl⟩
  obtain ⟨p, hp⟩ : ∃ p, gen % 2 = p := ⟨_, rfl⟩
  have hp1 : p ≤ 1 := by omega
  have e1 : IntKind.i64.wrap ((n : Int) - 2) = (m : Int) := by rw [IntWalk.i64_in _ (by omega)]; omega
  have e2 : (m : Int) / 2 = (halfN n : Int) := by unfold halfN; omega
  have e3 : (gen : Int) % 2 = (p : Int) := by omega
  obtain ⟨q, hq⟩ : ∃ q, p * halfN n = q := ⟨_, rfl⟩
  have hm : q ≤ 32767 := by
    have h2 : p * halfN n ≤ 1 * halfN n := Nat.mul_le_mul_right _ hp1
    omega
  have e4 : IntKind.i64.wrap ((p : Int) * (halfN n : Int)) = (q : Int) := by
    rw [← Int.natCast_mul, hq]; exact IntWalk.i64_in _ (by omega)
  have e5 : IntKind.i64.wrap (2 + (q : Int)) = (fromN n gen : Int) := by
    rw [show 2 + (q : Int) = (fromN n gen : Int) by unfold fromN; rw [hp, hq]; omega]; exact IntWalk.i64_in _ (by omega)
  obtain ⟨X, hX⟩ : ∃ X : Int, ((fromN n gen + halfN n : Nat) : Int) = X := ⟨_, rfl⟩
  have e6 : IntKind.i64.wrap ((fromN n gen : Int) + (halfN n : Int)) = X := by rw [IntWalk.i64_in _ (by omega)]; omega
  have HA := hid (show areaV n gen = ⟨(fromN n gen : Int), X, (gen : Int)⟩ from by rw [← hX]; rfl)
  clear hq hp hm0 hX
  generalize areaV n gen = AA at HA ⊢
  generalize halfN n = H at *
  generalize fromN n gen = FR at *
  have kz := Blk.new w 40 #[.int .i64 0, .int .i64 0, .int .i64 0]
  obtain ⟨fs, hu⟩ : ∃ fs, Try.prog.underlying 40 = some (.struct fs) := by
    have h := under_area
    split at h
    · rename_i fs he
      exact ⟨fs, he⟩
    · cases h
  have HU := hid hu
  clear hu
  have HNS := hid (new_set w 40 #[.int .i64 0, .int .i64 0, .int .i64 0] #[.int .i64 (FR : Int), .int .i64 X, .int .i64 (gen : Int)])
  go_enter Try.func21, Try.ntmps21
  go_wp2_with (first
    | (refine wpList_alloc_blk rfl 40 rfl _ info_area ?_)
    | (refine wpList_store_blk rfl 40 _ _ rfl w.heap.size #[.int .i64 (FR : Int), .int .i64 X, .int .i64 (gen : Int)] rfl rfl 40 _ kz size_area rfl rfl ?_))
  refine bodyPost_ret (v := .agg #[.int .i64 (FR : Int), .int .i64 X, .int .i64 (gen : Int)]) (results_cell_row rfl _ _ w.heap.size 40 _ (0, 0) _ rfl HNS.out.2 HU.out rfl size_area) rfl ⟨by rw [HA.out]; rfl, HNS.out.1⟩
theorem check_calls_v (base g : Nat) (F : List Nat) (s : DS) (w : World) (h : DevB w base F g s) : Calls Try.prog 19 #[.pointer (some ⟨g, 0, none⟩)] w fun e w' => e = .returned (.int .i64 (checkV s : Int)) ∧ Below w.heap.size w w' := by
  have HC := hid (check_calls base g F s w ⟨0, 8, 1⟩ h)
  have HV := hid (show checkE s.n ⟨0, 8, 1⟩ = checkV s from rfl)
  rw [HV.out] at HC
  generalize checkV s = E at HC ⊢
  unfold arv at HC
  dsimp only at HC
  clear h HV
  go_enter Try.func19, Try.ntmps19
  go_wp2_with fail
  refine HC.out.mono ?_
  rintro _ w1 ⟨rfl, hb⟩
  have HB := hid hb
  clear hb HC
  go_wp2_with fail
  go_ret
  exact ⟨rfl, HB.out⟩
theorem sectors_calls (a b c : Int) (w : World) (h : IntKind.i64.wrap (b - a) = b - a) : Calls Try.prog 61 #[.agg #[.int .i64 a, .int .i64 b, .int .i64 c]] w fun e w' => e = .returned (.int .i64 (b - a)) ∧ Below w.heap.size w w' := by
  have HK := hid (below_new w (.cells #[.int .i64 a, .int .i64 b, .int .i64 c] 40))
  go_enter Try.func61, Try.ntmps61
  go_wp2_with fail
  go_ret
  exact ⟨rfl, HK.out⟩
end Go.Proofs.Ytgldhmmfofnmiaa
/- Contract: steps, one behind the other, till an error comes. -/
namespace Go.Proofs.Ytgldhmmfofnmiaa
open Go.RowKit

/-- a function value: a function of the program, what stands ahead of its arguments, and what it holds -/
structure FnV where
  k : FuncId
  first : Array Value
  cap : Array Value
def fnV (f : FnV) : Value := .func (.func f.k) f.first f.cap
def EntersV (k : FuncId) : Prop := ∀ args w, (callFunc k args).run Try.prog w = .ok (.enter k args) w
theorem chain_step {σ : Type} {f : σ → σ × Nat} {l : List (σ → σ × Nat)} {s : σ} (h : (f s).2 = 0) : chainR (f :: l) s = chainR l (f s).1 := by
  show (if (f s).2 = 0 then chainR l (f s).1 else f s) = _
  rw [if_pos h]
theorem chain_stop {σ : Type} {f : σ → σ × Nat} {l : List (σ → σ × Nat)} {s : σ} (h : ¬ (f s).2 = 0) : chainR (f :: l) s = f s := by
  show (if (f s).2 = 0 then chainR l (f s).1 else f s) = _
  rw [if_neg h]
theorem chain_next {σ : Type} {f : σ → σ × Nat} {l : List (σ → σ × Nat)} {s0 s : σ} (h : chainR l s0 = (s, 0)) (hf : (f s).2 = 0) : chainR (l ++ [f]) s0 = ((f s).1, 0) := by
  induction l generalizing s0 with
  | nil =>
    have e : s0 = s := congrArg Prod.fst h
    subst e
    rw [List.nil_append, chain_step hf]
    rfl
  | cons g l ih =>
    by_cases hg : (g s0).2 = 0
    · rw [chain_step hg] at h
      rw [List.cons_append, chain_step hg]
      exact ih h
    · rw [chain_stop hg] at h
      exact absurd (congrArg Prod.snd h) hg
/-- what a step does in every world that bears its state -/
def StepV {σ : Type} (I : σ → World → Prop) (f : σ → σ × Nat) (v : FnV) (s : σ) : Prop :=
  EntersV v.k ∧ ∀ W, I s W → Calls Try.prog v.k (v.first ++ v.cap) W fun e W' => e = .returned (.int .i64 ((f s).2 : Int)) ∧ I (f s).1 W'
set_option maxRecDepth 20000 in
set_option maxHeartbeats 4000000 in
theorem do_calls {σ : Type} (I : σ → World → Prop) (fs : List (σ → σ × Nat)) (vs : List FnV) (b c n : Nat) (s0 : σ) (w : World) (hl : vs.length = fs.length) (hn : fs.length = n) (hn2 : n ≤ 1099511627776) (h0 : I s0 w)
    (hcell : ∀ s W, I s W → ∀ (k : Nat) v, vs[k]? = some v → W.cell? ⟨b, k, none⟩ = some (fnV v))
    (hstep : ∀ (k : Nat) f v s, fs[k]? = some f → vs[k]? = some v → chainR (fs.take k) s0 = (s, 0) → StepV I f v s) :
    Calls Try.prog 40 #[.slice (some ⟨b, 0, none⟩) n c] w fun e w' => e = .returned (.int .i64 ((chainR fs s0).2 : Int)) ∧ I (chainR fs s0).1 w' := by
  have H0 := hid h0; have HC := hid hcell; have HS := hid hstep
  have HR := hid (show chainR (fs.drop 0) s0 = chainR fs s0 from rfl)
  clear h0 hcell hstep
  have HQ := hid (show chainR (fs.take 0) s0 = (s0, 0) from rfl)
  generalize chainR fs s0 = R at HR ⊢
  go_enter Try.func40, Try.ntmps40
  go_wp2_with fail
  go_loopw [8] (fun v8 wr => ∃ (k : Nat) (s : σ), v8 = .int .i64 (k : Int) ∧ k ≤ n ∧ Hid (I s wr) ∧ Hid (chainR (fs.drop k) s = R) ∧ Hid (chainR (fs.take k) s0 = (s, 0))) (fun v8 _ => n - (intOf v8).toNat)
  case atStart => exact ⟨0, s0, rfl, Nat.zero_le _, H0, HR, HQ⟩
  case round =>
    clear H0 HR HQ
    obtain ⟨k, s, rfl, hk, HI, HR, HQ⟩ := hrel
    by_cases hlt : k < n
    · have hlt' : (k : Int) < (n : Int) := by omega
      obtain ⟨f, hf⟩ : ∃ f, fs[k]? = some f := ⟨fs[k]'(by omega), List.getElem?_eq_getElem (by omega)⟩
      obtain ⟨v, hv⟩ : ∃ v, vs[k]? = some v := ⟨vs[k]'(by omega), List.getElem?_eq_getElem (by omega)⟩
      have hc := HC.out s wr HI.out k v hv
      obtain ⟨hE, hS⟩ := HS.out k f v s hf hv HQ.out
      unfold EntersV at hE
      have HST := hid (hS wr HI.out)
      have hd : fs.drop k = f :: fs.drop (k + 1) := by
        have hkf : k < fs.length := by omega
        rw [List.drop_eq_getElem_cons hkf]
        rw [List.getElem?_eq_getElem hkf] at hf
        cases hf
        rfl
      rw [hd] at HR
      have HTK := hid (show fs.take (k + 1) = fs.take k ++ [f] from by rw [List.take_add_one, hf]; rfl)
      obtain ⟨fk, first, cap⟩ := v
      unfold fnV at hc
      dsimp only at hc hE HST
      clear hd hf hv hS HI
      go_wp2_with fail
      refine HST.out.mono ?_
      rintro _ w1 ⟨rfl, hI⟩
      have HI := hid hI
      clear hI HST hc hE
      by_cases hz : (f s).2 = 0
      · have HR2 := hid (show chainR (fs.drop (k + 1)) (f s).1 = R from by rw [← chain_step hz]; exact HR.out)
        have HQ2 := hid (show chainR (fs.take (k + 1)) s0 = ((f s).1, 0) from by rw [HTK.out]; exact chain_next HQ.out hz)
        rw [hz]
        rw [show ((0 : Nat) : Int) = 0 from rfl]
        clear HR hz HQ HTK
        go_wp2_with fail
        go_roundw
        case rel => exact ⟨k + 1, (f s).1, by go_num, by omega, HI, HR2, HQ2⟩
        case measure => simp [intOf]; omega
      · have HE := hid (show f s = R from by rw [← chain_stop hz]; exact HR.out)
        have hz' : ¬ ((f s).2 : Int) = 0 := by omega
        clear HR hz HQ HTK
        go_wp2_with fail
        go_ret
        exact ⟨by rw [← HE.out]; rfl, by rw [← HE.out]; exact HI.out⟩
    · obtain rfl : k = n := by omega
      have HE := hid (show (s, 0) = R from by
        have := HR.out
        rw [List.drop_of_length_le (by omega)] at this
        exact this)
      clear HR
      go_wp2_with fail
      go_ret
      exact ⟨by rw [← HE.out]; rfl, by rw [← HE.out]; exact HI.out⟩
end Go.Proofs.Ytgldhmmfofnmiaa
/- Contracts: slices.Grow and slices.Concat, as a vault asks them. -/
namespace Go.Proofs.Ytgldhmmfofnmiaa
open Go.RowKit

set_option maxRecDepth 20000 in
theorem grow_calls (n : Nat) (h1 : 1 ≤ n) (h2 : n ≤ 1048576) (w : World) : Calls Try.prog 87 #[.slice none 0 0, .int .i64 (n : Int)] w fun e w' => ∃ v, e = .returned v ∧ Own w' w.heap.size 5 v 0 [] ∧ Below w.heap.size w w' := by
  have q1 : ¬ (n : Int) < 0 := by omega
  have q2 : (0 : Int) < (n : Int) := by omega
  go_enter Try.func87, Try.ntmps87
  go_wp2_with (at_builtin; refine Held.go ?_)
  obtain ⟨i0, hi0, hz0, hz1, hz2⟩ := info_parts info5'
  have hr := Lib.run_append_nil_zeros (P := Try.prog) w 38 3 38 5 i0 _ .i64 .i64 Try.underlying38 Try.underlying3 hi0 hz0 n (by omega) (by omega) (by omega) (by rw [hz2]; omega)
  have hge := grownCap_ge w n 0 5
  have hle := grownCap_le_maxLen w n 0 5 (by unfold maxLen; omega)
  generalize hcp : grownCap w n 0 5 = cp at hr hge hle
  have hbel : Below w.heap.size w (w.drew.alloc (.cells (Builtin.zeroCells (Value.int .u8 0).cells n ++ Builtin.zeroCells (Value.int .u8 0).cells (cp - n)) 5)) := (Below.refl _ _).drew.alloc (Nat.le_refl _) _
  have hheap : (w.drew.alloc (.cells (Builtin.zeroCells (Value.int .u8 0).cells n ++ Builtin.zeroCells (Value.int .u8 0).cells (cp - n)) 5)).heap[w.heap.size]? = some (.cells (Builtin.zeroCells (Value.int .u8 0).cells n ++ Builtin.zeroCells (Value.int .u8 0).cells (cp - n)) 5 (0, 0)) := Blk.new w.drew _ _
  have hsz : (Builtin.zeroCells (Value.int .u8 0).cells n ++ Builtin.zeroCells (Value.int .u8 0).cells (cp - n)).size = cp * 1 := by
    simp [Builtin.zeroCells, Value.cells]; omega
  have HK := hid (show Own (w.drew.alloc (.cells (Builtin.zeroCells (Value.int .u8 0).cells n ++ Builtin.zeroCells (Value.int .u8 0).cells (cp - n)) 5)) w.heap.size 5 (.slice (some ⟨w.heap.size, 0, none⟩) 0 cp) 0 [] from ⟨rfl, .inr ⟨w.heap.size, cp, _, rfl, Nat.le_refl _, hheap, by omega, hle, hsz, by simp⟩⟩)
  have HB := hid hbel
  clear hbel hheap hsz hcp
  refine Lib.wpList_append_run w rfl (.tmp 20) (.tmp 21) 38 3 rfl _ _ rfl rfl _ _ hr ?_
  clear hr
  generalize w.drew.alloc (.cells (Builtin.zeroCells (Value.int .u8 0).cells n ++ Builtin.zeroCells (Value.int .u8 0).cells (cp - n)) 5) = w1 at HK HB ⊢
  have hcp : ¬ cp = 0 := by omega
  go_wp2_with fail
  go_ret
  exact ⟨_, rfl, HK.out, HB.out⟩
set_option maxRecDepth 20000 in
set_option maxHeartbeats 2000000 in
theorem concat2_calls (b g c cc : Nat) (x : List UInt8) (w : World) (hx : x.length = 32) (h0 : w.cell? ⟨b, 0, none⟩ = some (.slice (some ⟨g, 0, none⟩) 32 c)) (h1 : w.cell? ⟨b, 1, none⟩ = some (.slice (some ⟨g, 0, none⟩) 32 c)) (hs : SB w w.heap.size (some ⟨g, 0, none⟩) 32 x) :
    Calls Try.prog 71 #[.slice (some ⟨b, 0, none⟩) 2 cc] w fun e w' => ∃ v, e = .returned v ∧ Own w' w.heap.size 5 v 64 (x ++ x) ∧ Below w.heap.size w w' := by
  have hlt := lt_of_cell h0
  have HC := hid (fun (W : World) (hb : Below w.heap.size w W) => (⟨(World.cell?_of_block (hb.block b hlt)).trans h0, (World.cell?_of_block (hb.block b hlt)).trans h1⟩ : W.cell? ⟨b, 0, none⟩ = some (.slice (some ⟨g, 0, none⟩) 32 c) ∧ W.cell? ⟨b, 1, none⟩ = some (.slice (some ⟨g, 0, none⟩) 32 c)))
  have HS := hid hs
  clear hs
  go_enter Try.func71, Try.ntmps71
  go_wp2_with fail
  go_loop [3, 5, 11] (fun v3 _ v11 => ∃ k : Nat, v11 = .int .i64 (k : Int) ∧ v3 = .int .i64 ((32 * k : Nat) : Int) ∧ k ≤ 2) (fun _ _ v11 => 2 - (intOf v11).toNat)
  case atStart => exact ⟨0, rfl, rfl, by omega⟩
  case round =>
    obtain ⟨k, rfl, rfl, hk⟩ := hrel
    rcases (show k = 0 ∨ k = 1 ∨ k = 2 by omega) with rfl | rfl | rfl
    · simp only [Nat.mul_zero, Int.natCast_zero]
      go_wp2_with fail
      go_round
      case rel => exact ⟨1, rfl, rfl, by omega⟩
      case measure => simp [intOf]
    · simp only [Nat.mul_one, Int.natCast_one, show (((32 : Nat)) : Int) = 32 from rfl]
      go_wp2_with fail
      go_round
      case rel => exact ⟨2, rfl, rfl, by omega⟩
      case measure => simp [intOf]
    · simp only [show 32 * 2 = 64 from rfl, show (((64 : Nat)) : Int) = 64 from rfl, show (((2 : Nat)) : Int) = 2 from rfl]
      clear h0 h1
      go_wp2_with fail
      refine (grow_calls 64 (by omega) (by omega) w).mono ?_
      rintro _ w1 ⟨v, rfl, ho, hb⟩
      have HO := hid ho; have HB := hid hb
      clear ho hb
      go_wp2_with fail
      go_loopw [6, 8, 27] (fun v6 _ v27 wr => ∃ k : Nat, v27 = .int .i64 (k : Int) ∧ k ≤ 2 ∧ Hid (Own wr w.heap.size 5 v6 (32 * k) (List.replicate k x).flatten) ∧ Hid (Below w.heap.size w wr)) (fun _ _ v27 _ => 2 - (intOf v27).toNat)
      case atStart => exact ⟨0, rfl, by omega, HO, HB⟩
      case round =>
        clear HO HB
        obtain ⟨k, rfl, hk, HO, HB⟩ := hrel
        by_cases hlt2 : k < 2
        · have hlt2' : (k : Int) < 2 := by omega
          have hck : wr.cell? ⟨b, k, none⟩ = some (.slice (some ⟨g, 0, none⟩) 32 c) := by
            have := HC.out wr HB.out
            rcases (show k = 0 ∨ k = 1 by omega) with rfl | rfl
            · exact this.1
            · exact this.2
          have HX := hid (HS.out.keep HB.out)
          have HN := hid (show (List.replicate (k + 1) x).flatten = (List.replicate k x).flatten ++ x from by rw [List.replicate_succ', List.flatten_append]; simp)
          have hx' : 32 = x.length := hx.symm
          clear hx'
          generalize hL : (List.replicate k x).flatten = L at HO HN
          go_wp2_with (at_builtin; refine Held.go ?_)
          refine wpList_append_bytes wr rfl _ _ 38 rfl 5 Try.underlying38 info5' w.heap.size u6 (32 * k) L rfl HO.out _ (some ⟨g, 0, none⟩) 32 c x rfl HX.out (by omega) HB.out.size ?_
          intro v' w' h1' h2' _
          rw [← HN.out] at h1'
          have HO1 := hid (show Own w' w.heap.size 5 v' (32 * (k + 1)) (List.replicate (k + 1) x).flatten from h1')
          have HB1 := hid (HB.out.trans (below_of_grown h2' HB.out.size (fun b e => (HO.out.block b e).1)))
          clear h1' h2' HO HB HX HN hL
          go_wp2_with fail
          go_roundw
          case rel => exact ⟨k + 1, by go_num, by omega, HO1, HB1⟩
          case measure => simp [intOf]; omega
        · obtain rfl : k = 2 := by omega
          have HE := hid (show (List.replicate 2 x).flatten = x ++ x from by simp [List.replicate])
          rw [HE.out] at HO
          rw [show ((2 : Nat) : Int) = 2 from rfl]
          go_wp2_with fail
          go_ret
          exact ⟨_, rfl, HO.out, HB.out⟩
end Go.Proofs.Ytgldhmmfofnmiaa
/- Contract: a superblock is written. -/
namespace Go.Proofs.Ytgldhmmfofnmiaa
open Go.RowKit

theorem sup_sb (w : World) (g gen n : Nat) (h : Blk w g 107 (bcs (supL gen n)).toArray) : SB w w.heap.size (some ⟨g, 0, none⟩) 32 (supL gen n) := sb_blk h 0 32 _ rfl rfl
set_option maxRecDepth 20000 in
set_option maxHeartbeats 4000000 in
theorem super_calls (base g : Nat) (F : List Nat) (s : DS) (gen : Nat) (w : World) (h : DevB w base F g s) (hbase : base ≤ w.heap.size) (hf : fuseOK s) (hg : gen < 4294967296) :
    Calls Try.prog 47 #[.pointer (some ⟨g, 0, none⟩), .int .i64 (gen : Int)] w fun e w' => e = .returned (.int .i64 ((superR gen s).2 : Int)) ∧ DevAt w base F g (superR gen s).1 w' := by
  have hnb := h.ok.nb
  have HFL := hid (fun b (hb : b ∈ F) => (h.lt b hb).2)
  have HZ := hid (dSize_calls base g F s w h)
  have HNS := hid (newSup_calls gen s.n w hg (by omega))
  have HR := hid (show superR gen s = (writeS s ((gen % 2 : Nat) : Int) (supS gen s.n), writeE s ((gen % 2 : Nat) : Int) 64) from rfl)
  obtain ⟨p, hp⟩ : ∃ p, gen % 2 = p := ⟨_, rfl⟩
  rw [hp] at HR
  have e3 : (gen : Int).tmod 2 = (p : Int) := by rw [Int.tmod_eq_emod_of_nonneg (by omega)]; omega
  have HWR := hid (fun (W : World) (hb : Below w.heap.size w W) A c (hs : SB W W.heap.size A 64 (supS gen s.n)) (hne : ∀ b off, A = some ⟨b, off, none⟩ → w.heap.size ≤ b) => dWrite_calls base g F s W (p : Int) W.heap.size 64 c A (supS gen s.n) (h.keep hb) (Nat.le_trans hbase hb.size) hf.1 hf.2 hs (fun b off e hm => by
    have h1 := hne b off e
    have h2 := HFL.out b hm
    omega))
  rw [← e3] at HWR
  have HSS := hid (show supS gen s.n = supL gen s.n ++ supL gen s.n from rfl)
  generalize superR gen s = R at HR ⊢
  generalize hSS : supS gen s.n = SS at HR HWR HSS
  have hsl : (supL gen s.n).length = 32 := rfl
  generalize hSL : supL gen s.n = SL0 at HNS HSS hsl
  have HE3 := hid e3
  clear h hSS hSL hp e3
  have hsz : (Try.prog.info? 107).map (·.size) = some (bcs SL0).toArray.size := by rw [size_sup]; simp [bcs, hsl]
  have hold : su0.toArray.size = (bcs SL0).toArray.size := by simp [bcs, hsl, su0]
  have h1c : (bcs SL0).toArray.toList.all (·.oneCell') = true := by simp only [List.all_eq_true]; exact bcs_oneCell SL0
  have Hsz := hid hsz; have Hold := hid hold; have H1c := hid h1c
  clear hsz hold h1c
  go_enter Try.func47, Try.ntmps47
  go_wp2_with fail
  refine HZ.out.mono ?_
  rintro _ _ ⟨rfl, rfl⟩
  go_wp2_with fail
  refine HNS.out.mono ?_
  rintro _ w1 ⟨rfl, hb1⟩
  have HB1 := hid hb1
  have kz := Blk.new w1 107 su0.toArray
  have HSET := hid (show Below w1.heap.size w1 ((w1.alloc (.cells (Value.agg su0.toArray).cells 107)).setRow w1.heap.size (bcs SL0).toArray) ∧ Blk ((w1.alloc (.cells (Value.agg su0.toArray).cells 107)).setRow w1.heap.size (bcs SL0).toArray) w1.heap.size 107 (bcs SL0).toArray from new_set w1 107 su0.toArray (bcs SL0).toArray)
  clear hb1 HNS HZ
  go_wp2_with (first
    | (refine wpList_alloc_blk rfl 107 rfl _ zero_sup ?_)
    | (refine wpList_store_blk rfl 107 _ _ rfl w1.heap.size _ rfl rfl 107 _ kz Hsz.out Hold.out H1c.out ?_))
  simp only [Act.put, List.setIfInBounds_toArray, List.set_cons_zero, List.set_cons_succ]
  have k2 := HSET.out.2
  have HB2 := hid (HB1.out.trans (HSET.out.1.mono HB1.out.size))
  clear kz HSET
  generalize hq : w1.heap.size = q at k2 HB2 ⊢
  generalize (w1.alloc (.cells (Value.agg su0.toArray).cells 107)).setRow q (bcs SL0).toArray = w2 at k2 HB2 ⊢
  have hqw : w.heap.size ≤ q := by rw [← hq]; exact HB1.out.size
  have hB5 : Below w.heap.size w ((w2.alloc (.cells #[.slice (some ⟨q, 0, none⟩) 32 32, .slice (some ⟨q, 0, none⟩) 32 32] 38)).drew) := (HB2.out.alloc HB2.out.size _).drew
  have k5 : Blk ((w2.alloc (.cells #[.slice (some ⟨q, 0, none⟩) 32 32, .slice (some ⟨q, 0, none⟩) 32 32] 38)).drew) q 107 (bcs SL0).toArray := (k2.alloc _).drew
  have kn : Blk ((w2.alloc (.cells #[.slice (some ⟨q, 0, none⟩) 32 32, .slice (some ⟨q, 0, none⟩) 32 32] 38)).drew) w2.heap.size 38 #[.slice (some ⟨q, 0, none⟩) 32 32, .slice (some ⟨q, 0, none⟩) 32 32] := (Blk.new w2 _ _).drew
  have HCC := hid (concat2_calls w2.heap.size q 32 2 SL0 _ hsl (kn.cell 0 rfl) (kn.cell 1 rfl) (sb_blk k5 0 32 SL0 (by rw [List.drop_zero]; exact List.take_of_length_le (by omega)) hsl))
  have HB5 := hid hB5
  rw [← HSS.out] at HCC
  clear k2 k5 kn hB5 HB1 HB2 hq hsl HSS
  go_region_held3 (fun _ => True) (trivial) (first
    | (go_at_call 71; refine HCC.out.mono ?_; rintro e w6 ⟨v, rfl, ho, hb⟩; obtain ⟨A', c', rfl, -, hs6, hblk⟩ := ho.sb; have HB6 := hid (HB5.out.trans (hb.mono HB5.out.size)); have HS6 := hid hs6; have HK6 := hid hblk; clear ho hb hs6 hblk)
    | (go_at_call 42; refine (HWR.out w6 HB6.out A' c' HS6.out (fun b off e => Nat.le_trans HB5.out.size (HK6.out b (by rw [e]; rfl)).1)).mono ?_; rintro e w7 ⟨rfl, hp⟩; have HP := hid hp; clear hp))
  go_wp2_with fail
  go_ret
  have hp : DevAt w6 base F g (writeS s ((gen : Int).tmod 2) SS) w7 := HP.out
  rw [HE3.out] at hp
  exact ⟨by rw [HR.out, HE3.out]; rfl, by rw [HR.out]; exact DevAt.from_ HB6.out hp⟩
end Go.Proofs.Ytgldhmmfofnmiaa
/- How many loose writes a vault's steps make: plain mathematics. -/
namespace Go.Proofs.Ytgldhmmfofnmiaa
open Go.RowKit

def Fused (s : DS) : Prop := ∀ k, s.fuse = some k → k < 9223372036854775808
/-- a step makes so many loose writes more at most, and leaves the device's size -/
def Costs {σ : Type} (dev : σ → DS) (f : σ → σ × Nat) (c : Nat) : Prop := ∀ s, Fused (dev s) → Fused (dev (f s).1) ∧ (dev (f s).1).n = (dev s).n ∧ (dev (f s).1).loose.length ≤ (dev s).loose.length + c
theorem burn_fused {s : DS} (h : Fused s) : Fused (burn s) := by
  intro k hk
  unfold burn at hk
  simp only [Option.map_eq_some_iff] at hk
  obtain ⟨j, hj, rfl⟩ := hk
  have := h j hj
  omega
theorem write_costs {s : DS} (i : Int) (bs : List UInt8) (h : Fused s) : Fused (writeS s i bs) ∧ (writeS s i bs).n = s.n ∧ (writeS s i bs).loose.length ≤ s.loose.length + 1 := by
  refine ⟨?_, write_n s i bs, ?_⟩
  · unfold writeS
    split
    · exact h
    · split
      · exact h
      · split
        · exact h
        · split
          · exact burn_fused h
          · exact fun k hk => burn_fused h k hk
  · unfold writeS
    split
    · omega
    · split
      · omega
      · split
        · omega
        · split
          · show s.loose.length ≤ _; omega
          · show (s.loose ++ [_]).length ≤ _; simp
theorem flush_costs {s : DS} (h : Fused s) : Fused (flushD s) ∧ (flushD s).n = s.n ∧ (flushD s).loose.length ≤ s.loose.length := by
  unfold flushD
  split
  · exact ⟨h, rfl, by omega⟩
  · split
    · exact ⟨burn_fused h, rfl, Nat.le_refl _⟩
    · exact ⟨fun k hk => burn_fused h k hk, rfl, by show 0 ≤ _; omega⟩
theorem writes_costs {s : DS} (i : Int) (l : List (List UInt8)) (h : Fused s) : Fused (writesS s i l).1 ∧ (writesS s i l).1.n = s.n ∧ (writesS s i l).1.loose.length ≤ s.loose.length + l.length := by
  induction l generalizing s i with
  | nil => exact ⟨h, rfl, Nat.le_refl _⟩
  | cons b l ih =>
    obtain ⟨h1, h2, h3⟩ := write_costs i b h
    show Fused (if writeE s i 64 = 0 then writesS (writeS s i b) (i + 1) l else (writeS s i b, writeE s i 64)).1 ∧ (if writeE s i 64 = 0 then writesS (writeS s i b) (i + 1) l else (writeS s i b, writeE s i 64)).1.n = s.n ∧ (if writeE s i 64 = 0 then writesS (writeS s i b) (i + 1) l else (writeS s i b, writeE s i 64)).1.loose.length ≤ s.loose.length + (b :: l).length
    split
    · obtain ⟨k1, k2, k3⟩ := ih (i + 1) h1
      exact ⟨k1, k2.trans h2, by simp; omega⟩
    · exact ⟨h1, h2, by simp; omega⟩
theorem blank_costs {s : DS} (a : AR) (c : Nat) (hc : (a.b - a.a).toNat ≤ c) (h : Fused s) : Fused (blankR s a).1 ∧ (blankR s a).1.n = s.n ∧ (blankR s a).1.loose.length ≤ s.loose.length + c := by
  obtain ⟨h1, h2, h3⟩ := writes_costs a.a (List.replicate (a.b - a.a).toNat zeros64) h
  rw [List.length_replicate] at h3
  unfold blankR
  split
  · split
    · obtain ⟨k1, k2, k3⟩ := flush_costs h1
      exact ⟨k1, k2.trans h2, by show (flushD _).loose.length ≤ _; omega⟩
    · exact ⟨h1, h2, by omega⟩
  · exact ⟨h, rfl, by show s.loose.length ≤ _; omega⟩
theorem lwrite_costs {s : DS} (a : AR) (at_ : Int) (rec : List UInt8) (h : Fused s) : Fused (logWR s a at_ rec).1 ∧ (logWR s a at_ rec).1.n = s.n ∧ (logWR s a at_ rec).1.loose.length ≤ s.loose.length + needN rec.length := by
  have hz : Fused s ∧ s.n = s.n ∧ s.loose.length ≤ s.loose.length + needN rec.length := ⟨h, rfl, by omega⟩
  have hw := writes_costs (a.a + at_) (recSecs a.g.toNat at_.toNat rec) h
  have hl : (recSecs a.g.toNat at_.toNat rec).length = needN rec.length := by simp [recSecs]
  rw [hl] at hw
  unfold logWR
  split
  · split
    · exact hz
    · split
      · exact hz
      · split
        · exact hz
        · split
          · exact hw
          · exact hw
  · exact hz
theorem chain_costs {σ : Type} (dev : σ → DS) (fs : List (σ → σ × Nat)) (cs : List Nat) (hl : cs.length = fs.length) (hc : ∀ (k : Nat) f c, fs[k]? = some f → cs[k]? = some c → Costs dev f c) (s0 : σ) (h : Fused (dev s0)) :
    Fused (dev (chainR fs s0).1) ∧ (dev (chainR fs s0).1).n = (dev s0).n ∧ (dev (chainR fs s0).1).loose.length ≤ (dev s0).loose.length + cs.sum := by
  induction fs generalizing s0 cs with
  | nil =>
    obtain rfl : cs = [] := List.eq_nil_of_length_eq_zero hl
    exact ⟨h, rfl, by show (dev s0).loose.length ≤ _; simp⟩
  | cons f fs ih =>
    cases cs with
    | nil => simp at hl
    | cons c cs =>
      obtain ⟨h1, h2, h3⟩ := hc 0 f c rfl rfl s0 h
      rw [List.sum_cons]
      by_cases hz : (f s0).2 = 0
      · rw [chain_step hz]
        obtain ⟨k1, k2, k3⟩ := ih cs (by simpa using hl) (fun k f' c' hf hc' => hc (k + 1) f' c' (by simpa using hf) (by simpa using hc')) (f s0).1 h1
        exact ⟨k1, k2.trans h2, by omega⟩
      · rw [chain_stop hz]
        exact ⟨h1, h2, by omega⟩
theorem take_sum (l : List Nat) (k : Nat) : (l.take k).sum ≤ l.sum := by
  induction l generalizing k with
  | nil => simp
  | cons x l ih =>
    cases k with
    | zero => simp
    | succ k => rw [List.take_succ_cons, List.sum_cons, List.sum_cons]; have := ih k; omega
/-- behind the first steps -/
theorem chain_part {σ : Type} (dev : σ → DS) (fs : List (σ → σ × Nat)) (cs : List Nat) (hl : cs.length = fs.length) (hc : ∀ (k : Nat) f c, fs[k]? = some f → cs[k]? = some c → Costs dev f c) (s0 s : σ) (k : Nat) (h : Fused (dev s0)) (hk : chainR (fs.take k) s0 = (s, 0)) :
    Fused (dev s) ∧ (dev s).n = (dev s0).n ∧ (dev s).loose.length ≤ (dev s0).loose.length + cs.sum := by
  obtain ⟨h1, h2, h3⟩ := chain_costs dev (fs.take k) (cs.take k) (by simp [hl]) (fun j f c hf hc' => by
    rw [List.getElem?_take] at hf hc'
    split at hf
    · rename_i hj
      rw [if_pos hj] at hc'
      exact hc j f c hf hc'
    · cases hf) s0 h
  rw [hk] at h1 h2 h3
  have := take_sum cs k
  exact ⟨h1, h2, by have h3' : (dev s).loose.length ≤ (dev s0).loose.length + (cs.take k).sum := h3; omega⟩
end Go.Proofs.Ytgldhmmfofnmiaa
/- Contracts: the steps of Format. -/
namespace Go.Proofs.Ytgldhmmfofnmiaa
open Go.RowKit

section
variable (base g bd : Nat) (F : List Nat) (s : DS) (w : World)
theorem keep_cell {w w' : World} {F : List Nat} {b : Nat} {v : Value} (h : w.cell? ⟨b, 0, none⟩ = some v) (hc : Chg F w w') (hb : b ∉ F) : w'.cell? ⟨b, 0, none⟩ = some v := cell_chg h hc hb
theorem DevAt.chg {base g : Nat} {F : List Nat} {s : DS} {w w1 : World} (h : DevAt w base F g s w1) : Chg F w w1 := by obtain ⟨_, _, h, _⟩ := h; exact h
set_option maxRecDepth 20000 in
theorem fmt1_calls (bz : Nat) (h : DevB w base F g s) (hbase : base ≤ w.heap.size) (hf : fuseOK s) (hd : w.cell? ⟨bd, 0, none⟩ = some (.pointer (some ⟨g, 0, none⟩))) (hbd : bd ∉ F) (hz : Blk w bz 78 (bcs zeros64).toArray) (hbz : bz ∉ F) :
    Calls Try.prog 41 #[.pointer (some ⟨bd, 0, none⟩), .pointer (some ⟨bz, 0, none⟩)] w fun e w' => e = .returned (.int .i64 ((writeR 0 zeros64 s).2 : Int)) ∧ DevAt w base F g (writeR 0 zeros64 s).1 w' := by
  have HW := hid (dWrite_calls base g F s w.drew 0 w.drew.heap.size 64 64 (some ⟨bz, 0, none⟩) zeros64 h.drew hbase hf.1 hf.2 (sb_blk hz.drew 0 64 zeros64 rfl rfl) (fun b off e hm => by cases e; exact hbz hm))
  have HR := hid (show writeR 0 zeros64 s = (writeS s 0 zeros64, writeE s 0 64) from rfl)
  have HBD := hid hbd
  generalize writeR 0 zeros64 s = R at HR ⊢
  clear h hz hbz hf hbd
  go_enter Try.func41, Try.ntmps41
  go_wp2_with fail
  go_region_held3 (fun w' => w'.cell? ⟨bd, 0, none⟩ = some (.pointer (some ⟨g, 0, none⟩))) (first | assumption | exact hd) (first
    | (go_at_call 42; refine HW.out.mono ?_; rintro e w7 ⟨rfl, hp⟩; have HP := hid (show DevAt w.drew base F g (writeS s 0 zeros64) w7 from hp); clear hp; have hcl := keep_cell (show w.drew.cell? ⟨bd, 0, none⟩ = some (.pointer (some ⟨g, 0, none⟩)) from hd) HP.out.chg HBD.out))
  go_wp2_with fail
  go_ret
  exact ⟨by rw [HR.out]; rfl, by rw [HR.out]; exact DevAt.from_ ((Below.refl _ _).drew) HP.out⟩
set_option maxRecDepth 20000 in
theorem fmt2_calls (bz : Nat) (h : DevB w base F g s) (hbase : base ≤ w.heap.size) (hf : fuseOK s) (hd : w.cell? ⟨bd, 0, none⟩ = some (.pointer (some ⟨g, 0, none⟩))) (hbd : bd ∉ F) (hz : Blk w bz 78 (bcs zeros64).toArray) (hbz : bz ∉ F) :
    Calls Try.prog 43 #[.pointer (some ⟨bd, 0, none⟩), .pointer (some ⟨bz, 0, none⟩)] w fun e w' => e = .returned (.int .i64 ((writeR 1 zeros64 s).2 : Int)) ∧ DevAt w base F g (writeR 1 zeros64 s).1 w' := by
  have HW := hid (dWrite_calls base g F s w.drew 1 w.drew.heap.size 64 64 (some ⟨bz, 0, none⟩) zeros64 h.drew hbase hf.1 hf.2 (sb_blk hz.drew 0 64 zeros64 rfl rfl) (fun b off e hm => by cases e; exact hbz hm))
  have HR := hid (show writeR 1 zeros64 s = (writeS s 1 zeros64, writeE s 1 64) from rfl)
  have HBD := hid hbd
  generalize writeR 1 zeros64 s = R at HR ⊢
  clear h hz hbz hf hbd
  go_enter Try.func43, Try.ntmps43
  go_wp2_with fail
  go_region_held3 (fun w' => w'.cell? ⟨bd, 0, none⟩ = some (.pointer (some ⟨g, 0, none⟩))) (first | assumption | exact hd) (first
    | (go_at_call 42; refine HW.out.mono ?_; rintro e w7 ⟨rfl, hp⟩; have HP := hid (show DevAt w.drew base F g (writeS s 1 zeros64) w7 from hp); clear hp; have hcl := keep_cell (show w.drew.cell? ⟨bd, 0, none⟩ = some (.pointer (some ⟨g, 0, none⟩)) from hd) HP.out.chg HBD.out))
  go_wp2_with fail
  go_ret
  exact ⟨by rw [HR.out]; rfl, by rw [HR.out]; exact DevAt.from_ ((Below.refl _ _).drew) HP.out⟩
set_option maxRecDepth 20000 in
set_option maxHeartbeats 1000000 in
theorem fmt3_calls (h : DevB w base F g s) (hbase : base ≤ w.heap.size) (hf : fuseOK s) (hlo : s.loose.length + 65536 ≤ 1000000) (hn : 2 ≤ s.n) (hd : w.cell? ⟨bd, 0, none⟩ = some (.pointer (some ⟨g, 0, none⟩))) (hbd : bd ∉ F) :
    Calls Try.prog 44 #[.pointer (some ⟨bd, 0, none⟩)] w fun e w' => e = .returned (.int .i64 ((blankR s (areaV s.n 1)).2 : Int)) ∧ DevAt w base F g (blankR s (areaV s.n 1)).1 w' := by
  have hnb := h.ok.nb
  have HZ := hid (dSize_calls base g F s w.drew h.drew)
  have HA := hid (areaOf_calls s.n 1 w.drew hn hnb (by omega))
  have HW := hid (fun W (hW : Below w.drew.heap.size w.drew W) => lgBlank_calls base g F s W (areaV s.n 1) (h.drew.keep hW) (Nat.le_trans hbase hW.size) hf hlo)
  have HBD := hid hbd
  generalize blankR s (areaV s.n 1) = R at HW ⊢
  generalize areaV s.n 1 = a at HA HW
  clear h hf hbd
  go_enter Try.func44, Try.ntmps44
  go_wp2_with fail
  go_region_held3 (fun w' => w'.cell? ⟨bd, 0, none⟩ = some (.pointer (some ⟨g, 0, none⟩))) (first | assumption | exact hd) (first
    | (go_at_call 22; refine HZ.out.mono ?_; rintro _ _ ⟨rfl, rfl⟩)
    | (go_at_call 21; refine HA.out.mono ?_; rintro _ w6 ⟨rfl, hb⟩; have HB6 := hid hb; have hcl6 := (show w6.cell? ⟨bd, 0, none⟩ = some (.pointer (some ⟨g, 0, none⟩)) from (World.cell?_of_block (hb.block bd (lt_of_cell hd))).trans hd); clear hb)
    | (go_at_call 45; refine (HW.out _ HB6.out).mono ?_; rintro e w7 ⟨rfl, hp⟩; have HP := hid hp; clear hp; have hcl := keep_cell hcl6 HP.out.chg HBD.out))
  go_wp2_with fail
  go_ret
  exact ⟨rfl, DevAt.from_ ((Below.refl _ _).drew) (DevAt.from_ HB6.out HP.out)⟩
theorem fmt4_calls (h : DevB w base F g s) (hbase : base ≤ w.heap.size) (hf : fuseOK s) (hd : w.cell? ⟨bd, 0, none⟩ = some (.pointer (some ⟨g, 0, none⟩))) :
    Calls Try.prog 46 #[.pointer (some ⟨bd, 0, none⟩)] w fun e w' => e = .returned (.int .i64 ((superR 1 s).2 : Int)) ∧ DevAt w base F g (superR 1 s).1 w' := by
  have HW := hid (super_calls base g F s 1 w h hbase hf (by omega))
  generalize superR 1 s = R at HW ⊢
  rw [show ((1 : Nat) : Int) = 1 from rfl] at HW
  clear h hf
  go_enter Try.func46, Try.ntmps46
  go_wp2_with fail
  refine HW.out.mono ?_
  rintro _ w1 ⟨rfl, hp⟩
  have HP := hid hp
  clear hp HW
  go_wp2_with fail
  go_ret
  exact ⟨rfl, HP.out⟩
end
end Go.Proofs.Ytgldhmmfofnmiaa
/- Contract: Format. -/
namespace Go.Proofs.Ytgldhmmfofnmiaa
open Go.RowKit

theorem DevAt.next {base g : Nat} {F F' : List Nat} {s2 : DS} {w0 w w2 : World} (h2 : Chg F w0 w) (h3 : ∀ b ∈ F', b ∈ F ∨ w0.heap.size ≤ b) (k : DevAt w base F' g s2 w2) : DevAt w0 base F g s2 w2 := by
  obtain ⟨F'', q1, q2, q3⟩ := k
  exact ⟨F'', q1, h2.trans q2 h3, fun b hb => (q3 b hb).elim (h3 b) (fun hb => .inr (Nat.le_trans h2.size hb))⟩
theorem check_ge {s : DS} (h : checkV s = 0) : 8 ≤ s.n := by
  have := check_ok h
  obtain ⟨-, -, h3, -, -⟩ := this
  have h3' : (8 : Int) ≤ (s.n : Int) := h3
  omega
def fmtCosts : List Nat := [1, 1, 0, 32767, 1, 0]
theorem area_count {n gen : Nat} : ((areaV n gen).b - (areaV n gen).a).toNat = halfN n := by
  unfold areaV
  dsimp only
  omega
theorem fmt_costs (N : Nat) (hN : N ≤ 65536) : ∀ (k : Nat) f c, (formatSteps N)[k]? = some f → fmtCosts[k]? = some c → Costs (fun s : DS => s) f c := by
  intro k f c hf hc s hs
  match k with
  | 0 => cases hf; cases hc; exact write_costs 0 zeros64 hs
  | 1 => cases hf; cases hc; exact write_costs 1 zeros64 hs
  | 2 => cases hf; cases hc; exact flush_costs hs
  | 3 => cases hf; cases hc; exact blank_costs _ 32767 (by rw [area_count]; exact half_le hN) hs
  | 4 => cases hf; cases hc; exact write_costs _ _ hs
  | 5 => cases hf; cases hc; exact flush_costs hs
  | k + 6 => simp [formatSteps] at hf
theorem info_zeros : (Try.prog.info? 78).map (·.zero) = some (some (.agg ns0.toArray)) := by kernel_rfl
def fmtFns (g bd bz : Nat) : List FnV := [⟨41, #[], #[.pointer (some ⟨bd, 0, none⟩), .pointer (some ⟨bz, 0, none⟩)]⟩, ⟨43, #[], #[.pointer (some ⟨bd, 0, none⟩), .pointer (some ⟨bz, 0, none⟩)]⟩, ⟨31, #[.pointer (some ⟨g, 0, none⟩)], #[]⟩, ⟨44, #[], #[.pointer (some ⟨bd, 0, none⟩)]⟩, ⟨46, #[], #[.pointer (some ⟨bd, 0, none⟩)]⟩, ⟨31, #[.pointer (some ⟨g, 0, none⟩)], #[]⟩]
section
variable (base g : Nat) (F : List Nat) (s : DS)
theorem fmt_do (w : World) (bd bz br : Nat) (h : DevB w base F g s) (hbase : base ≤ w.heap.size) (hfz : Fused s) (hlo : s.loose.length ≤ 500000) (hn : 8 ≤ s.n)
    (hd : Blk w bd 22 #[.pointer (some ⟨g, 0, none⟩)]) (hbd : bd ∉ F) (hz : Blk w bz 78 (bcs zeros64).toArray) (hbz : bz ∉ F) (hr : Blk w br 66 ((fmtFns g bd bz).map fnV).toArray) (hbr : br ∉ F) :
    Calls Try.prog 40 #[.slice (some ⟨br, 0, none⟩) 6 6] w fun e w' => e = .returned (.int .i64 ((chainR (formatSteps s.n) s).2 : Int)) ∧ DevAt w base F g (chainR (formatSteps s.n) s).1 w' := by
  have hnb := h.ok.nb
  refine do_calls (fun s' W => DevAt w base F g s' W) (formatSteps s.n) (fmtFns g bd bz) br 6 6 s w rfl rfl (by omega) (DevAt.start h (Below.refl _ _)) (fun s' W hI k v hv => ?_) (fun k f v s' hf hv hq => ?_)
  · exact (hr.chg hI.chg hbr).cell k (by simpa [List.getElem?_map] using ⟨v, hv, rfl⟩)
  · obtain ⟨p1, p2, p3⟩ := chain_part (fun s : DS => s) (formatSteps s.n) fmtCosts rfl (fmt_costs s.n hnb) s s' k hfz hq
    have hsum : fmtCosts.sum = 32770 := rfl
    rw [hsum] at p3
    have hfo : fuseOK s' := ⟨p1, by omega⟩
    have key : ∀ W, DevAt w base F g s' W → ∃ F', DevB W base F' g s' ∧ Chg F w W ∧ (∀ b ∈ F', b ∈ F ∨ w.heap.size ≤ b) ∧ bd ∉ F' ∧ bz ∉ F' ∧ base ≤ W.heap.size := fun W hI => by
      obtain ⟨F', k1, k2, k3⟩ := hI
      exact ⟨F', k1, k2, k3, fun hm => (k3 bd hm).elim hbd (fun hh => by have := hd.lt; omega), fun hm => (k3 bz hm).elim hbz (fun hh => by have := hz.lt; omega), Nat.le_trans hbase k2.size⟩
    match k with
    | 0 =>
      cases hf; cases hv
      refine ⟨enters_of Try.func41 (by kernel_rfl) rfl, fun W hI => ?_⟩
      obtain ⟨F', k1, k2, k3, k4, k5, k6⟩ := key W hI
      exact (fmt1_calls base g bd F' s' W bz k1 k6 hfo ((hd.chg k2 hbd).cell 0 rfl) k4 (hz.chg k2 hbz) k5).mono fun e w' ⟨he, hp⟩ => ⟨he, DevAt.next k2 k3 hp⟩
    | 1 =>
      cases hf; cases hv
      refine ⟨enters_of Try.func43 (by kernel_rfl) rfl, fun W hI => ?_⟩
      obtain ⟨F', k1, k2, k3, k4, k5, k6⟩ := key W hI
      exact (fmt2_calls base g bd F' s' W bz k1 k6 hfo ((hd.chg k2 hbd).cell 0 rfl) k4 (hz.chg k2 hbz) k5).mono fun e w' ⟨he, hp⟩ => ⟨he, DevAt.next k2 k3 hp⟩
    | 2 =>
      cases hf; cases hv
      refine ⟨enters_of Try.func31 (by kernel_rfl) rfl, fun W hI => ?_⟩
      obtain ⟨F', k1, k2, k3, k4, k5, k6⟩ := key W hI
      exact (dFlush_calls base g F' s' W k1 hfo.1 hfo.2).mono fun e w' hp => ⟨(DevAt.of_post hp).1, DevAt.next k2 k3 (DevAt.of_post hp).2⟩
    | 3 =>
      cases hf; cases hv
      refine ⟨enters_of Try.func44 (by kernel_rfl) rfl, fun W hI => ?_⟩
      obtain ⟨F', k1, k2, k3, k4, k5, k6⟩ := key W hI
      have h3 := fmt3_calls base g bd F' s' W k1 k6 hfo (by omega) (by have : s'.n = s.n := p2; omega) ((hd.chg k2 hbd).cell 0 rfl) k4
      rw [show s'.n = s.n from p2] at h3
      exact h3.mono fun e w' ⟨he, hp⟩ => ⟨he, DevAt.next k2 k3 hp⟩
    | 4 =>
      cases hf; cases hv
      refine ⟨enters_of Try.func46 (by kernel_rfl) rfl, fun W hI => ?_⟩
      obtain ⟨F', k1, k2, k3, k4, k5, k6⟩ := key W hI
      exact (fmt4_calls base g bd F' s' W k1 k6 hfo ((hd.chg k2 hbd).cell 0 rfl)).mono fun e w' ⟨he, hp⟩ => ⟨he, DevAt.next k2 k3 hp⟩
    | 5 =>
      cases hf; cases hv
      refine ⟨enters_of Try.func31 (by kernel_rfl) rfl, fun W hI => ?_⟩
      obtain ⟨F', k1, k2, k3, k4, k5, k6⟩ := key W hI
      exact (dFlush_calls base g F' s' W k1 hfo.1 hfo.2).mono fun e w' hp => ⟨(DevAt.of_post hp).1, DevAt.next k2 k3 (DevAt.of_post hp).2⟩
    | k + 6 => simp [formatSteps] at hf
set_option maxRecDepth 20000 in
set_option maxHeartbeats 2000000 in
theorem format_calls (w : World) (h : DevB w base F g s) (hbase : base ≤ w.heap.size) (hfz : Fused s) (hlo : s.loose.length ≤ 500000) :
    Calls Try.prog 17 #[.pointer (some ⟨g, 0, none⟩)] w fun e w' => e = .returned (.int .i64 ((formatR s).2 : Int)) ∧ DevAt w base F g (formatR s).1 w' := by
  have HFL := hid (fun b (hb : b ∈ F) => (h.lt b hb).2)
  have kb := Blk.new w 22 #[.pointer (some ⟨g, 0, none⟩)]
  have bb := below_new w (.cells #[.pointer (some ⟨g, 0, none⟩)] 22)
  have HC := hid (check_calls_v base g F s _ (h.keep bb))
  have HH := hid h
  have c0 : (w.alloc (.cells #[.pointer (some ⟨g, 0, none⟩)] 22)).cell? ⟨w.heap.size, 0, none⟩ = some (.pointer (some ⟨g, 0, none⟩)) := kb.cell 0 rfl
  have KB0 := hid kb; have BB0 := hid bb
  clear h kb bb
  by_cases hck : checkV s = 0
  · have HE := hid (show formatR s = chainR (formatSteps s.n) s from if_pos hck)
    have hn := check_ge hck
    rw [hck] at HC
    generalize formatR s = R at HE ⊢
    clear hck
    go_enter Try.func17, Try.ntmps17
    go_wp2_with fail
    refine HC.out.mono ?_
    rintro _ w1 ⟨rfl, hb1⟩
    have HB1 := hid (BB0.out.trans (hb1.mono BB0.out.size)); have KB1 := hid (KB0.out.keep hb1)
    rw [show ((0 : Nat) : Int) = 0 from rfl]
    clear c0 hb1 HC KB0 BB0
    have c0 : w1.cell? ⟨w.heap.size, 0, none⟩ = some (.pointer (some ⟨g, 0, none⟩)) := KB1.out.cell 0 rfl
    have c1 : (w1.alloc (.cells ns0.toArray 78)).cell? ⟨w.heap.size, 0, none⟩ = some (.pointer (some ⟨g, 0, none⟩)) := (KB1.out.alloc _).cell 0 rfl
    go_wp2_with (refine wpList_alloc_blk rfl 78 rfl _ info_zeros ?_)
    obtain ⟨W, hW, kz, kr, hB⟩ := two_new w1 ns0.toArray ((fmtFns g w.heap.size w1.heap.size).map fnV).toArray 78 66
    have hbdl : w.heap.size < w1.heap.size := KB1.out.lt
    have hD := HH.out.keep (HB1.out.trans (hB.mono HB1.out.size))
    have hBW : Below w.heap.size w W := HB1.out.trans (hB.mono HB1.out.size)
    have HDO := hid (fmt_do base g F s W w.heap.size w1.heap.size (w1.heap.size + 1) hD (Nat.le_trans hbase hBW.size) hfz hlo hn (KB1.out.keep hB) (fun hm => by have := HFL.out _ hm; omega) (by rw [← ns0_bcs]; exact kz) (fun hm => by have := HFL.out _ hm; omega) kr (fun hm => by have := HFL.out _ hm; omega))
    have HBW := hid hBW
    rw [hW] at HDO HBW
    clear c0 c1 hW kz kr hB hD hBW
    have hdo : Calls Try.prog 40 #[.slice (some ⟨w1.heap.size + 1, 0, none⟩) 6 6] _ _ := HDO.out
    refine hdo.mono ?_
    rintro _ w2 ⟨rfl, hp⟩
    have HP := hid (DevAt.from_ HBW.out hp)
    clear hp HDO HBW hdo
    go_wp2_with fail
    go_ret
    exact ⟨by rw [HE.out]; rfl, by rw [HE.out]; exact HP.out⟩
  · have HE := hid (show formatR s = (s, checkV s) from if_neg hck)
    have hck' : ¬ ((checkV s : Nat) : Int) = 0 := by omega
    generalize formatR s = R at HE ⊢
    clear hck
    generalize checkV s = E at HC HE hck'
    go_enter Try.func17, Try.ntmps17
    go_wp2_with fail
    refine HC.out.mono ?_
    rintro _ w1 ⟨rfl, hb1⟩
    have HB1 := hid (BB0.out.trans (hb1.mono BB0.out.size))
    clear c0 hb1 HC KB0 BB0
    go_wp2_with fail
    go_ret
    exact ⟨by rw [HE.out]; rfl, by rw [HE.out]; exact DevAt.start HH.out HB1.out⟩
end
end Go.Proofs.Ytgldhmmfofnmiaa
/- A vault in memory, and contracts: what it asks of itself; lists that are read; copies of lists. -/
namespace Go.Proofs.Ytgldhmmfofnmiaa
open Go.RowKit

/-- the cells of a vault -/
def vcells (self : Value) (g : Nat) (a : AR) (rv : Value) (fin : Int) (br : Bool) : Array Value := #[self, .pointer (some ⟨g, 0, none⟩), .int .i64 a.a, .int .i64 a.b, .int .i64 a.g, rv, .int .i64 fin, .bool br]
def ptrV (v : Nat) : Value := .pointer (some ⟨v, 0, none⟩)
section
variable {w : World} {v g : Nat} {a : AR} {rv : Value} {fin : Int} {br : Bool}
theorem vvalid_calls (h : Blk w v 42 (vcells (ptrV v) g a rv fin br)) : Calls Try.prog 33 #[.pointer (some ⟨v, 0, none⟩)] w fun e w' => e = .returned (.bool true) ∧ w = w' := by
  have hsz : (Try.prog.info? 42).map (·.size) = some 8 := by kernel_rfl
  obtain ⟨j, hj, _⟩ := Option.map_eq_some_iff.1 hsz
  have he := fun W => run_eql_ptr_same (P := Try.prog) W (tp := 23) (te := 42) ⟨v, 0, none⟩ (by kernel_rfl) hj
  have c0 : w.cell? ⟨v, 0, none⟩ = some (.pointer (some ⟨v, 0, none⟩)) := h.cell 0 rfl
  clear h hj hsz
  go_enter Try.func33, Try.ntmps33
  go_wp2_with fail
  go_ret
  exact ⟨rfl, rfl⟩
theorem vstate_calls (h : Blk w v 42 (vcells (ptrV v) g a rv fin br)) : Calls Try.prog 26 #[.pointer (some ⟨v, 0, none⟩)] w fun e w' => e = .returned (.int .i64 (if br = true then 23 else 0)) ∧ w = w' := by
  have HV := hid (vvalid_calls h)
  have c7 : w.cell? ⟨v, 7, none⟩ = some (.bool br) := h.cell 7 rfl
  clear h
  cases br with
  | true =>
    go_enter Try.func26, Try.ntmps26
    go_wp2_with fail
    refine HV.out.mono ?_
    rintro _ _ ⟨rfl, rfl⟩
    go_wp2_with fail
    go_ret
    exact ⟨rfl, rfl⟩
  | false =>
    go_enter Try.func26, Try.ntmps26
    go_wp2_with fail
    refine HV.out.mono ?_
    rintro _ _ ⟨rfl, rfl⟩
    go_wp2_with fail
    go_ret
    exact ⟨rfl, rfl⟩
attribute [local irreducible] wpQuiet
set_option maxHeartbeats 1000000 in
theorem vfree_calls (h : Blk w v 42 (vcells (ptrV v) g a rv fin br)) (h1 : IntKind.i64.wrap (a.b - a.a) = a.b - a.a) (h2 : IntKind.i64.wrap (a.b - a.a - fin) = a.b - a.a - fin) : Calls Try.prog 28 #[.pointer (some ⟨v, 0, none⟩)] w fun e w' => e = .returned (.int .i64 (a.b - a.a - fin)) ∧ Below w.heap.size w w' := by
  obtain ⟨x, y, z⟩ := a
  dsimp only at h1 h2 ⊢
  have HS := hid (fun W => sectors_calls x y z W h1)
  have hk := h.drew
  clear h
  generalize hd : y - x = d at HS h2 ⊢
  clear hd h1
  go_enter Try.func28, Try.ntmps28
  go_wp2_with fail
  refine wp_region_class (fun w' => ((w'.cell? ⟨v, 2, none⟩ = some (.int .i64 x) ∧ w'.cell? ⟨v, 3, none⟩ = some (.int .i64 y) ∧ w'.cell? ⟨v, 4, none⟩ = some (.int .i64 z)) ∧ w'.cell? ⟨v, 6, none⟩ = some (.int .i64 fin)) ∧ Blk w' v 42 (vcells (ptrV v) g ⟨x, y, z⟩ rv fin br) ∧ Below w.heap.size w w') (by kernel_rfl) (by kernel_rfl) ⟨⟨⟨hk.cell 2 rfl, hk.cell 3 rfl, hk.cell 4 rfl⟩, hk.cell 6 rfl⟩, hk, (Below.refl _ _).drew⟩ ?_
  intro S _ at_ hS hin
  have HhS := hid hS; have Hin := hid hin
  have e0 := fun z => (hS z).1.1.1
  have e1 := fun z => (hS z).1.1.2.1
  have e2 := fun z => (hS z).1.1.2.2
  have e3 := fun z => (hS z).1.2
  clear hS hin hk
  (refine wpQuiet_step (fun K hK => ?_); go_simp; refine hK _ ?_; clear hK K)
  (refine wpQuiet_step (fun K hK => ?_); go_simp; refine hK _ ?_; clear hK K)
  (refine wpQuiet_step (fun K hK => ?_); go_simp; refine hK _ ?_; clear hK K)
  (refine wpQuiet_step (fun K hK => ?_); go_simp; refine hK _ ?_; clear hK K)
  (refine wpQuiet_step (fun K hK => ?_); (refine quiet_callK rfl 61 #[.agg #[.int .i64 x, .int .i64 y, .int .i64 z]] (fun w => by go_simp) (.int .i64 d) (fun q => (HS.out _).mono fun e w' ⟨he, hw⟩ => ⟨he, Hin.out w' ⟨⟨⟨((HhS.out q).2.1.keep hw).cell 2 rfl, ((HhS.out q).2.1.keep hw).cell 3 rfl, ((HhS.out q).2.1.keep hw).cell 4 rfl⟩, ((HhS.out q).2.1.keep hw).cell 6 rfl⟩, (HhS.out q).2.1.keep hw, (HhS.out q).2.2.trans (hw.mono (HhS.out q).2.2.size)⟩⟩) ?_); go_simp; refine hK _ ?_; clear hK K)
  (refine wpQuiet_step (fun K hK => ?_); go_simp; refine hK _ ?_; clear hK K)
  (refine wpQuiet_step (fun K hK => ?_); go_simp; refine hK _ ?_; clear hK K)
  (refine wpQuiet_step (fun K hK => ?_); go_simp; refine hK _ ?_; clear hK K)
  (refine wpQuiet_step (fun K hK => ?_); go_simp; refine hK _ ?_; clear hK K)
  (refine wpQuiet_step (fun K hK => ?_); go_simp; refine hK _ ?_; clear hK K)
  (refine wpQuiet_step (fun K hK => ?_); go_simp; refine hK _ ?_; clear hK K)
  refine wpQuiet_nil ?_
  rintro w' ⟨-, -, hB⟩
  have HB := hid hB
  clear hB e0 e1 e2 e3 HhS Hin
  go_wp2_with fail
  go_ret
  exact ⟨rfl, HB.out⟩
theorem vGen_calls (h : Blk w v 42 (vcells (ptrV v) g a rv fin br)) : Calls Try.prog 11 #[.pointer (some ⟨v, 0, none⟩)] w fun e w' => e = .returned (.int .i64 a.g) ∧ w = w' := by
  have HV := hid (vvalid_calls h)
  have c4 : w.cell? ⟨v, 4, none⟩ = some (.int .i64 a.g) := h.cell 4 rfl
  clear h
  generalize a.g = z at c4 ⊢
  go_enter Try.func11, Try.ntmps11
  go_wp2_with fail
  refine HV.out.mono ?_
  rintro _ _ ⟨rfl, rfl⟩
  go_wp2_with fail
  go_ret
  exact ⟨rfl, rfl⟩
theorem vFree_calls (h : Blk w v 42 (vcells (ptrV v) g a rv fin br)) (h1 : IntKind.i64.wrap (a.b - a.a) = a.b - a.a) (h2 : IntKind.i64.wrap (a.b - a.a - fin) = a.b - a.a - fin) : Calls Try.prog 16 #[.pointer (some ⟨v, 0, none⟩)] w fun e w' => e = .returned (.int .i64 (a.b - a.a - fin)) ∧ Below w.heap.size w w' := by
  have HV := hid (vvalid_calls h)
  have HF := hid (vfree_calls h h1 h2)
  clear h h1 h2
  generalize a.b - a.a - fin = d at HF ⊢
  go_enter Try.func16, Try.ntmps16
  go_wp2_with fail
  refine HV.out.mono ?_
  rintro _ _ ⟨rfl, rfl⟩
  go_wp2_with fail
  refine HF.out.mono ?_
  rintro _ w1 ⟨rfl, hb⟩
  have HB := hid hb
  clear hb
  go_wp2_with fail
  go_ret
  exact ⟨rfl, HB.out⟩
end
/-- a list of bytes that can be read, and has nothing of the blocks F -/
def LstB (w : World) (F : List Nat) (A : Option Addr) (l : List (List UInt8)) : Prop :=
  ∃ us : List Value, us.length = l.length ∧ (0 < l.length → ∃ b off, A = some ⟨b, off, none⟩ ∧ b < w.heap.size ∧ b ∉ F ∧ ∀ j u, us[j]? = some u → w.cell? ⟨b, off + j, none⟩ = some u) ∧
    ∀ (k : Nat) x u, l[k]? = some x → us[k]? = some u → ∃ A' c, u = .slice A' x.length c ∧ SB w w.heap.size A' x.length x ∧ x.length ≤ c ∧ ∀ b off, 0 < x.length → A' = some ⟨b, off, none⟩ → b ∉ F
theorem SB.grow {w : World} {B B' : Nat} {A : Option Addr} {n : Nat} {bs : List UInt8} (h : SB w B A n bs) (hB : B ≤ B') : SB w B' A n bs :=
  ⟨h.1, fun hn => by obtain ⟨b, off, e, hlt, hc⟩ := h.2 hn; exact ⟨b, off, e, Nat.lt_of_lt_of_le hlt hB, hc⟩⟩
theorem LstB.chg {w w' : World} {F F' : List Nat} {A : Option Addr} {l : List (List UInt8)} (h : LstB w F A l) (hc : Chg F w w') (hF : ∀ b ∈ F', b ∈ F ∨ w.heap.size ≤ b) : LstB w' F' A l := by
  obtain ⟨us, h1, h2, h3⟩ := h
  refine ⟨us, h1, fun hl => ?_, fun k x u hx hu => ?_⟩
  · obtain ⟨b, off, e, hlt, hn, hcs⟩ := h2 hl
    exact ⟨b, off, e, Nat.lt_of_lt_of_le hlt hc.size, fun hm => (hF b hm).elim hn (fun hh => by omega), fun j u hj => cell_chg (hcs j u hj) hc hn⟩
  · obtain ⟨A', c, e, hs, hle, hn⟩ := h3 k x u hx hu
    refine ⟨A', c, e, ⟨hs.1, fun hp => ?_⟩, hle, fun b off hp ea hm => (hF b hm).elim (hn b off hp ea) (fun hh => ?_)⟩
    · obtain ⟨b, off, ea, hlt, hcs⟩ := hs.2 hp
      exact ⟨b, off, ea, Nat.lt_of_lt_of_le hlt hc.size, fun j y hj => cell_chg (hcs j y hj) hc (hn b off hp ea)⟩
    · obtain ⟨b', off', ea', hlt, -⟩ := hs.2 hp
      rw [ea] at ea'; cases ea'
      omega
theorem LstB.at_ {w : World} {F : List Nat} {A : Option Addr} {l : List (List UInt8)} (h : LstB w F A l) {k : Nat} (hk : k < l.length) : ∃ b off A' c x, A = some ⟨b, off, none⟩ ∧ b < w.heap.size ∧ b ∉ F ∧ l[k]? = some x ∧ w.cell? ⟨b, off + k, none⟩ = some (.slice A' x.length c) ∧ SB w w.heap.size A' x.length x ∧ x.length ≤ c ∧ ∀ b off, 0 < x.length → A' = some ⟨b, off, none⟩ → b ∉ F := by
  obtain ⟨us, h1, h2, h3⟩ := h
  obtain ⟨b, off, e, hlt, hn, hc⟩ := h2 (by omega)
  obtain ⟨A', c, e2, hs, hle, hm⟩ := h3 k l[k] (us[k]'(by omega)) (List.getElem?_eq_getElem hk) (List.getElem?_eq_getElem (by omega))
  exact ⟨b, off, A', c, l[k], e, hlt, hn, List.getElem?_eq_getElem hk, by rw [← e2]; exact hc k _ (List.getElem?_eq_getElem (by omega)), hs, hle, hm⟩
theorem LstB.nil (w : World) (F : List Nat) (A : Option Addr) : LstB w F A [] := ⟨[], rfl, fun h => absurd h (by simp), fun k x u h => by simp at h⟩
end Go.Proofs.Ytgldhmmfofnmiaa
/- Contracts: what a vault asks of records: copies; why it cannot be moved to them; the step that writes one. -/
namespace Go.Proofs.Ytgldhmmfofnmiaa
open Go.RowKit

theorem vneedE {m : Nat} (h : m ≤ 1048576) : needE (m : Int) = needN m := by
  unfold needE
  rw [if_neg (by omega), Int.toNat_natCast]
theorem needN_le {m : Nat} (h : m ≤ 1048576) : needN m ≤ 21400 := by unfold needN; omega
theorem needAll_next {l : List (List UInt8)} {k : Nat} {x : List UInt8} (h : l[k]? = some x) : needAll (l.take (k + 1)) = needAll (l.take k) + needN x.length := by
  unfold needAll
  rw [List.take_add_one, h]
  simp
theorem needAll_le {l : List (List UInt8)} (h : ∀ x ∈ l, x.length ≤ 1048576) : needAll l ≤ 21400 * l.length := by
  induction l with
  | nil => simp [needAll]
  | cons x l ih =>
    have h1 := ih (fun y hy => h y (by simp [hy]))
    have h2 := needN_le (h x (by simp))
    unfold needAll at h1 ⊢
    simp only [List.map_cons, List.sum_cons, List.length_cons]
    omega
section
variable {w : World} {v g : Nat} {a : AR} {rv self : Value} {fin : Int} {br : Bool}
set_option maxHeartbeats 2000000 in
theorem moves_calls (n gen : Nat) (A : Option Addr) (c : Nat) (l : List (List UInt8)) (F : List Nat) (hn : n ≤ 65536) (h : Blk w v 42 (vcells self g (areaV n gen) rv fin br)) (hl : LstB w F A l) (hm : l.length ≤ 1000000) :
    Calls Try.prog 57 #[.pointer (some ⟨v, 0, none⟩), .slice A l.length c] w fun e w' => e = .returned (.int .i64 (movesE n gen l : Int)) ∧ Below w.heap.size w w' := by
  have hh := half_le hn
  have hf := from_le (gen := gen) hn
  have c2 : w.cell? ⟨v, 2, none⟩ = some (.int .i64 (fromN n gen : Int)) := h.cell 2 rfl
  have c3 : w.cell? ⟨v, 3, none⟩ = some (.int .i64 ((fromN n gen + halfN n : Nat) : Int)) := h.cell 3 rfl
  have c4 : w.cell? ⟨v, 4, none⟩ = some (.int .i64 (gen : Int)) := h.cell 4 rfl
  have HSE := hid (fun W => sectors_calls (fromN n gen : Int) ((fromN n gen + halfN n : Nat) : Int) (gen : Int) W (IntWalk.i64_in _ (by omega)))
  rw [show ((fromN n gen + halfN n : Nat) : Int) - (fromN n gen : Int) = (halfN n : Int) by omega] at HSE
  have HL := hid hl
  clear h hl
  by_cases hg : gen = 2147483647
  · have HE := hid (show movesE n gen l = 10 from if_pos hg)
    have hg' : (gen : Int) = 2147483647 := by omega
    generalize movesE n gen l = R at HE ⊢
    clear HSE hf
    generalize ((fromN n gen + halfN n : Nat) : Int) = X at c3
    generalize fromN n gen = Y at c2
    subst hg
    go_enter Try.func57, Try.ntmps57
    go_wp2_with fail
    go_ret
    exact ⟨by rw [HE.out]; rfl, Below.refl _ _⟩
  · have hg' : ¬ (gen : Int) = 2147483647 := by omega
    have HE := hid (show movesE n gen l = if (l.all fun r => decide (r.length ≤ 1048576)) = false then 4 else if halfN n < needAll l then 10 else 0 from if_neg hg)
    generalize movesE n gen l = R at HE ⊢
    generalize hX : ((fromN n gen + halfN n : Nat) : Int) = X at c3 HSE
    generalize fromN n gen = Y at c2 HSE hf
    generalize halfN n = H at HE HSE hh
    have hgb : ((gen : Int) == 2147483647) = false := by simpa using hg'
    clear hX hg
    go_enter Try.func57, Try.ntmps57
    go_wp2_with fail
    go_loopw [5, 7, 16] (fun v5 _ v16 wr => ∃ k : Nat, wr = w ∧ v16 = .int .i64 (k : Int) ∧ k ≤ l.length ∧ v5 = .int .i64 (needAll (l.take k) : Int) ∧ Hid (∀ x ∈ l.take k, x.length ≤ 1048576)) (fun _ _ v16 _ => l.length - (intOf v16).toNat)
    case atStart => exact ⟨0, rfl, rfl, Nat.zero_le _, rfl, hid (fun x hx => by simp at hx)⟩
    case round =>
      obtain ⟨k, rfl, rfl, hk, rfl, HA⟩ := hrel
      by_cases hlt : k < l.length
      · have hlt' : (k : Int) < (l.length : Int) := by omega
        obtain ⟨b, off, A', c', x, rfl, -, -, hx, hcx, -, -, -⟩ := HL.out.at_ hlt
        have hXn := needAll_next hx
        have hbn := needAll_le HA.out
        rw [List.length_take, Nat.min_eq_left hk] at hbn
        have HXN := hid hXn; have HX := hid hx
        clear hXn hx
        by_cases hbig : 1048576 < x.length
        · have hbig' : (1048576 : Int) < (x.length : Int) := by omega
          have HE2 := hid (show R = 4 from by
            rw [HE.out, if_pos]
            cases hq : (l.all fun r => decide (r.length ≤ 1048576))
            · rfl
            · have := List.all_eq_true.1 hq x (List.mem_of_getElem? HX.out)
              have := of_decide_eq_true this
              omega)
          clear HXN HX
          generalize x.length = m at hcx hbig hbig'
          go_wp2_with fail
          go_ret
          exact ⟨by rw [HE2.out]; rfl, Below.refl _ _⟩
        · have hbig' : ¬ (1048576 : Int) < (x.length : Int) := by omega
          have HND := hid (fun W => need_calls (x.length : Int) W)
          rw [vneedE (by omega)] at HND
          have hnn := needN_le (m := x.length) (by omega)
          have HA2 := hid (show ∀ y ∈ l.take (k + 1), y.length ≤ 1048576 from fun y hy => by
            rw [List.take_add_one, HX.out] at hy
            rcases List.mem_append.1 hy with hy | hy
            · exact HA.out y hy
            · have : y = x := by simpa using hy
              subst this; omega)
          obtain ⟨T2, hT2⟩ : ∃ T2, needAll (l.take (k + 1)) = T2 := ⟨_, rfl⟩
          have HT2 := hid hT2
          rw [hT2] at HXN
          clear hT2
          obtain ⟨T, hT⟩ : ∃ T, needAll (l.take k) = T := ⟨_, rfl⟩
          have HTT := hid hT
          rw [hT] at HXN hbn ⊢
          generalize needN x.length = nd at HXN HND hnn
          have hsum : IntKind.i64.wrap ((T : Int) + (nd : Int)) = (T2 : Int) := by have := HXN.out; rw [IntWalk.i64_in _ (by omega)]; omega
          clear hT HX
          generalize x.length = m at hcx hbig hbig' HND
          go_wp2_with fail
          refine (HND.out _).mono ?_
          rintro _ _ ⟨rfl, rfl⟩
          go_wp2_with fail
          go_roundw
          case rel => exact ⟨k + 1, trivial, by go_num, by omega, val_int (by rw [HT2.out]), HA2⟩
          case measure => simp [intOf]; omega
      · obtain rfl : k = l.length := by omega
        have HEA := hid (show R = if H < needAll l then 10 else 0 from by
          rw [HE.out, if_neg]
          have : (l.all fun r => decide (r.length ≤ 1048576)) = true := List.all_eq_true.2 (fun x hx => decide_eq_true (HA.out x (by rw [List.take_length]; exact hx)))
          rw [this]; simp)
        rw [List.take_length]
        generalize needAll l = T at HEA ⊢
        by_cases hTH : H < T
        · have hTH' : (H : Int) < (T : Int) := by omega
          have HE3 := hid (show R = 10 from by rw [HEA.out, if_pos hTH])
          go_wp2_with fail
          refine (HSE.out _).mono ?_
          rintro _ w1 ⟨rfl, hb⟩
          have HB := hid hb
          clear hb
          go_wp2_with fail
          go_ret
          exact ⟨by rw [HE3.out]; rfl, HB.out⟩
        · have hTH' : ¬ (H : Int) < (T : Int) := by omega
          have HE3 := hid (show R = 0 from by rw [HEA.out, if_neg hTH])
          go_wp2_with fail
          refine (HSE.out _).mono ?_
          rintro _ w1 ⟨rfl, hb⟩
          have HB := hid hb
          clear hb
          go_wp2_with fail
          go_ret
          exact ⟨by rw [HE3.out]; rfl, HB.out⟩
end
end Go.Proofs.Ytgldhmmfofnmiaa
/- Contracts: copies of records; a list of closures that write. -/
namespace Go.Proofs.Ytgldhmmfofnmiaa
open Go.RowKit

theorem make_rows (n : Nat) (hn : n ≤ 1000000) (W : World) : (Instr.makeSlice 31 (.int .i64 0) (.int .i64 (n : Int))).run Try.prog W = .ok (.slice (some ⟨W.heap.size, 0, none⟩) 0 n) (W.alloc (.cells (madeCells (Value.slice none 0 0).cells n) 38)) := by
  obtain ⟨i, hi, hz, hs, hb⟩ := info_parts info_row
  have := run_make (P := Try.prog) W 31 38 i _ (by kernel_rfl) hi hz .i64 .i64 0 (n : Int) (by omega) (by omega) (by rw [hb]; omega) (by omega)
  rw [this, Int.toNat_natCast, hs, Nat.mul_one]
  rfl
theorem size_made (n : Nat) : (madeCells (Value.slice none 0 0).cells n).size = n := by simp [madeCells]
set_option maxRecDepth 20000 in
set_option maxHeartbeats 2000000 in
theorem clones_calls (A : Option Addr) (c : Nat) (l : List (List UInt8)) (F : List Nat) (w : World) (hl : LstB w F A l) (hm : l.length ≤ 1000000) (hx : ∀ x ∈ l, x.length ≤ 1048576) :
    Calls Try.prog 39 #[.slice A l.length c] w fun e w' => ∃ v us, e = .returned v ∧ Recs w' w.heap.size v l us ∧ Below w.heap.size w w' := by
  have hq := make_rows l.length hm
  have HL := hid (fun W (hb : Below w.heap.size w W) => (hl.chg (F' := F) (Chg.of_below (L := F) hb) (fun b h => .inl h)))
  have HX := hid hx
  have hsz := size_made l.length
  have hbn := below_new w (.cells (madeCells (Value.slice none 0 0).cells l.length) 38)
  have kn := Blk.new w 38 (madeCells (Value.slice none 0 0).cells l.length)
  generalize hcs : madeCells (Value.slice none 0 0).cells l.length = cs at hq hsz hbn kn
  have HR0 := hid (show Recs (w.alloc (.cells cs 38)) w.heap.size (.slice (some ⟨w.heap.size, 0, none⟩) 0 l.length) [] [] from
    ⟨⟨rfl, .inr ⟨w.heap.size, l.length, cs, rfl, Nat.le_refl _, kn, Nat.zero_le _, by simp [maxLen]; omega, by omega, by simp⟩⟩, fun k x u h => by simp at h, fun u hu => by cases hu⟩)
  have HB0 := hid hbn
  clear hl hx hsz hbn kn hcs
  go_enter Try.func39, Try.ntmps39
  go_wp2_with fail
  clear hq
  generalize w.alloc (.cells cs 38) = w0 at HR0 HB0 ⊢
  go_loopw [3, 5, 11] (fun v3 _ v11 wr => ∃ (k : Nat) (us : List Value), v11 = .int .i64 (k : Int) ∧ k ≤ l.length ∧ Hid (Recs wr w.heap.size v3 (l.take k) us) ∧ Hid (Below w.heap.size w wr)) (fun _ _ v11 _ => l.length - (intOf v11).toNat)
  case atStart => exact ⟨0, [], rfl, Nat.zero_le _, HR0, HB0⟩
  case round =>
    clear HR0 HB0
    obtain ⟨k, us, rfl, hk, HR, HB⟩ := hrel
    by_cases hlt : k < l.length
    · have hlt' : (k : Int) < (l.length : Int) := by omega
      obtain ⟨b, off, A', c', x, hA, -, -, hxk, hcx, hsx, hle, -⟩ := (HL.out wr HB.out).at_ hlt
      subst hA
      have hxl := HX.out x (List.mem_of_getElem? hxk)
      have HCL := hid (clone_calls _ x.length c' A' x wr hsx (by omega))
      have HT := hid (show l.take (k + 1) = l.take k ++ [x] from by rw [List.take_add_one, hxk]; rfl)
      have hlen : (l.take k).length = k := by simp; omega
      clear hsx hxk
      go_wp2_with fail
      refine HCL.out.mono ?_
      rintro _ w1 ⟨u, rfl, ho, hb⟩
      obtain ⟨Au, cu, hu, -, -, -⟩ := ho.sb
      subst hu
      have HO1 := hid ho; have HR1 := hid (HR.out.keep hb); have HB1 := hid (HB.out.trans (hb.mono HB.out.size))
      have HF1 := hid (show farOf u3 us (Value.slice Au x.length cu).ownBlock from fun b' e => by
        have h1 := (ho.block b' e).1
        exact ⟨fun e2 => by have := (HR.out.lt b' (.inl e2)).2; omega, fun z hz e2 => by have := (HR.out.lt b' (.inr ⟨z, hz, e2⟩)).2; omega⟩)
      have HWR := hid (show w.heap.size ≤ wr.heap.size from HB.out.size)
      clear ho hb HCL HR HB hcx
      go_wp2_with (at_builtin; refine Held.go ?_)
      have hbn := below_new w1 (.cells #[Value.slice Au x.length cu] 38)
      have hone := cell_one_new w1 (Value.slice Au x.length cu) 38
      generalize w1.alloc (.cells #[Value.slice Au x.length cu] 38) = w2 at hbn hone ⊢
      have HO2 := hid (HO1.out.keep hbn); have HR2 := hid (HR1.out.keep hbn); have HB2 := hid (HB1.out.trans (hbn.mono HB1.out.size))
      obtain ⟨i0, hi, hz0, hz1, hz2⟩ := info_parts info_row
      refine wpList_append_own_at w2 rfl _ _ 31 rfl w.heap.size 38 i0 _ 1 24 Try.underlying31 hi hz0 hz1 hz2 rfl (by omega) u3 (l.take k).length us rfl HR2.out.row ⟨w1.heap.size, 0, none⟩ 1 1 [Value.slice Au x.length cu] rfl rfl hone (by simp [Value.oneCell']) (by simp [maxLen]; omega) (by omega) HB2.out.size ?_
      intro v8 w8 h8 hg8 _ hm8
      have HR8 := hid (HR2.out.push (HO2.out.lower HWR.out) HF1.out h8 hg8 (hm8.imp id (fun h => ⟨_, h, Nat.le_refl _⟩)))
      have HB8 := hid (HB2.out.trans (below_of_grown hg8 HB2.out.size (fun b e => (HR2.out.lt b (.inl e)).1)))
      rw [← HT.out] at HR8
      clear h8 hg8 hm8 hone hbn hi hz0 hz1 hz2 HO1 HR1 HB1 HO2 HR2 HB2 HF1
      go_wp2_with fail
      go_roundw
      case rel => exact ⟨k + 1, _, by go_num, by omega, HR8, HB8⟩
      case measure => simp [intOf]; omega
    · obtain rfl : k = l.length := by omega
      have HR2 := hid (show Recs wr w.heap.size u3 l us from by have h := HR.out; rw [List.take_length] at h; exact h)
      go_wp2_with fail
      go_ret
      exact ⟨_, us, rfl, HR2.out, HB.out⟩
end Go.Proofs.Ytgldhmmfofnmiaa
