/- Contracts of package blob: a store that nobody made. Written by tools/mkbl.py. -/
import Derived.Test.YtoogaapjdlhpbaaDoorBlIDs
namespace Go.Proofs.YtoogaapjdlhpbaaDoor
open Go.RowKit Crc

def hasNoneVal (h : Value) : Nat → Unit → Value
  | 0, _ => h
  | 1, _ => .bool false
  | 2, _ => .bool false
  | 3, _ => undef
  | 4, _ => undef
  | 5, _ => undef
  | 6, _ => undef
  | 7, _ => undef
  | 8, _ => undef
  | 9, _ => undef
  | 10, _ => .bool false
  | 11, _ => .bool false
  | _, _ => undef
section
variable {h : Value} {w : World}
set_option maxRecDepth 20000 in
set_option maxHeartbeats 1000000 in
theorem hasNone_calls (hn : NoObj w h) (id : List UInt8) : Calls Tryd.prog 42 #[h, .agg (bcells id)] w fun e w' => e = .returned (.bool false) ∧ Below w.heap.size w w' := by
  have bb := below_new w (.cells (bcells id) 32)
  have HN := hid (hn.keep bb); have HB := hid bb
  clear hn bb
  go_enter Tryd.func42, Tryd.ntmps42
  go_wp2_with fail
  generalize w.alloc (.cells (bcells id) 32) = w1 at HN HB ⊢
  generalize hq : w.heap.size = q at ⊢
  have HV := hid (fun W (hb : Below w1.heap.size w1 W) => bvalid_none h W (HN.out.keep hb))
  refine wp_region_invG 16 () (hasNoneVal h) (fun _ _ W => Below w1.heap.size w1 W) (by kernel_rfl) (by kernel_rfl) (by exact Nat.le_refl 16) ?_ ?_ ?_
  · exact (Below.refl _ _).drew
  · intro i o f gh a W hi hf hdep hsame hcl hval hS
    rcases i with _ | _ | _ | _ | _ | _ | _ | _ | _ | _ | _ | _ | i
    all_goals simp only [List.getElem?_cons_succ, List.getElem?_cons_zero, List.getElem?_nil, Option.some.injEq, reduceCtorEq] at hi
    all_goals subst hi
    · have E0 : a.tmps[0]? = some (h) := (same_of hsame 0 (by rfl)).trans rfl
      refine g_plain rfl ?_
      exact does_value (w' := W) (v := h) (by go_simp) ⟨(), .inr rfl, hS⟩
    · have E5 := hval 0 _ 5 rfl rfl (dep_of hdep 0 (by rfl))
      unfold hasNoneVal at E5
      refine g_plain rfl ?_
      refine does_call 45 #[h] (by go_simp) ((HV.out W hS).mono ?_)
      rintro _ _ ⟨rfl, rfl⟩
      exact ⟨_, rfl, (), .inr rfl, hS⟩
    · have E6 := hval 1 _ 6 rfl rfl (dep_of hdep 1 (by rfl))
      unfold hasNoneVal at E6
      refine g_plain rfl ?_
      exact does_value (w' := W) (v := .bool false) (by go_simp) ⟨(), .inr rfl, hS⟩
    · have EG := hval 2 _ 7 rfl rfl (dep_of hdep 2 (by rfl))
      unfold hasNoneVal at EG
      exact g_skip rfl rfl rfl EG rfl ⟨(), .inr rfl, hS⟩
    · have EG := hval 2 _ 7 rfl rfl (dep_of hdep 2 (by rfl))
      unfold hasNoneVal at EG
      exact g_skip rfl rfl rfl EG rfl ⟨(), .inr rfl, hS⟩
    · have EG := hval 2 _ 7 rfl rfl (dep_of hdep 2 (by rfl))
      unfold hasNoneVal at EG
      exact g_skip rfl rfl rfl EG rfl ⟨(), .inr rfl, hS⟩
    · have EG := hval 2 _ 7 rfl rfl (dep_of hdep 2 (by rfl))
      unfold hasNoneVal at EG
      exact g_skip rfl rfl rfl EG rfl ⟨(), .inr rfl, hS⟩
    · have EG := hval 2 _ 7 rfl rfl (dep_of hdep 2 (by rfl))
      unfold hasNoneVal at EG
      exact g_skip rfl rfl rfl EG rfl ⟨(), .inr rfl, hS⟩
    · have EG := hval 2 _ 7 rfl rfl (dep_of hdep 2 (by rfl))
      unfold hasNoneVal at EG
      exact g_skip rfl rfl rfl EG rfl ⟨(), .inr rfl, hS⟩
    · have EG := hval 2 _ 7 rfl rfl (dep_of hdep 2 (by rfl))
      unfold hasNoneVal at EG
      exact g_skip rfl rfl rfl EG rfl ⟨(), .inr rfl, hS⟩
    · have E7 := hval 2 _ 7 rfl rfl (dep_of hdep 2 (by rfl))
      unfold hasNoneVal at E7
      refine g_plain rfl ?_
      exact does_value (w' := W) (v := .bool false) (by go_simp) ⟨(), .inr rfl, hS⟩
    · have E15 := hval 10 _ 15 rfl rfl (dep_of hdep 10 (by rfl))
      unfold hasNoneVal at E15
      refine g_plain rfl ?_
      exact does_value (w' := W) (v := .bool false) (by go_simp) ⟨(), .inr rfl, hS⟩
  · intro gh W hS
    have HB2 := hid (HB.out.trans (hS.mono HB.out.size))
    simp only [putAll, hasNoneVal, Nat.reduceAdd, Nat.zero_add, Act.put, List.setIfInBounds_toArray, List.set_cons_zero, List.set_cons_succ]
    clear hS HV HN HB
    go_wp2_with fail
    go_ret
    exact ⟨rfl, hq ▸ HB2.out⟩
theorem refNone_do (hn : NoObj w h) (p0 p1 p2 br : Nat) (h0 : w.cell? ⟨p0, 0, none⟩ = some h) (hr : Blk w br 96 ((refFns p0 p1 p2).map fnV).toArray) :
    Calls Tryd.prog 55 #[.slice (some ⟨br, 0, none⟩) 5 5] w fun e w' => e = .returned (.int .i64 1) ∧ Below w.heap.size w w' := by
  refine first_calls [1, 0, 0, 0, 0] (refFns p0 p1 p2) br 5 5 w rfl rfl (by omega) (fun j v hv => hr.cell j (by simpa [List.getElem?_map] using ⟨v, hv, rfl⟩)) (fun j e v he hv hj => ?_)
  match j with
  | 0 =>
    cases he; cases hv
    exact ⟨enters_of Tryd.func56 (by kernel_rfl) rfl, fun W hW => Calls.mono (cl1_calls false h p0 W (bvalid_none h W (hn.keep hW)) (cell_keep h0 hW)) fun _ _ h => ⟨h.1, hW.trans (h.2.mono hW.size)⟩⟩
  | j + 1 => exact absurd (hj 0 (by omega)) (by simp)
set_option maxRecDepth 20000 in
set_option maxHeartbeats 1000000 in
theorem refNone_calls (a : Option Addr) (hn : NoObj w (.pointer a)) (id : List UInt8) (A : Option Addr) (n c : Nat) :
    Calls Tryd.prog 41 #[.pointer a, .agg (bcells id), .slice A n c] w fun e w' => e = .returned (.int .i64 1) ∧ Below w.heap.size w w' := by
  obtain ⟨W, hW, k0, k1, k2, kr, hB⟩ : ∃ W, ((((w.alloc (.cells #[.pointer a] 23)).alloc (.cells (bcells id) 32)).alloc (.cells #[.slice A n c] 33)).alloc (.cells ((refFns w.heap.size (w.heap.size + 1) (w.heap.size + 1 + 1)).map fnV).toArray 96)) = W ∧
      Blk W w.heap.size 23 #[.pointer a] ∧ Blk W (w.heap.size + 1) 32 (bcells id) ∧ Blk W (w.heap.size + 1 + 1) 33 #[.slice A n c] ∧ Blk W (w.heap.size + 1 + 1 + 1) 96 ((refFns w.heap.size (w.heap.size + 1) (w.heap.size + 1 + 1)).map fnV).toArray ∧ Below w.heap.size w W := by
    have a1 := Blk.new w 23 #[.pointer a]
    have z1 := size_new w (.cells #[.pointer a] 23)
    have q1 := below_new w (.cells #[.pointer a] 23)
    generalize w.alloc (.cells #[.pointer a] 23) = w1 at a1 z1 q1 ⊢
    have a2 := Blk.new w1 32 (bcells id)
    have z2 := size_new w1 (.cells (bcells id) 32)
    have q2 := below_new w1 (.cells (bcells id) 32)
    rw [z1] at a2
    generalize w1.alloc (.cells (bcells id) 32) = w2 at a2 z2 q2 ⊢
    have a3 := Blk.new w2 33 #[.slice A n c]
    have z3 := size_new w2 (.cells #[.slice A n c] 33)
    have q3 := below_new w2 (.cells #[.slice A n c] 33)
    rw [z2, z1] at a3
    generalize w2.alloc (.cells #[.slice A n c] 33) = w3 at a3 z3 q3 ⊢
    have a4 := Blk.new w3 96 ((refFns w.heap.size (w.heap.size + 1) (w.heap.size + 1 + 1)).map fnV).toArray
    have q4 := below_new w3 (.cells ((refFns w.heap.size (w.heap.size + 1) (w.heap.size + 1 + 1)).map fnV).toArray 96)
    rw [z3, z2, z1] at a4
    have b2 := q1.trans (q2.mono q1.size)
    have b3 := b2.trans (q3.mono b2.size)
    exact ⟨_, rfl, ((a1.keep q2).keep q3).keep q4, (a2.keep q3).keep q4, a3.keep q4, a4, b3.trans (q4.mono b3.size)⟩
  have HDO := hid (refNone_do (hn.keep hB) w.heap.size (w.heap.size + 1) (w.heap.size + 1 + 1) (w.heap.size + 1 + 1 + 1) (k0.cell 0 rfl) kr)
  have HB := hid hB
  rw [← hW] at HDO HB
  clear hW k0 k1 k2 kr hB hn
  go_enter Tryd.func41, Tryd.ntmps41
  go_wp2_with fail
  have hdo : Calls Tryd.prog 55 #[.slice (some ⟨w.heap.size + 1 + 1 + 1, 0, none⟩) 5 5] _ _ := HDO.out
  refine hdo.mono ?_
  rintro _ w2 ⟨rfl, hp⟩
  have HP := hid (HB.out.trans (hp.mono HB.out.size))
  clear hp HDO HB hdo
  go_wp2_with fail
  go_ret
  exact ⟨rfl, HP.out⟩
set_option maxRecDepth 20000 in
set_option maxHeartbeats 1000000 in
theorem putNone_calls (a : Option Addr) (hn : NoObj w (.pointer a)) (id : List UInt8) (hl : id.length = 32) (A : Option Addr) (n c : Nat) :
    Calls Tryd.prog 13 #[.pointer a, .agg (bcells id), .slice A n c] w fun e w' => e = .returned (.tuple #[.bool false, .int .i64 1]) ∧ Below w.heap.size w w' := by
  have HK0 := hid (Blk.new w 32 (bcells id))
  have bb := below_new w (.cells (bcells id) 32)
  have HSZ := hid (show (Tryd.prog.info? 32).map (·.size) = some (bcells id).size from by rw [bcells_size, hl]; kernel_rfl)
  have HBB := hid bb
  have HR := hid (refNone_calls a (hn.keep bb) id A n c)
  clear hn bb
  go_enter Tryd.func13, Tryd.ntmps13
  go_wp2_with (refine wpList_load_blk rfl 32 _ rfl w.heap.size rfl 32 _ HK0.out _ _ Tryd.underlying32 HSZ.out ?_)
  generalize w.alloc (.cells (bcells id) 32) = w1 at HK0 HBB HR ⊢
  refine HR.out.mono ?_
  rintro _ w2 ⟨rfl, b2⟩
  have HB2 := hid (HBB.out.trans (b2.mono HBB.out.size))
  clear b2 HK0 HBB HR
  go_wp2_with fail
  go_ret2
  exact ⟨rfl, HB2.out⟩
set_option maxRecDepth 20000 in
theorem getNone_calls (hn : NoObj w h) (id : List UInt8) (hl : id.length = 32) :
    Calls Tryd.prog 29 #[h, .agg (bcells id)] w fun e w' => e = .returned (.tuple #[.slice none 0 0, .bool false]) ∧ Below w.heap.size w w' := by
  have HK0 := hid (Blk.new w 32 (bcells id))
  have bb := below_new w (.cells (bcells id) 32)
  have HSZ := hid (show (Tryd.prog.info? 32).map (·.size) = some (bcells id).size from by rw [bcells_size, hl]; kernel_rfl)
  have HBB := hid bb
  have HR := hid (hasNone_calls (hn.keep bb) id)
  clear hn bb
  go_enter Tryd.func29, Tryd.ntmps29
  go_wp2_with (refine wpList_load_blk rfl 32 _ rfl w.heap.size rfl 32 _ HK0.out _ _ Tryd.underlying32 HSZ.out ?_)
  generalize w.alloc (.cells (bcells id) 32) = w1 at HK0 HBB HR ⊢
  refine HR.out.mono ?_
  rintro _ w2 ⟨rfl, b2⟩
  have HB2 := hid (HBB.out.trans (b2.mono HBB.out.size))
  clear b2 HK0 HBB HR
  go_wp2_with fail
  go_ret2
  exact ⟨rfl, HB2.out⟩
set_option maxRecDepth 20000 in
theorem sizeNone_calls (hn : NoObj w h) (id : List UInt8) (hl : id.length = 32) :
    Calls Tryd.prog 30 #[h, .agg (bcells id)] w fun e w' => e = .returned (.tuple #[.int .i64 0, .bool false]) ∧ Below w.heap.size w w' := by
  have HK0 := hid (Blk.new w 32 (bcells id))
  have bb := below_new w (.cells (bcells id) 32)
  have HSZ := hid (show (Tryd.prog.info? 32).map (·.size) = some (bcells id).size from by rw [bcells_size, hl]; kernel_rfl)
  have HBB := hid bb
  have HR := hid (hasNone_calls (hn.keep bb) id)
  clear hn bb
  go_enter Tryd.func30, Tryd.ntmps30
  go_wp2_with (refine wpList_load_blk rfl 32 _ rfl w.heap.size rfl 32 _ HK0.out _ _ Tryd.underlying32 HSZ.out ?_)
  generalize w.alloc (.cells (bcells id) 32) = w1 at HK0 HBB HR ⊢
  refine HR.out.mono ?_
  rintro _ w2 ⟨rfl, b2⟩
  have HB2 := hid (HBB.out.trans (b2.mono HBB.out.size))
  clear b2 HK0 HBB HR
  go_wp2_with fail
  go_ret2
  exact ⟨rfl, HB2.out⟩
set_option maxRecDepth 20000 in
theorem dropNone_calls (hn : NoObj w h) (id : List UInt8) (hl : id.length = 32) :
    Calls Tryd.prog 17 #[h, .agg (bcells id)] w fun e w' => e = .returned (.bool false) ∧ Below w.heap.size w w' := by
  have HK0 := hid (Blk.new w 32 (bcells id))
  have bb := below_new w (.cells (bcells id) 32)
  have HSZ := hid (show (Tryd.prog.info? 32).map (·.size) = some (bcells id).size from by rw [bcells_size, hl]; kernel_rfl)
  have HBB := hid bb
  have HR := hid (hasNone_calls (hn.keep bb) id)
  clear hn bb
  go_enter Tryd.func17, Tryd.ntmps17
  go_wp2_with (refine wpList_load_blk rfl 32 _ rfl w.heap.size rfl 32 _ HK0.out _ _ Tryd.underlying32 HSZ.out ?_)
  generalize w.alloc (.cells (bcells id) 32) = w1 at HK0 HBB HR ⊢
  refine HR.out.mono ?_
  rintro _ w2 ⟨rfl, b2⟩
  have HB2 := hid (HBB.out.trans (b2.mono HBB.out.size))
  clear b2 HK0 HBB HR
  go_wp2_with fail
  go_ret
  exact ⟨rfl, HB2.out⟩
theorem usedNone_calls (hn : NoObj w h) : Calls Tryd.prog 23 #[h] w fun e w' => e = .returned (.int .i64 0) ∧ w = w' := by
  have HV := hid (bvalid_none h w hn)
  clear hn
  go_enter Tryd.func23, Tryd.ntmps23
  go_wp2_with fail
  refine HV.out.mono ?_
  rintro _ _ ⟨rfl, rfl⟩
  go_wp2_with fail
  go_ret
  exact ⟨rfl, rfl⟩
theorem widthNone_calls (hn : NoObj w h) : Calls Tryd.prog 25 #[h] w fun e w' => e = .returned (.int .i64 0) ∧ w = w' := by
  have HV := hid (bvalid_none h w hn)
  clear hn
  go_enter Tryd.func25, Tryd.ntmps25
  go_wp2_with fail
  refine HV.out.mono ?_
  rintro _ _ ⟨rfl, rfl⟩
  go_wp2_with fail
  go_ret
  exact ⟨rfl, rfl⟩
theorem roomNone_calls (hn : NoObj w h) : Calls Tryd.prog 26 #[h] w fun e w' => e = .returned (.int .i64 0) ∧ w = w' := by
  have HV := hid (bvalid_none h w hn)
  clear hn
  go_enter Tryd.func26, Tryd.ntmps26
  go_wp2_with fail
  refine HV.out.mono ?_
  rintro _ _ ⟨rfl, rfl⟩
  go_wp2_with fail
  go_ret
  exact ⟨rfl, rfl⟩
theorem idsNone_calls (hn : NoObj w h) : Calls Tryd.prog 19 #[h] w fun e w' => e = .returned (.slice none 0 0) ∧ w = w' := by
  have HV := hid (bvalid_none h w hn)
  clear hn
  go_enter Tryd.func19, Tryd.ntmps19
  go_wp2_with fail
  refine HV.out.mono ?_
  rintro _ _ ⟨rfl, rfl⟩
  go_wp2_with fail
  go_ret
  exact ⟨rfl, rfl⟩
end
end Go.Proofs.YtoogaapjdlhpbaaDoor
