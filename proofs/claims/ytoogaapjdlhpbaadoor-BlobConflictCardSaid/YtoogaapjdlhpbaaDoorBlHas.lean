/- Contract of package blob: has. Written by tools/mkbl.py. -/
import Derived.Test.YtoogaapjdlhpbaaDoorBlSto
namespace Go.Proofs.YtoogaapjdlhpbaaDoor
open Go.RowKit
def hasNoVal (s : Nat) (m : Nat) (id : List UInt8) : Nat → Unit → Value
  | 0, _ => .pointer (some ⟨s, 0, none⟩)
  | 1, _ => .bool true
  | 2, _ => .bool true
  | 3, _ => .pointer (some ⟨s, 0, none⟩)
  | 4, _ => .pointer (some ⟨s, 0, none⟩)
  | 5, _ => .pointer (some ⟨s, 4, none⟩)
  | 6, _ => .map (some m)
  | 7, _ => .agg (bcells id)
  | 8, _ => .pointer none
  | 9, _ => .bool false
  | 10, _ => .bool false
  | 11, _ => .bool false
  | _, _ => undef
set_option maxRecDepth 20000 in
set_option maxHeartbeats 1000000 in
theorem hasNo_calls (s m n : Nat) (wd rm us : Value) (f : List UInt8 → Option Nat) (id : List UInt8) (w : World) (hh : Blk w s 54 #[.pointer (some ⟨s, 0, none⟩), wd, rm, us, .map (some m)]) (hm : MapP w m n f) (hl : id.length = 32) (hf : f id = none) :
    Calls Tryd.prog 42 #[.pointer (some ⟨s, 0, none⟩), .agg (bcells id)] w fun e w' => e = .returned (.bool false) ∧ Below w.heap.size w w' := by
  have bb := below_new w (.cells (bcells id) 32)
  have HK := hid (Blk.new w 32 (bcells id))
  have HSZ := hid (show (Tryd.prog.info? 32).map (·.size) = some (bcells id).size from by rw [bcells_size, hl]; kernel_rfl)
  have HH := hid hh; have HM := hid hm; have HB := hid bb
  clear hh hm bb
  go_enter Tryd.func42, Tryd.ntmps42
  go_wp2_with fail
  generalize w.alloc (.cells (bcells id) 32) = w1 at HK HB ⊢
  generalize hq : w.heap.size = q at HK ⊢
  have HV := hid (fun W (hb : Below w1.heap.size w1 W) => bvalid_calls s wd rm us (.map (some m)) W ((HH.out.keep HB.out).keep hb))
  have HC := hid (fun W (hb : Below w1.heap.size w1 W) => (⟨((HH.out.keep HB.out).keep hb).cell 0 rfl, ((HH.out.keep HB.out).keep hb).cell 4 rfl⟩ : W.cell? ⟨s, 0, none⟩ = some (.pointer (some ⟨s, 0, none⟩)) ∧ W.cell? ⟨s, 4, none⟩ = some (.map (some m))))
  have HLK := hid (fun W (hb : Below w1.heap.size w1 W) => (((HM.out.keep HB.out).keep hb).look hl))
  rw [hf] at HLK
  dsimp only [ptrO] at HLK
  refine wp_region_invG 16 () (hasNoVal s m id) (fun _ _ W => Below w1.heap.size w1 W) (by kernel_rfl) (by kernel_rfl) (by exact Nat.le_refl 16) ?_ ?_ ?_
  · exact (Below.refl _ _).drew
  · intro i o f gh a W hi hf hdep hsame hcl hval hS
    rcases i with _ | _ | _ | _ | _ | _ | _ | _ | _ | _ | _ | _ | i
    all_goals simp only [List.getElem?_cons_succ, List.getElem?_cons_zero, List.getElem?_nil, Option.some.injEq, reduceCtorEq] at hi
    all_goals subst hi
    · have E0 : a.tmps[0]? = some (.pointer (some ⟨s, 0, none⟩)) := (same_of hsame 0 (by rfl)).trans rfl
      refine g_plain rfl ?_
      exact does_value (w' := W) (v := .pointer (some ⟨s, 0, none⟩)) (by go_simp) ⟨(), .inr rfl, hS⟩
    · have E5 := hval 0 _ 5 rfl rfl (dep_of hdep 0 (by rfl))
      unfold hasNoVal at E5
      refine g_plain rfl ?_
      refine does_call 45 #[.pointer (some ⟨s, 0, none⟩)] (by go_simp) ((HV.out W hS).mono ?_)
      rintro _ _ ⟨rfl, rfl⟩
      exact ⟨_, rfl, (), .inr rfl, hS⟩
    · have E6 := hval 1 _ 6 rfl rfl (dep_of hdep 1 (by rfl))
      unfold hasNoVal at E6
      refine g_plain rfl ?_
      exact does_value (w' := W) (v := .bool true) (by go_simp) ⟨(), .inr rfl, hS⟩
    · have EG := hval 2 _ 7 rfl rfl (dep_of hdep 2 (by rfl))
      have E0 : a.tmps[0]? = some (.pointer (some ⟨s, 0, none⟩)) := (same_of hsame 0 (by rfl)).trans rfl
      unfold hasNoVal at EG
      refine g_want rfl rfl rfl EG ?_
      exact does_value (w' := W) (v := .pointer (some ⟨s, 0, none⟩)) (by go_simp) ⟨(), .inr rfl, hS⟩
    · have EG := hval 2 _ 7 rfl rfl (dep_of hdep 2 (by rfl))
      have E8 := hval 3 _ 8 rfl rfl (dep_of hdep 3 (by rfl))
      unfold hasNoVal at EG E8
      have c0 := (HC.out W hS).1
      refine g_want rfl rfl rfl EG ?_
      exact does_value (w' := W) (v := .pointer (some ⟨s, 0, none⟩)) (by go_simp) ⟨(), .inr rfl, hS⟩
    · have EG := hval 2 _ 7 rfl rfl (dep_of hdep 2 (by rfl))
      have E9 := hval 4 _ 9 rfl rfl (dep_of hdep 4 (by rfl))
      unfold hasNoVal at EG E9
      refine g_want rfl rfl rfl EG ?_
      exact does_value (w' := W) (v := .pointer (some ⟨s, 4, none⟩)) (by go_simp) ⟨(), .inr rfl, hS⟩
    · have EG := hval 2 _ 7 rfl rfl (dep_of hdep 2 (by rfl))
      have E10 := hval 5 _ 10 rfl rfl (dep_of hdep 5 (by rfl))
      unfold hasNoVal at EG E10
      have c4 := (HC.out W hS).2
      refine g_want rfl rfl rfl EG ?_
      exact does_value (w' := W) (v := .map (some m)) (by go_simp) ⟨(), .inr rfl, hS⟩
    · have EG := hval 2 _ 7 rfl rfl (dep_of hdep 2 (by rfl))
      have E3 : a.tmps[3]? = some (.pointer (some ⟨q, 0, none⟩)) := (same_of hsame 3 (by rfl)).trans rfl
      unfold hasNoVal at EG
      refine g_want rfl rfl rfl EG ?_
      exact does_load _ _ rfl q (by rw [eval_getD, E3]; rfl) _ (HK.out.keep hS) _ Tryd.underlying32 rfl HSZ.out ⟨(), .inr rfl, hS⟩
    · have EG := hval 2 _ 7 rfl rfl (dep_of hdep 2 (by rfl))
      have E11 := hval 6 _ 11 rfl rfl (dep_of hdep 6 (by rfl))
      have E12 := hval 7 _ 12 rfl rfl (dep_of hdep 7 (by rfl))
      unfold hasNoVal at EG E11 E12
      have hlk := HLK.out W hS
      refine g_want rfl rfl rfl EG ?_
      exact does_value (w' := W) (v := .pointer none) (by go_simp) ⟨(), .inr rfl, hS⟩
    · have EG := hval 2 _ 7 rfl rfl (dep_of hdep 2 (by rfl))
      have E13 := hval 8 _ 13 rfl rfl (dep_of hdep 8 (by rfl))
      unfold hasNoVal at EG E13
      refine g_want rfl rfl rfl EG ?_
      exact does_value (w' := W) (v := .bool false) (by go_simp) ⟨(), .inr rfl, hS⟩
    · have E7 := hval 2 _ 7 rfl rfl (dep_of hdep 2 (by rfl))
      have E14 := hval 9 _ 14 rfl rfl (dep_of hdep 9 (by rfl))
      unfold hasNoVal at E7 E14
      refine g_plain rfl ?_
      exact does_value (w' := W) (v := .bool false) (by go_simp) ⟨(), .inr rfl, hS⟩
    · have E15 := hval 10 _ 15 rfl rfl (dep_of hdep 10 (by rfl))
      unfold hasNoVal at E15
      refine g_plain rfl ?_
      exact does_value (w' := W) (v := .bool false) (by go_simp) ⟨(), .inr rfl, hS⟩
  · intro gh W hS
    have HB2 := hid (HB.out.trans (hS.mono HB.out.size))
    simp only [putAll, hasNoVal, Nat.reduceAdd, Nat.zero_add, Act.put, List.setIfInBounds_toArray, List.set_cons_zero, List.set_cons_succ]
    clear hS HV HC HLK HM HH HK HB
    go_wp2_with fail
    go_ret
    exact ⟨rfl, hq ▸ HB2.out⟩
def hasYesVal (s : Nat) (m : Nat) (g : Nat) (id : List UInt8) : Nat → Unit → Value
  | 0, _ => .pointer (some ⟨s, 0, none⟩)
  | 1, _ => .bool true
  | 2, _ => .bool true
  | 3, _ => .pointer (some ⟨s, 0, none⟩)
  | 4, _ => .pointer (some ⟨s, 0, none⟩)
  | 5, _ => .pointer (some ⟨s, 4, none⟩)
  | 6, _ => .map (some m)
  | 7, _ => .agg (bcells id)
  | 8, _ => .pointer (some ⟨g, 0, none⟩)
  | 9, _ => .bool true
  | 10, _ => .bool true
  | 11, _ => .bool true
  | _, _ => undef
set_option maxRecDepth 20000 in
set_option maxHeartbeats 1000000 in
theorem hasYes_calls (s m n g : Nat) (wd rm us : Value) (f : List UInt8 → Option Nat) (id : List UInt8) (w : World) (hh : Blk w s 54 #[.pointer (some ⟨s, 0, none⟩), wd, rm, us, .map (some m)]) (hm : MapP w m n f) (hl : id.length = 32) (hf : f id = some g) :
    Calls Tryd.prog 42 #[.pointer (some ⟨s, 0, none⟩), .agg (bcells id)] w fun e w' => e = .returned (.bool true) ∧ Below w.heap.size w w' := by
  have bb := below_new w (.cells (bcells id) 32)
  have HK := hid (Blk.new w 32 (bcells id))
  have HSZ := hid (show (Tryd.prog.info? 32).map (·.size) = some (bcells id).size from by rw [bcells_size, hl]; kernel_rfl)
  have HH := hid hh; have HM := hid hm; have HB := hid bb
  clear hh hm bb
  go_enter Tryd.func42, Tryd.ntmps42
  go_wp2_with fail
  generalize w.alloc (.cells (bcells id) 32) = w1 at HK HB ⊢
  generalize hq : w.heap.size = q at HK ⊢
  have HV := hid (fun W (hb : Below w1.heap.size w1 W) => bvalid_calls s wd rm us (.map (some m)) W ((HH.out.keep HB.out).keep hb))
  have HC := hid (fun W (hb : Below w1.heap.size w1 W) => (⟨((HH.out.keep HB.out).keep hb).cell 0 rfl, ((HH.out.keep HB.out).keep hb).cell 4 rfl⟩ : W.cell? ⟨s, 0, none⟩ = some (.pointer (some ⟨s, 0, none⟩)) ∧ W.cell? ⟨s, 4, none⟩ = some (.map (some m))))
  have HLK := hid (fun W (hb : Below w1.heap.size w1 W) => (((HM.out.keep HB.out).keep hb).look hl))
  rw [hf] at HLK
  dsimp only [ptrO] at HLK
  refine wp_region_invG 16 () (hasYesVal s m g id) (fun _ _ W => Below w1.heap.size w1 W) (by kernel_rfl) (by kernel_rfl) (by exact Nat.le_refl 16) ?_ ?_ ?_
  · exact (Below.refl _ _).drew
  · intro i o f gh a W hi hf hdep hsame hcl hval hS
    rcases i with _ | _ | _ | _ | _ | _ | _ | _ | _ | _ | _ | _ | i
    all_goals simp only [List.getElem?_cons_succ, List.getElem?_cons_zero, List.getElem?_nil, Option.some.injEq, reduceCtorEq] at hi
    all_goals subst hi
    · have E0 : a.tmps[0]? = some (.pointer (some ⟨s, 0, none⟩)) := (same_of hsame 0 (by rfl)).trans rfl
      refine g_plain rfl ?_
      exact does_value (w' := W) (v := .pointer (some ⟨s, 0, none⟩)) (by go_simp) ⟨(), .inr rfl, hS⟩
    · have E5 := hval 0 _ 5 rfl rfl (dep_of hdep 0 (by rfl))
      unfold hasYesVal at E5
      refine g_plain rfl ?_
      refine does_call 45 #[.pointer (some ⟨s, 0, none⟩)] (by go_simp) ((HV.out W hS).mono ?_)
      rintro _ _ ⟨rfl, rfl⟩
      exact ⟨_, rfl, (), .inr rfl, hS⟩
    · have E6 := hval 1 _ 6 rfl rfl (dep_of hdep 1 (by rfl))
      unfold hasYesVal at E6
      refine g_plain rfl ?_
      exact does_value (w' := W) (v := .bool true) (by go_simp) ⟨(), .inr rfl, hS⟩
    · have EG := hval 2 _ 7 rfl rfl (dep_of hdep 2 (by rfl))
      have E0 : a.tmps[0]? = some (.pointer (some ⟨s, 0, none⟩)) := (same_of hsame 0 (by rfl)).trans rfl
      unfold hasYesVal at EG
      refine g_want rfl rfl rfl EG ?_
      exact does_value (w' := W) (v := .pointer (some ⟨s, 0, none⟩)) (by go_simp) ⟨(), .inr rfl, hS⟩
    · have EG := hval 2 _ 7 rfl rfl (dep_of hdep 2 (by rfl))
      have E8 := hval 3 _ 8 rfl rfl (dep_of hdep 3 (by rfl))
      unfold hasYesVal at EG E8
      have c0 := (HC.out W hS).1
      refine g_want rfl rfl rfl EG ?_
      exact does_value (w' := W) (v := .pointer (some ⟨s, 0, none⟩)) (by go_simp) ⟨(), .inr rfl, hS⟩
    · have EG := hval 2 _ 7 rfl rfl (dep_of hdep 2 (by rfl))
      have E9 := hval 4 _ 9 rfl rfl (dep_of hdep 4 (by rfl))
      unfold hasYesVal at EG E9
      refine g_want rfl rfl rfl EG ?_
      exact does_value (w' := W) (v := .pointer (some ⟨s, 4, none⟩)) (by go_simp) ⟨(), .inr rfl, hS⟩
    · have EG := hval 2 _ 7 rfl rfl (dep_of hdep 2 (by rfl))
      have E10 := hval 5 _ 10 rfl rfl (dep_of hdep 5 (by rfl))
      unfold hasYesVal at EG E10
      have c4 := (HC.out W hS).2
      refine g_want rfl rfl rfl EG ?_
      exact does_value (w' := W) (v := .map (some m)) (by go_simp) ⟨(), .inr rfl, hS⟩
    · have EG := hval 2 _ 7 rfl rfl (dep_of hdep 2 (by rfl))
      have E3 : a.tmps[3]? = some (.pointer (some ⟨q, 0, none⟩)) := (same_of hsame 3 (by rfl)).trans rfl
      unfold hasYesVal at EG
      refine g_want rfl rfl rfl EG ?_
      exact does_load _ _ rfl q (by rw [eval_getD, E3]; rfl) _ (HK.out.keep hS) _ Tryd.underlying32 rfl HSZ.out ⟨(), .inr rfl, hS⟩
    · have EG := hval 2 _ 7 rfl rfl (dep_of hdep 2 (by rfl))
      have E11 := hval 6 _ 11 rfl rfl (dep_of hdep 6 (by rfl))
      have E12 := hval 7 _ 12 rfl rfl (dep_of hdep 7 (by rfl))
      unfold hasYesVal at EG E11 E12
      have hlk := HLK.out W hS
      refine g_want rfl rfl rfl EG ?_
      exact does_value (w' := W) (v := .pointer (some ⟨g, 0, none⟩)) (by go_simp) ⟨(), .inr rfl, hS⟩
    · have EG := hval 2 _ 7 rfl rfl (dep_of hdep 2 (by rfl))
      have E13 := hval 8 _ 13 rfl rfl (dep_of hdep 8 (by rfl))
      unfold hasYesVal at EG E13
      refine g_want rfl rfl rfl EG ?_
      exact does_value (w' := W) (v := .bool true) (by go_simp) ⟨(), .inr rfl, hS⟩
    · have E7 := hval 2 _ 7 rfl rfl (dep_of hdep 2 (by rfl))
      have E14 := hval 9 _ 14 rfl rfl (dep_of hdep 9 (by rfl))
      unfold hasYesVal at E7 E14
      refine g_plain rfl ?_
      exact does_value (w' := W) (v := .bool true) (by go_simp) ⟨(), .inr rfl, hS⟩
    · have E15 := hval 10 _ 15 rfl rfl (dep_of hdep 10 (by rfl))
      unfold hasYesVal at E15
      refine g_plain rfl ?_
      exact does_value (w' := W) (v := .bool true) (by go_simp) ⟨(), .inr rfl, hS⟩
  · intro gh W hS
    have HB2 := hid (HB.out.trans (hS.mono HB.out.size))
    simp only [putAll, hasYesVal, Nat.reduceAdd, Nat.zero_add, Act.put, List.setIfInBounds_toArray, List.set_cons_zero, List.set_cons_succ]
    clear hS HV HC HLK HM HH HK HB
    go_wp2_with fail
    go_ret
    exact ⟨rfl, hq ▸ HB2.out⟩
end Go.Proofs.YtoogaapjdlhpbaaDoor
