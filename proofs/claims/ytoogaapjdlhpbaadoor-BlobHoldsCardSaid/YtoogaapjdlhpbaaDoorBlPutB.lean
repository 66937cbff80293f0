/- Contract of package blob: has. Written by tools/mkbl.py. -/
import Derived.Test.YtoogaapjdlhpbaaDoorBlSto
import Derived.Test.YtoogaapjdlhpbaaDoorNewSet
import Derived.Shelf.Abstract
namespace Go.Proofs.YtoogaapjdlhpbaaDoor
open Go.RowKit
def hasNoVal (s : Nat) (m : Nat) (id : List UInt8) : Nat → Unit → Value
  | 0, _ => .pointer (some ⟨s, 0, none⟩)
  | 1, _ => .bool true
  | 2, _ => .bool true
  | 3, _ => .pointer (some ⟨s, 0, none⟩)
  | 4, _ => .pointer (some ⟨s, 0, none⟩)
  | 5, _ => .pointer (some ⟨s, 4, none⟩)
  | 6, _ => .map (some m)
  | 7, _ => .agg (bcells id)
  | 8, _ => .pointer none
  | 9, _ => .bool false
  | 10, _ => .bool false
  | 11, _ => .bool false
  | _, _ => undef
set_option maxRecDepth 20000 in
set_option maxHeartbeats 1000000 in
theorem hasNo_calls (s m n : Nat) (wd rm us : Value) (f : List UInt8 → Option Nat) (id : List UInt8) (w : World) (hh : Blk w s 54 #[.pointer (some ⟨s, 0, none⟩), wd, rm, us, .map (some m)]) (hm : MapP w m n f) (hl : id.length = 32) (hf : f id = none) :
    Calls Tryd.prog 42 #[.pointer (some ⟨s, 0, none⟩), .agg (bcells id)] w fun e w' => e = .returned (.bool false) ∧ Below w.heap.size w w' := by
  have bb := below_new w (.cells (bcells id) 32)
  have HK := hid (Blk.new w 32 (bcells id))
  have HSZ := hid (show (Tryd.prog.info? 32).map (·.size) = some (bcells id).size from by rw [bcells_size, hl]; kernel_rfl)
  have HH := hid hh; have HM := hid hm; have HB := hid bb
  clear hh hm bb
  go_enter Tryd.func42, Tryd.ntmps42
  go_wp2_with fail
  generalize w.alloc (.cells (bcells id) 32) = w1 at HK HB ⊢
  generalize hq : w.heap.size = q at HK ⊢
  have HV := hid (fun W (hb : Below w1.heap.size w1 W) => bvalid_calls s wd rm us (.map (some m)) W ((HH.out.keep HB.out).keep hb))
  have HC := hid (fun W (hb : Below w1.heap.size w1 W) => (⟨((HH.out.keep HB.out).keep hb).cell 0 rfl, ((HH.out.keep HB.out).keep hb).cell 4 rfl⟩ : W.cell? ⟨s, 0, none⟩ = some (.pointer (some ⟨s, 0, none⟩)) ∧ W.cell? ⟨s, 4, none⟩ = some (.map (some m))))
  have HLK := hid (fun W (hb : Below w1.heap.size w1 W) => (((HM.out.keep HB.out).keep hb).look hl))
  rw [hf] at HLK
  dsimp only [ptrO] at HLK
  refine wp_region_invG 16 () (hasNoVal s m id) (fun _ _ W => Below w1.heap.size w1 W) (by kernel_rfl) (by kernel_rfl) (by exact Nat.le_refl 16) ?_ ?_ ?_
  · exact (Below.refl _ _).drew
  · intro i o f gh a W hi hf hdep hsame hcl hval hS
    rcases i with _ | _ | _ | _ | _ | _ | _ | _ | _ | _ | _ | _ | i
    all_goals simp only [List.getElem?_cons_succ, List.getElem?_cons_zero, List.getElem?_nil, Option.some.injEq, reduceCtorEq] at hi
    all_goals subst hi
    · have E0 : a.tmps[0]? = some (.pointer (some ⟨s, 0, none⟩)) := (same_of hsame 0 (by rfl)).trans rfl
      refine g_plain rfl ?_
      exact does_value (w' := W) (v := .pointer (some ⟨s, 0, none⟩)) (by go_simp) ⟨(), .inr rfl, hS⟩
    · have E5 := hval 0 _ 5 rfl rfl (dep_of hdep 0 (by rfl))
      unfold hasNoVal at E5
      refine g_plain rfl ?_
      refine does_call 45 #[.pointer (some ⟨s, 0, none⟩)] (by go_simp) ((HV.out W hS).mono ?_)
      rintro _ _ ⟨rfl, rfl⟩
      exact ⟨_, rfl, (), .inr rfl, hS⟩
    · have E6 := hval 1 _ 6 rfl rfl (dep_of hdep 1 (by rfl))
      unfold hasNoVal at E6
      refine g_plain rfl ?_
      exact does_value (w' := W) (v := .bool true) (by go_simp) ⟨(), .inr rfl, hS⟩
    · have EG := hval 2 _ 7 rfl rfl (dep_of hdep 2 (by rfl))
      have E0 : a.tmps[0]? = some (.pointer (some ⟨s, 0, none⟩)) := (same_of hsame 0 (by rfl)).trans rfl
      unfold hasNoVal at EG
      refine g_want rfl rfl rfl EG ?_
      exact does_value (w' := W) (v := .pointer (some ⟨s, 0, none⟩)) (by go_simp) ⟨(), .inr rfl, hS⟩
    · have EG := hval 2 _ 7 rfl rfl (dep_of hdep 2 (by rfl))
      have E8 := hval 3 _ 8 rfl rfl (dep_of hdep 3 (by rfl))
      unfold hasNoVal at EG E8
      have c0 := (HC.out W hS).1
      refine g_want rfl rfl rfl EG ?_
      exact does_value (w' := W) (v := .pointer (some ⟨s, 0, none⟩)) (by go_simp) ⟨(), .inr rfl, hS⟩
    · have EG := hval 2 _ 7 rfl rfl (dep_of hdep 2 (by rfl))
      have E9 := hval 4 _ 9 rfl rfl (dep_of hdep 4 (by rfl))
      unfold hasNoVal at EG E9
      refine g_want rfl rfl rfl EG ?_
      exact does_value (w' := W) (v := .pointer (some ⟨s, 4, none⟩)) (by go_simp) ⟨(), .inr rfl, hS⟩
    · have EG := hval 2 _ 7 rfl rfl (dep_of hdep 2 (by rfl))
      have E10 := hval 5 _ 10 rfl rfl (dep_of hdep 5 (by rfl))
      unfold hasNoVal at EG E10
      have c4 := (HC.out W hS).2
      refine g_want rfl rfl rfl EG ?_
      exact does_value (w' := W) (v := .map (some m)) (by go_simp) ⟨(), .inr rfl, hS⟩
    · have EG := hval 2 _ 7 rfl rfl (dep_of hdep 2 (by rfl))
      have E3 : a.tmps[3]? = some (.pointer (some ⟨q, 0, none⟩)) := (same_of hsame 3 (by rfl)).trans rfl
      unfold hasNoVal at EG
      refine g_want rfl rfl rfl EG ?_
      exact does_load _ _ rfl q (by rw [eval_getD, E3]; rfl) _ (HK.out.keep hS) _ Tryd.underlying32 rfl HSZ.out ⟨(), .inr rfl, hS⟩
    · have EG := hval 2 _ 7 rfl rfl (dep_of hdep 2 (by rfl))
      have E11 := hval 6 _ 11 rfl rfl (dep_of hdep 6 (by rfl))
      have E12 := hval 7 _ 12 rfl rfl (dep_of hdep 7 (by rfl))
      unfold hasNoVal at EG E11 E12
      have hlk := HLK.out W hS
      refine g_want rfl rfl rfl EG ?_
      exact does_value (w' := W) (v := .pointer none) (by go_simp) ⟨(), .inr rfl, hS⟩
    · have EG := hval 2 _ 7 rfl rfl (dep_of hdep 2 (by rfl))
      have E13 := hval 8 _ 13 rfl rfl (dep_of hdep 8 (by rfl))
      unfold hasNoVal at EG E13
      refine g_want rfl rfl rfl EG ?_
      exact does_value (w' := W) (v := .bool false) (by go_simp) ⟨(), .inr rfl, hS⟩
    · have E7 := hval 2 _ 7 rfl rfl (dep_of hdep 2 (by rfl))
      have E14 := hval 9 _ 14 rfl rfl (dep_of hdep 9 (by rfl))
      unfold hasNoVal at E7 E14
      refine g_plain rfl ?_
      exact does_value (w' := W) (v := .bool false) (by go_simp) ⟨(), .inr rfl, hS⟩
    · have E15 := hval 10 _ 15 rfl rfl (dep_of hdep 10 (by rfl))
      unfold hasNoVal at E15
      refine g_plain rfl ?_
      exact does_value (w' := W) (v := .bool false) (by go_simp) ⟨(), .inr rfl, hS⟩
  · intro gh W hS
    have HB2 := hid (HB.out.trans (hS.mono HB.out.size))
    simp only [putAll, hasNoVal, Nat.reduceAdd, Nat.zero_add, Act.put, List.setIfInBounds_toArray, List.set_cons_zero, List.set_cons_succ]
    clear hS HV HC HLK HM HH HK HB
    go_wp2_with fail
    go_ret
    exact ⟨rfl, hq ▸ HB2.out⟩
def hasYesVal (s : Nat) (m : Nat) (g : Nat) (id : List UInt8) : Nat → Unit → Value
  | 0, _ => .pointer (some ⟨s, 0, none⟩)
  | 1, _ => .bool true
  | 2, _ => .bool true
  | 3, _ => .pointer (some ⟨s, 0, none⟩)
  | 4, _ => .pointer (some ⟨s, 0, none⟩)
  | 5, _ => .pointer (some ⟨s, 4, none⟩)
  | 6, _ => .map (some m)
  | 7, _ => .agg (bcells id)
  | 8, _ => .pointer (some ⟨g, 0, none⟩)
  | 9, _ => .bool true
  | 10, _ => .bool true
  | 11, _ => .bool true
  | _, _ => undef
set_option maxRecDepth 20000 in
set_option maxHeartbeats 1000000 in
theorem hasYes_calls (s m n g : Nat) (wd rm us : Value) (f : List UInt8 → Option Nat) (id : List UInt8) (w : World) (hh : Blk w s 54 #[.pointer (some ⟨s, 0, none⟩), wd, rm, us, .map (some m)]) (hm : MapP w m n f) (hl : id.length = 32) (hf : f id = some g) :
    Calls Tryd.prog 42 #[.pointer (some ⟨s, 0, none⟩), .agg (bcells id)] w fun e w' => e = .returned (.bool true) ∧ Below w.heap.size w w' := by
  have bb := below_new w (.cells (bcells id) 32)
  have HK := hid (Blk.new w 32 (bcells id))
  have HSZ := hid (show (Tryd.prog.info? 32).map (·.size) = some (bcells id).size from by rw [bcells_size, hl]; kernel_rfl)
  have HH := hid hh; have HM := hid hm; have HB := hid bb
  clear hh hm bb
  go_enter Tryd.func42, Tryd.ntmps42
  go_wp2_with fail
  generalize w.alloc (.cells (bcells id) 32) = w1 at HK HB ⊢
  generalize hq : w.heap.size = q at HK ⊢
  have HV := hid (fun W (hb : Below w1.heap.size w1 W) => bvalid_calls s wd rm us (.map (some m)) W ((HH.out.keep HB.out).keep hb))
  have HC := hid (fun W (hb : Below w1.heap.size w1 W) => (⟨((HH.out.keep HB.out).keep hb).cell 0 rfl, ((HH.out.keep HB.out).keep hb).cell 4 rfl⟩ : W.cell? ⟨s, 0, none⟩ = some (.pointer (some ⟨s, 0, none⟩)) ∧ W.cell? ⟨s, 4, none⟩ = some (.map (some m))))
  have HLK := hid (fun W (hb : Below w1.heap.size w1 W) => (((HM.out.keep HB.out).keep hb).look hl))
  rw [hf] at HLK
  dsimp only [ptrO] at HLK
  refine wp_region_invG 16 () (hasYesVal s m g id) (fun _ _ W => Below w1.heap.size w1 W) (by kernel_rfl) (by kernel_rfl) (by exact Nat.le_refl 16) ?_ ?_ ?_
  · exact (Below.refl _ _).drew
  · intro i o f gh a W hi hf hdep hsame hcl hval hS
    rcases i with _ | _ | _ | _ | _ | _ | _ | _ | _ | _ | _ | _ | i
    all_goals simp only [List.getElem?_cons_succ, List.getElem?_cons_zero, List.getElem?_nil, Option.some.injEq, reduceCtorEq] at hi
    all_goals subst hi
    · have E0 : a.tmps[0]? = some (.pointer (some ⟨s, 0, none⟩)) := (same_of hsame 0 (by rfl)).trans rfl
      refine g_plain rfl ?_
      exact does_value (w' := W) (v := .pointer (some ⟨s, 0, none⟩)) (by go_simp) ⟨(), .inr rfl, hS⟩
    · have E5 := hval 0 _ 5 rfl rfl (dep_of hdep 0 (by rfl))
      unfold hasYesVal at E5
      refine g_plain rfl ?_
      refine does_call 45 #[.pointer (some ⟨s, 0, none⟩)] (by go_simp) ((HV.out W hS).mono ?_)
      rintro _ _ ⟨rfl, rfl⟩
      exact ⟨_, rfl, (), .inr rfl, hS⟩
    · have E6 := hval 1 _ 6 rfl rfl (dep_of hdep 1 (by rfl))
      unfold hasYesVal at E6
      refine g_plain rfl ?_
      exact does_value (w' := W) (v := .bool true) (by go_simp) ⟨(), .inr rfl, hS⟩
    · have EG := hval 2 _ 7 rfl rfl (dep_of hdep 2 (by rfl))
      have E0 : a.tmps[0]? = some (.pointer (some ⟨s, 0, none⟩)) := (same_of hsame 0 (by rfl)).trans rfl
      unfold hasYesVal at EG
      refine g_want rfl rfl rfl EG ?_
      exact does_value (w' := W) (v := .pointer (some ⟨s, 0, none⟩)) (by go_simp) ⟨(), .inr rfl, hS⟩
    · have EG := hval 2 _ 7 rfl rfl (dep_of hdep 2 (by rfl))
      have E8 := hval 3 _ 8 rfl rfl (dep_of hdep 3 (by rfl))
      unfold hasYesVal at EG E8
      have c0 := (HC.out W hS).1
      refine g_want rfl rfl rfl EG ?_
      exact does_value (w' := W) (v := .pointer (some ⟨s, 0, none⟩)) (by go_simp) ⟨(), .inr rfl, hS⟩
    · have EG := hval 2 _ 7 rfl rfl (dep_of hdep 2 (by rfl))
      have E9 := hval 4 _ 9 rfl rfl (dep_of hdep 4 (by rfl))
      unfold hasYesVal at EG E9
      refine g_want rfl rfl rfl EG ?_
      exact does_value (w' := W) (v := .pointer (some ⟨s, 4, none⟩)) (by go_simp) ⟨(), .inr rfl, hS⟩
    · have EG := hval 2 _ 7 rfl rfl (dep_of hdep 2 (by rfl))
      have E10 := hval 5 _ 10 rfl rfl (dep_of hdep 5 (by rfl))
      unfold hasYesVal at EG E10
      have c4 := (HC.out W hS).2
      refine g_want rfl rfl rfl EG ?_
      exact does_value (w' := W) (v := .map (some m)) (by go_simp) ⟨(), .inr rfl, hS⟩
    · have EG := hval 2 _ 7 rfl rfl (dep_of hdep 2 (by rfl))
      have E3 : a.tmps[3]? = some (.pointer (some ⟨q, 0, none⟩)) := (same_of hsame 3 (by rfl)).trans rfl
      unfold hasYesVal at EG
      refine g_want rfl rfl rfl EG ?_
      exact does_load _ _ rfl q (by rw [eval_getD, E3]; rfl) _ (HK.out.keep hS) _ Tryd.underlying32 rfl HSZ.out ⟨(), .inr rfl, hS⟩
    · have EG := hval 2 _ 7 rfl rfl (dep_of hdep 2 (by rfl))
      have E11 := hval 6 _ 11 rfl rfl (dep_of hdep 6 (by rfl))
      have E12 := hval 7 _ 12 rfl rfl (dep_of hdep 7 (by rfl))
      unfold hasYesVal at EG E11 E12
      have hlk := HLK.out W hS
      refine g_want rfl rfl rfl EG ?_
      exact does_value (w' := W) (v := .pointer (some ⟨g, 0, none⟩)) (by go_simp) ⟨(), .inr rfl, hS⟩
    · have EG := hval 2 _ 7 rfl rfl (dep_of hdep 2 (by rfl))
      have E13 := hval 8 _ 13 rfl rfl (dep_of hdep 8 (by rfl))
      unfold hasYesVal at EG E13
      refine g_want rfl rfl rfl EG ?_
      exact does_value (w' := W) (v := .bool true) (by go_simp) ⟨(), .inr rfl, hS⟩
    · have E7 := hval 2 _ 7 rfl rfl (dep_of hdep 2 (by rfl))
      have E14 := hval 9 _ 14 rfl rfl (dep_of hdep 9 (by rfl))
      unfold hasYesVal at E7 E14
      refine g_plain rfl ?_
      exact does_value (w' := W) (v := .bool true) (by go_simp) ⟨(), .inr rfl, hS⟩
    · have E15 := hval 10 _ 15 rfl rfl (dep_of hdep 10 (by rfl))
      unfold hasYesVal at E15
      refine g_plain rfl ?_
      exact does_value (w' := W) (v := .bool true) (by go_simp) ⟨(), .inr rfl, hS⟩
  · intro gh W hS
    have HB2 := hid (HB.out.trans (hS.mono HB.out.size))
    simp only [putAll, hasYesVal, Nat.reduceAdd, Nat.zero_add, Act.put, List.setIfInBounds_toArray, List.set_cons_zero, List.set_cons_succ]
    clear hS HV HC HLK HM HH HK HB
    go_wp2_with fail
    go_ret
    exact ⟨rfl, hq ▸ HB2.out⟩
end Go.Proofs.YtoogaapjdlhpbaaDoor
/- Contracts of package blob: the checks that draw their order. Written by tools/mkbl.py. -/
namespace Go.Proofs.YtoogaapjdlhpbaaDoor
open Go.RowKit
def cl4NoVal (s : Nat) (r : Nat) (id : List UInt8) : Nat → Unit → Value
  | 0, _ => .pointer (some ⟨s, 0, none⟩)
  | 1, _ => .agg (bcells id)
  | 2, _ => .bool false
  | 3, _ => .bool true
  | 4, _ => .bool true
  | 5, _ => undef
  | 6, _ => undef
  | 7, _ => undef
  | 8, _ => undef
  | 9, _ => undef
  | 10, _ => undef
  | 11, _ => undef
  | 12, _ => undef
  | 13, _ => undef
  | 14, _ => undef
  | 15, _ => undef
  | 16, _ => .bool true
  | 17, _ => .int .i64 (r : Int)
  | 18, _ => .int .i64 (r : Int)
  | _, _ => undef
set_option maxRecDepth 20000 in
set_option maxHeartbeats 2000000 in
theorem cl4No_calls (s m _g k p0 p1 p2 : Nat) (wd rm us : Value) (f : List UInt8 → Option Nat) (id : List UInt8) (A _Ax : Option Addr) (n c _cx : Nat) (_x _bs : List UInt8) (w : World) (hh : Blk w s 54 #[.pointer (some ⟨s, 0, none⟩), wd, rm, us, .map (some m)]) (h0 : w.cell? ⟨p0, 0, none⟩ = some (.pointer (some ⟨s, 0, none⟩))) (h1 : Blk w p1 32 (bcells id)) (h2 : w.cell? ⟨p2, 0, none⟩ = some (.slice A n c)) (hm : MapP w m k f) (hl : id.length = 32) (hf : f id = none) (r : Nat) (hr : (if true then 0 else 9) = r) :
    Calls Tryd.prog 61 #[.pointer (some ⟨p0, 0, none⟩), .pointer (some ⟨p1, 0, none⟩), .pointer (some ⟨p2, 0, none⟩)] w fun e w' => e = .returned (.int .i64 (r : Int)) ∧ Below w.heap.size w w' := by
  have HK := hid h1
  have HSZ := hid (show (Tryd.prog.info? 32).map (·.size) = some (bcells id).size from by rw [bcells_size, hl]; kernel_rfl)
  have HH := hid hh; have HM := hid hm; have H0 := hid h0; have H2 := hid h2
  clear hh hm h0 h1 h2
  have HU := hid (show ∀ W, Calls Tryd.prog 57 #[.bool true, .int .i64 9] W fun e w' => e = .returned (.int .i64 (r : Int)) ∧ W = w' from fun W => by
    have h := unless_calls true 9 W
    rw [hr] at h
    exact h)
  clear hr
  have HHAS := hid (fun W (hb : Below w.heap.size w W) => hasNo_calls s m k wd (rm) (us) f id W (HH.out.keep hb) (HM.out.keep hb) hl hf)
  have HC := hid (fun W (hb : Below w.heap.size w W) => (⟨cell_keep H0.out hb, cell_keep H2.out hb, (HH.out.keep hb).cell 4 rfl, trivial⟩ : W.cell? ⟨p0, 0, none⟩ = some (.pointer (some ⟨s, 0, none⟩)) ∧ W.cell? ⟨p2, 0, none⟩ = some (.slice A n c) ∧ W.cell? ⟨s, 4, none⟩ = some (.map (some m)) ∧ True))
  go_enter Tryd.func61, Tryd.ntmps61
  go_wp2_with fail
  refine wp_region_invG 22 () (cl4NoVal s r id) (fun _ _ W => Below w.heap.size w W) (by kernel_rfl) (by kernel_rfl) (by exact Nat.le_refl 22) ?_ ?_ ?_
  · exact (Below.refl _ _).drew
  · intro i o f gh a W hi hf hdep hsame hcl hval hS
    rcases i with _ | _ | _ | _ | _ | _ | _ | _ | _ | _ | _ | _ | _ | _ | _ | _ | _ | _ | _ | i
    all_goals simp only [List.getElem?_cons_succ, List.getElem?_cons_zero, List.getElem?_nil, Option.some.injEq, reduceCtorEq] at hi
    all_goals subst hi
    · have E0 : a.tmps[0]? = some (.pointer (some ⟨p0, 0, none⟩)) := (same_of hsame 0 (by rfl)).trans rfl
      obtain ⟨c0, c2, c4, cg⟩ := HC.out W hS
      refine g_plain rfl ?_
      exact does_value (w' := W) (v := .pointer (some ⟨s, 0, none⟩)) (by go_simp) ⟨(), .inr rfl, hS⟩
    · have E1 : a.tmps[1]? = some (.pointer (some ⟨p1, 0, none⟩)) := (same_of hsame 1 (by rfl)).trans rfl
      refine g_plain rfl ?_
      exact does_load _ _ rfl p1 (by rw [eval_getD, E1]; rfl) _ (HK.out.keep hS) _ Tryd.underlying32 rfl HSZ.out ⟨(), .inr rfl, hS⟩
    · have E4 := hval 0 _ 4 rfl rfl (dep_of hdep 0 (by rfl))
      have E5 := hval 1 _ 5 rfl rfl (dep_of hdep 1 (by rfl))
      unfold cl4NoVal at E4 E5
      refine g_plain rfl ?_
      refine does_call 42 #[.pointer (some ⟨s, 0, none⟩), .agg (bcells id)] (by go_simp) ((HHAS.out W hS).mono ?_)
      rintro _ W' ⟨rfl, hb⟩
      exact ⟨_, rfl, (), .inr rfl, hS.trans (hb.mono hS.size)⟩
    · have E6 := hval 2 _ 6 rfl rfl (dep_of hdep 2 (by rfl))
      unfold cl4NoVal at E6
      refine g_plain rfl ?_
      exact does_value (w' := W) (v := .bool true) (by go_simp) ⟨(), .inr rfl, hS⟩
    · have E7 := hval 3 _ 7 rfl rfl (dep_of hdep 3 (by rfl))
      unfold cl4NoVal at E7
      refine g_plain rfl ?_
      exact does_value (w' := W) (v := .bool true) (by go_simp) ⟨(), .inr rfl, hS⟩
    · have EG := hval 4 _ 8 rfl rfl (dep_of hdep 4 (by rfl))
      unfold cl4NoVal at EG
      exact g_skip rfl rfl rfl EG rfl ⟨(), .inr rfl, hS⟩
    · have EG := hval 4 _ 8 rfl rfl (dep_of hdep 4 (by rfl))
      unfold cl4NoVal at EG
      exact g_skip rfl rfl rfl EG rfl ⟨(), .inr rfl, hS⟩
    · have EG := hval 4 _ 8 rfl rfl (dep_of hdep 4 (by rfl))
      unfold cl4NoVal at EG
      exact g_skip rfl rfl rfl EG rfl ⟨(), .inr rfl, hS⟩
    · have EG := hval 4 _ 8 rfl rfl (dep_of hdep 4 (by rfl))
      unfold cl4NoVal at EG
      exact g_skip rfl rfl rfl EG rfl ⟨(), .inr rfl, hS⟩
    · have EG := hval 4 _ 8 rfl rfl (dep_of hdep 4 (by rfl))
      unfold cl4NoVal at EG
      exact g_skip rfl rfl rfl EG rfl ⟨(), .inr rfl, hS⟩
    · have EG := hval 4 _ 8 rfl rfl (dep_of hdep 4 (by rfl))
      unfold cl4NoVal at EG
      exact g_skip rfl rfl rfl EG rfl ⟨(), .inr rfl, hS⟩
    · have EG := hval 4 _ 8 rfl rfl (dep_of hdep 4 (by rfl))
      unfold cl4NoVal at EG
      exact g_skip rfl rfl rfl EG rfl ⟨(), .inr rfl, hS⟩
    · have EG := hval 4 _ 8 rfl rfl (dep_of hdep 4 (by rfl))
      unfold cl4NoVal at EG
      exact g_skip rfl rfl rfl EG rfl ⟨(), .inr rfl, hS⟩
    · have EG := hval 4 _ 8 rfl rfl (dep_of hdep 4 (by rfl))
      unfold cl4NoVal at EG
      exact g_skip rfl rfl rfl EG rfl ⟨(), .inr rfl, hS⟩
    · have EG := hval 4 _ 8 rfl rfl (dep_of hdep 4 (by rfl))
      unfold cl4NoVal at EG
      exact g_skip rfl rfl rfl EG rfl ⟨(), .inr rfl, hS⟩
    · have EG := hval 4 _ 8 rfl rfl (dep_of hdep 4 (by rfl))
      unfold cl4NoVal at EG
      exact g_skip rfl rfl rfl EG rfl ⟨(), .inr rfl, hS⟩
    · have E8 := hval 4 _ 8 rfl rfl (dep_of hdep 4 (by rfl))
      unfold cl4NoVal at E8
      refine g_plain rfl ?_
      exact does_value (w' := W) (v := .bool true) (by go_simp) ⟨(), .inr rfl, hS⟩
    · have E20 := hval 16 _ 20 rfl rfl (dep_of hdep 16 (by rfl))
      unfold cl4NoVal at E20
      refine g_plain rfl ?_
      refine does_call 57 #[.bool true, .int .i64 9] (by go_simp) ((HU.out W).mono ?_)
      rintro _ _ ⟨rfl, rfl⟩
      exact ⟨_, rfl, (), .inr rfl, hS⟩
    · have E21 := hval 17 _ 21 rfl rfl (dep_of hdep 17 (by rfl))
      unfold cl4NoVal at E21
      refine g_plain rfl ?_
      exact does_value (w' := W) (v := .int .i64 (r : Int)) (by go_simp) ⟨(), .inr rfl, hS⟩
  · intro gh W hS
    have HB2 := hid hS
    simp only [putAll, cl4NoVal, Nat.reduceAdd, Nat.zero_add, Act.put, List.setIfInBounds_toArray, List.set_cons_zero, List.set_cons_succ]
    clear hS HC HHAS HM HH HK HU
    go_wp2_with fail
    go_ret
    exact ⟨rfl, HB2.out⟩
def cl4YesVal (s : Nat) (m : Nat) (g : Nat) (r : Nat) (id : List UInt8) (A : Option Addr) (Ax : Option Addr) (n : Nat) (c : Nat) (cx : Nat) (x : List UInt8) (bs : List UInt8) : Nat → Unit → Value
  | 0, _ => .pointer (some ⟨s, 0, none⟩)
  | 1, _ => .agg (bcells id)
  | 2, _ => .bool true
  | 3, _ => .bool false
  | 4, _ => .bool false
  | 5, _ => .pointer (some ⟨s, 0, none⟩)
  | 6, _ => .pointer (some ⟨s, 0, none⟩)
  | 7, _ => .pointer (some ⟨s, 4, none⟩)
  | 8, _ => .map (some m)
  | 9, _ => .agg (bcells id)
  | 10, _ => .pointer (some ⟨g, 0, none⟩)
  | 11, _ => .pointer (some ⟨g, 0, none⟩)
  | 12, _ => .pointer (some ⟨g, 0, none⟩)
  | 13, _ => .slice Ax x.length cx
  | 14, _ => .slice A n c
  | 15, _ => .bool (x == bs)
  | 16, _ => .bool (x == bs)
  | 17, _ => .int .i64 (r : Int)
  | 18, _ => .int .i64 (r : Int)
  | _, _ => undef
set_option maxRecDepth 20000 in
set_option maxHeartbeats 2000000 in
theorem cl4Yes_calls (s m g k p0 p1 p2 : Nat) (wd rm us : Value) (f : List UInt8 → Option Nat) (id : List UInt8) (A Ax : Option Addr) (n c cx : Nat) (x bs : List UInt8) (w : World) (hh : Blk w s 54 #[.pointer (some ⟨s, 0, none⟩), wd, rm, us, .map (some m)]) (h0 : w.cell? ⟨p0, 0, none⟩ = some (.pointer (some ⟨s, 0, none⟩))) (h1 : Blk w p1 32 (bcells id)) (h2 : w.cell? ⟨p2, 0, none⟩ = some (.slice A n c)) (hm : MapP w m k f) (hl : id.length = 32) (hf : f id = some g) (hg : w.cell? ⟨g, 0, none⟩ = some (.slice Ax x.length cx)) (hx : SB w w.heap.size Ax x.length x) (hb : SB w w.heap.size A n bs) (r : Nat) (hr : (if (x == bs) then 0 else 9) = r) :
    Calls Tryd.prog 61 #[.pointer (some ⟨p0, 0, none⟩), .pointer (some ⟨p1, 0, none⟩), .pointer (some ⟨p2, 0, none⟩)] w fun e w' => e = .returned (.int .i64 (r : Int)) ∧ Below w.heap.size w w' := by
  have HK := hid h1
  have HSZ := hid (show (Tryd.prog.info? 32).map (·.size) = some (bcells id).size from by rw [bcells_size, hl]; kernel_rfl)
  have HH := hid hh; have HM := hid hm; have H0 := hid h0; have H2 := hid h2
  have HG := hid hg; have HX := hid hx; have HB := hid hb
  clear hg hx hb
  clear hh hm h0 h1 h2
  have HU := hid (show ∀ W, Calls Tryd.prog 57 #[.bool (x == bs), .int .i64 9] W fun e w' => e = .returned (.int .i64 (r : Int)) ∧ W = w' from fun W => by
    have h := unless_calls (x == bs) 9 W
    rw [hr] at h
    exact h)
  clear hr
  have HHAS := hid (fun W (hb : Below w.heap.size w W) => hasYes_calls s m k g wd (rm) (us) f id W (HH.out.keep hb) (HM.out.keep hb) hl hf)
  have HC := hid (fun W (hb : Below w.heap.size w W) => (⟨cell_keep H0.out hb, cell_keep H2.out hb, (HH.out.keep hb).cell 4 rfl, cell_keep HG.out hb⟩ : W.cell? ⟨p0, 0, none⟩ = some (.pointer (some ⟨s, 0, none⟩)) ∧ W.cell? ⟨p2, 0, none⟩ = some (.slice A n c) ∧ W.cell? ⟨s, 4, none⟩ = some (.map (some m)) ∧ W.cell? ⟨g, 0, none⟩ = some (.slice Ax x.length cx)))
  have HLK := hid (fun W (hb : Below w.heap.size w W) => ((HM.out.keep hb).look hl))
  rw [hf] at HLK
  dsimp only [ptrO] at HLK
  have HEQ := hid (fun W (hb : Below w.heap.size w W) => equal_calls w.heap.size x.length cx w.heap.size n c Ax A x bs W (HX.out.keepB hb) (HB.out.keepB hb))
  go_enter Tryd.func61, Tryd.ntmps61
  go_wp2_with fail
  refine wp_region_invG 22 () (cl4YesVal s m g r id A Ax n c cx x bs) (fun _ _ W => Below w.heap.size w W) (by kernel_rfl) (by kernel_rfl) (by exact Nat.le_refl 22) ?_ ?_ ?_
  · exact (Below.refl _ _).drew
  · intro i o f gh a W hi hf hdep hsame hcl hval hS
    rcases i with _ | _ | _ | _ | _ | _ | _ | _ | _ | _ | _ | _ | _ | _ | _ | _ | _ | _ | _ | i
    all_goals simp only [List.getElem?_cons_succ, List.getElem?_cons_zero, List.getElem?_nil, Option.some.injEq, reduceCtorEq] at hi
    all_goals subst hi
    · have E0 : a.tmps[0]? = some (.pointer (some ⟨p0, 0, none⟩)) := (same_of hsame 0 (by rfl)).trans rfl
      obtain ⟨c0, c2, c4, cg⟩ := HC.out W hS
      refine g_plain rfl ?_
      exact does_value (w' := W) (v := .pointer (some ⟨s, 0, none⟩)) (by go_simp) ⟨(), .inr rfl, hS⟩
    · have E1 : a.tmps[1]? = some (.pointer (some ⟨p1, 0, none⟩)) := (same_of hsame 1 (by rfl)).trans rfl
      refine g_plain rfl ?_
      exact does_load _ _ rfl p1 (by rw [eval_getD, E1]; rfl) _ (HK.out.keep hS) _ Tryd.underlying32 rfl HSZ.out ⟨(), .inr rfl, hS⟩
    · have E4 := hval 0 _ 4 rfl rfl (dep_of hdep 0 (by rfl))
      have E5 := hval 1 _ 5 rfl rfl (dep_of hdep 1 (by rfl))
      unfold cl4YesVal at E4 E5
      refine g_plain rfl ?_
      refine does_call 42 #[.pointer (some ⟨s, 0, none⟩), .agg (bcells id)] (by go_simp) ((HHAS.out W hS).mono ?_)
      rintro _ W' ⟨rfl, hb⟩
      exact ⟨_, rfl, (), .inr rfl, hS.trans (hb.mono hS.size)⟩
    · have E6 := hval 2 _ 6 rfl rfl (dep_of hdep 2 (by rfl))
      unfold cl4YesVal at E6
      refine g_plain rfl ?_
      exact does_value (w' := W) (v := .bool false) (by go_simp) ⟨(), .inr rfl, hS⟩
    · have E7 := hval 3 _ 7 rfl rfl (dep_of hdep 3 (by rfl))
      unfold cl4YesVal at E7
      refine g_plain rfl ?_
      exact does_value (w' := W) (v := .bool false) (by go_simp) ⟨(), .inr rfl, hS⟩
    · have EG := hval 4 _ 8 rfl rfl (dep_of hdep 4 (by rfl))
      have E0 : a.tmps[0]? = some (.pointer (some ⟨p0, 0, none⟩)) := (same_of hsame 0 (by rfl)).trans rfl
      unfold cl4YesVal at EG
      obtain ⟨c0, c2, c4, cg⟩ := HC.out W hS
      refine g_want rfl rfl rfl EG ?_
      exact does_value (w' := W) (v := .pointer (some ⟨s, 0, none⟩)) (by go_simp) ⟨(), .inr rfl, hS⟩
    · have EG := hval 4 _ 8 rfl rfl (dep_of hdep 4 (by rfl))
      have E9 := hval 5 _ 9 rfl rfl (dep_of hdep 5 (by rfl))
      unfold cl4YesVal at EG E9
      obtain ⟨c0, c2, c4, cg⟩ := HC.out W hS
      refine g_want rfl rfl rfl EG ?_
      exact does_value (w' := W) (v := .pointer (some ⟨s, 0, none⟩)) (by go_simp) ⟨(), .inr rfl, hS⟩
    · have EG := hval 4 _ 8 rfl rfl (dep_of hdep 4 (by rfl))
      have E10 := hval 6 _ 10 rfl rfl (dep_of hdep 6 (by rfl))
      unfold cl4YesVal at EG E10
      refine g_want rfl rfl rfl EG ?_
      exact does_value (w' := W) (v := .pointer (some ⟨s, 4, none⟩)) (by go_simp) ⟨(), .inr rfl, hS⟩
    · have EG := hval 4 _ 8 rfl rfl (dep_of hdep 4 (by rfl))
      have E11 := hval 7 _ 11 rfl rfl (dep_of hdep 7 (by rfl))
      unfold cl4YesVal at EG E11
      obtain ⟨c0, c2, c4, cg⟩ := HC.out W hS
      refine g_want rfl rfl rfl EG ?_
      exact does_value (w' := W) (v := .map (some m)) (by go_simp) ⟨(), .inr rfl, hS⟩
    · have EG := hval 4 _ 8 rfl rfl (dep_of hdep 4 (by rfl))
      have E1 : a.tmps[1]? = some (.pointer (some ⟨p1, 0, none⟩)) := (same_of hsame 1 (by rfl)).trans rfl
      unfold cl4YesVal at EG
      refine g_want rfl rfl rfl EG ?_
      exact does_load _ _ rfl p1 (by rw [eval_getD, E1]; rfl) _ (HK.out.keep hS) _ Tryd.underlying32 rfl HSZ.out ⟨(), .inr rfl, hS⟩
    · have EG := hval 4 _ 8 rfl rfl (dep_of hdep 4 (by rfl))
      have E12 := hval 8 _ 12 rfl rfl (dep_of hdep 8 (by rfl))
      have E13 := hval 9 _ 13 rfl rfl (dep_of hdep 9 (by rfl))
      unfold cl4YesVal at EG E12 E13
      have hlk := HLK.out W hS
      refine g_want rfl rfl rfl EG ?_
      exact does_value (w' := W) (v := .pointer (some ⟨g, 0, none⟩)) (by go_simp) ⟨(), .inr rfl, hS⟩
    · have EG := hval 4 _ 8 rfl rfl (dep_of hdep 4 (by rfl))
      have E14 := hval 10 _ 14 rfl rfl (dep_of hdep 10 (by rfl))
      unfold cl4YesVal at EG E14
      obtain ⟨c0, c2, c4, cg⟩ := HC.out W hS
      refine g_want rfl rfl rfl EG ?_
      exact does_value (w' := W) (v := .pointer (some ⟨g, 0, none⟩)) (by go_simp) ⟨(), .inr rfl, hS⟩
    · have EG := hval 4 _ 8 rfl rfl (dep_of hdep 4 (by rfl))
      have E15 := hval 11 _ 15 rfl rfl (dep_of hdep 11 (by rfl))
      unfold cl4YesVal at EG E15
      obtain ⟨c0, c2, c4, cg⟩ := HC.out W hS
      refine g_want rfl rfl rfl EG ?_
      exact does_value (w' := W) (v := .pointer (some ⟨g, 0, none⟩)) (by go_simp) ⟨(), .inr rfl, hS⟩
    · have EG := hval 4 _ 8 rfl rfl (dep_of hdep 4 (by rfl))
      have E16 := hval 12 _ 16 rfl rfl (dep_of hdep 12 (by rfl))
      unfold cl4YesVal at EG E16
      obtain ⟨c0, c2, c4, cg⟩ := HC.out W hS
      refine g_want rfl rfl rfl EG ?_
      exact does_value (w' := W) (v := .slice Ax x.length cx) (by go_simp) ⟨(), .inr rfl, hS⟩
    · have EG := hval 4 _ 8 rfl rfl (dep_of hdep 4 (by rfl))
      have E2 : a.tmps[2]? = some (.pointer (some ⟨p2, 0, none⟩)) := (same_of hsame 2 (by rfl)).trans rfl
      unfold cl4YesVal at EG
      obtain ⟨c0, c2, c4, cg⟩ := HC.out W hS
      refine g_want rfl rfl rfl EG ?_
      exact does_value (w' := W) (v := .slice A n c) (by go_simp) ⟨(), .inr rfl, hS⟩
    · have EG := hval 4 _ 8 rfl rfl (dep_of hdep 4 (by rfl))
      have E17 := hval 13 _ 17 rfl rfl (dep_of hdep 13 (by rfl))
      have E18 := hval 14 _ 18 rfl rfl (dep_of hdep 14 (by rfl))
      unfold cl4YesVal at EG E17 E18
      refine g_want rfl rfl rfl EG ?_
      refine does_call 62 #[.slice Ax x.length cx, .slice A n c] (by go_simp) ((HEQ.out W hS).mono ?_)
      rintro _ _ ⟨rfl, rfl⟩
      exact ⟨_, rfl, (), .inr rfl, hS⟩
    · have E8 := hval 4 _ 8 rfl rfl (dep_of hdep 4 (by rfl))
      have E19 := hval 15 _ 19 rfl rfl (dep_of hdep 15 (by rfl))
      unfold cl4YesVal at E8 E19
      refine g_plain rfl ?_
      exact does_value (w' := W) (v := .bool (x == bs)) (by go_simp) ⟨(), .inr rfl, hS⟩
    · have E20 := hval 16 _ 20 rfl rfl (dep_of hdep 16 (by rfl))
      unfold cl4YesVal at E20
      refine g_plain rfl ?_
      refine does_call 57 #[.bool (x == bs), .int .i64 9] (by go_simp) ((HU.out W).mono ?_)
      rintro _ _ ⟨rfl, rfl⟩
      exact ⟨_, rfl, (), .inr rfl, hS⟩
    · have E21 := hval 17 _ 21 rfl rfl (dep_of hdep 17 (by rfl))
      unfold cl4YesVal at E21
      refine g_plain rfl ?_
      exact does_value (w' := W) (v := .int .i64 (r : Int)) (by go_simp) ⟨(), .inr rfl, hS⟩
  · intro gh W hS
    have HB2 := hid hS
    simp only [putAll, cl4YesVal, Nat.reduceAdd, Nat.zero_add, Act.put, List.setIfInBounds_toArray, List.set_cons_zero, List.set_cons_succ]
    clear hS HC HHAS HM HH HK HU
    go_wp2_with fail
    go_ret
    exact ⟨rfl, HB2.out⟩
def cl5NoVal (s : Nat) (r : Nat) (id : List UInt8) (A : Option Addr) (n : Nat) (c : Nat) (rm : Int) (us : Int) : Nat → Unit → Value
  | 0, _ => .pointer (some ⟨s, 0, none⟩)
  | 1, _ => .agg (bcells id)
  | 2, _ => .bool false
  | 3, _ => .bool false
  | 4, _ => .slice A n c
  | 5, _ => .int .i64 (n : Int)
  | 6, _ => .pointer (some ⟨s, 0, none⟩)
  | 7, _ => .pointer (some ⟨s, 0, none⟩)
  | 8, _ => .pointer (some ⟨s, 2, none⟩)
  | 9, _ => .int .i64 rm
  | 10, _ => .pointer (some ⟨s, 0, none⟩)
  | 11, _ => .pointer (some ⟨s, 0, none⟩)
  | 12, _ => .pointer (some ⟨s, 3, none⟩)
  | 13, _ => .int .i64 us
  | 14, _ => .int .i64 (rm - us)
  | 15, _ => .bool (decide ((n : Int) ≤ rm - us))
  | 16, _ => .bool (decide ((n : Int) ≤ rm - us))
  | 17, _ => .int .i64 (r : Int)
  | 18, _ => .int .i64 (r : Int)
  | _, _ => undef
set_option maxRecDepth 20000 in
set_option maxHeartbeats 2000000 in
theorem cl5No_calls (s m _g k p0 p1 p2 : Nat) (wd : Value) (rm us : Int) (f : List UInt8 → Option Nat) (id : List UInt8) (A : Option Addr) (n c : Nat) (w : World) (hh : Blk w s 54 #[.pointer (some ⟨s, 0, none⟩), wd, .int .i64 rm, .int .i64 us, .map (some m)]) (h0 : w.cell? ⟨p0, 0, none⟩ = some (.pointer (some ⟨s, 0, none⟩))) (h1 : Blk w p1 32 (bcells id)) (h2 : w.cell? ⟨p2, 0, none⟩ = some (.slice A n c)) (hm : MapP w m k f) (hl : id.length = 32) (hf : f id = none) (r : Nat) (hr : (if (decide ((n : Int) ≤ rm - us)) then 0 else 10) = r) (hw : IntKind.i64.wrap (rm - us) = rm - us) :
    Calls Tryd.prog 63 #[.pointer (some ⟨p0, 0, none⟩), .pointer (some ⟨p1, 0, none⟩), .pointer (some ⟨p2, 0, none⟩)] w fun e w' => e = .returned (.int .i64 (r : Int)) ∧ Below w.heap.size w w' := by
  have HK := hid h1
  have HSZ := hid (show (Tryd.prog.info? 32).map (·.size) = some (bcells id).size from by rw [bcells_size, hl]; kernel_rfl)
  have HH := hid hh; have HM := hid hm; have H0 := hid h0; have H2 := hid h2
  clear hh hm h0 h1 h2
  have HU := hid (show ∀ W, Calls Tryd.prog 57 #[.bool (decide ((n : Int) ≤ rm - us)), .int .i64 10] W fun e w' => e = .returned (.int .i64 (r : Int)) ∧ W = w' from fun W => by
    have h := unless_calls (decide ((n : Int) ≤ rm - us)) 10 W
    rw [hr] at h
    exact h)
  clear hr
  have HHAS := hid (fun W (hb : Below w.heap.size w W) => hasNo_calls s m k wd (.int .i64 rm) (.int .i64 us) f id W (HH.out.keep hb) (HM.out.keep hb) hl hf)
  have HC := hid (fun W (hb : Below w.heap.size w W) => (⟨cell_keep H0.out hb, cell_keep H2.out hb, (HH.out.keep hb).cell 3 rfl, (HH.out.keep hb).cell 2 rfl⟩ : W.cell? ⟨p0, 0, none⟩ = some (.pointer (some ⟨s, 0, none⟩)) ∧ W.cell? ⟨p2, 0, none⟩ = some (.slice A n c) ∧ W.cell? ⟨s, 3, none⟩ = some (.int .i64 us) ∧ W.cell? ⟨s, 2, none⟩ = some (.int .i64 rm)))
  go_enter Tryd.func63, Tryd.ntmps63
  go_wp2_with fail
  refine wp_region_invG 22 () (cl5NoVal s r id A n c rm us) (fun _ _ W => Below w.heap.size w W) (by kernel_rfl) (by kernel_rfl) (by exact Nat.le_refl 22) ?_ ?_ ?_
  · exact (Below.refl _ _).drew
  · intro i o f gh a W hi hf hdep hsame hcl hval hS
    rcases i with _ | _ | _ | _ | _ | _ | _ | _ | _ | _ | _ | _ | _ | _ | _ | _ | _ | _ | _ | i
    all_goals simp only [List.getElem?_cons_succ, List.getElem?_cons_zero, List.getElem?_nil, Option.some.injEq, reduceCtorEq] at hi
    all_goals subst hi
    · have E0 : a.tmps[0]? = some (.pointer (some ⟨p0, 0, none⟩)) := (same_of hsame 0 (by rfl)).trans rfl
      obtain ⟨c0, c2, c3, c4⟩ := HC.out W hS
      refine g_plain rfl ?_
      exact does_value (w' := W) (v := .pointer (some ⟨s, 0, none⟩)) (by go_simp) ⟨(), .inr rfl, hS⟩
    · have E1 : a.tmps[1]? = some (.pointer (some ⟨p1, 0, none⟩)) := (same_of hsame 1 (by rfl)).trans rfl
      refine g_plain rfl ?_
      exact does_load _ _ rfl p1 (by rw [eval_getD, E1]; rfl) _ (HK.out.keep hS) _ Tryd.underlying32 rfl HSZ.out ⟨(), .inr rfl, hS⟩
    · have E4 := hval 0 _ 4 rfl rfl (dep_of hdep 0 (by rfl))
      have E5 := hval 1 _ 5 rfl rfl (dep_of hdep 1 (by rfl))
      unfold cl5NoVal at E4 E5
      refine g_plain rfl ?_
      refine does_call 42 #[.pointer (some ⟨s, 0, none⟩), .agg (bcells id)] (by go_simp) ((HHAS.out W hS).mono ?_)
      rintro _ W' ⟨rfl, hb⟩
      exact ⟨_, rfl, (), .inr rfl, hS.trans (hb.mono hS.size)⟩
    · have E6 := hval 2 _ 6 rfl rfl (dep_of hdep 2 (by rfl))
      unfold cl5NoVal at E6
      refine g_plain rfl ?_
      exact does_value (w' := W) (v := .bool false) (by go_simp) ⟨(), .inr rfl, hS⟩
    · have EG := hval 3 _ 7 rfl rfl (dep_of hdep 3 (by rfl))
      have E2 : a.tmps[2]? = some (.pointer (some ⟨p2, 0, none⟩)) := (same_of hsame 2 (by rfl)).trans rfl
      unfold cl5NoVal at EG
      obtain ⟨c0, c2, c3, c4⟩ := HC.out W hS
      refine g_want rfl rfl rfl EG ?_
      exact does_value (w' := W) (v := .slice A n c) (by go_simp) ⟨(), .inr rfl, hS⟩
    · have EG := hval 3 _ 7 rfl rfl (dep_of hdep 3 (by rfl))
      have E8 := hval 4 _ 8 rfl rfl (dep_of hdep 4 (by rfl))
      unfold cl5NoVal at EG E8
      refine g_want rfl rfl rfl EG ?_
      exact does_value (w' := W) (v := .int .i64 (n : Int)) (by go_simp) ⟨(), .inr rfl, hS⟩
    · have EG := hval 3 _ 7 rfl rfl (dep_of hdep 3 (by rfl))
      have E0 : a.tmps[0]? = some (.pointer (some ⟨p0, 0, none⟩)) := (same_of hsame 0 (by rfl)).trans rfl
      unfold cl5NoVal at EG
      obtain ⟨c0, c2, c3, c4⟩ := HC.out W hS
      refine g_want rfl rfl rfl EG ?_
      exact does_value (w' := W) (v := .pointer (some ⟨s, 0, none⟩)) (by go_simp) ⟨(), .inr rfl, hS⟩
    · have EG := hval 3 _ 7 rfl rfl (dep_of hdep 3 (by rfl))
      have E10 := hval 6 _ 10 rfl rfl (dep_of hdep 6 (by rfl))
      unfold cl5NoVal at EG E10
      obtain ⟨c0, c2, c3, c4⟩ := HC.out W hS
      refine g_want rfl rfl rfl EG ?_
      exact does_value (w' := W) (v := .pointer (some ⟨s, 0, none⟩)) (by go_simp) ⟨(), .inr rfl, hS⟩
    · have EG := hval 3 _ 7 rfl rfl (dep_of hdep 3 (by rfl))
      have E11 := hval 7 _ 11 rfl rfl (dep_of hdep 7 (by rfl))
      unfold cl5NoVal at EG E11
      refine g_want rfl rfl rfl EG ?_
      exact does_value (w' := W) (v := .pointer (some ⟨s, 2, none⟩)) (by go_simp) ⟨(), .inr rfl, hS⟩
    · have EG := hval 3 _ 7 rfl rfl (dep_of hdep 3 (by rfl))
      have E12 := hval 8 _ 12 rfl rfl (dep_of hdep 8 (by rfl))
      unfold cl5NoVal at EG E12
      obtain ⟨c0, c2, c3, c4⟩ := HC.out W hS
      refine g_want rfl rfl rfl EG ?_
      exact does_value (w' := W) (v := .int .i64 rm) (by go_simp) ⟨(), .inr rfl, hS⟩
    · have EG := hval 3 _ 7 rfl rfl (dep_of hdep 3 (by rfl))
      have E0 : a.tmps[0]? = some (.pointer (some ⟨p0, 0, none⟩)) := (same_of hsame 0 (by rfl)).trans rfl
      unfold cl5NoVal at EG
      obtain ⟨c0, c2, c3, c4⟩ := HC.out W hS
      refine g_want rfl rfl rfl EG ?_
      exact does_value (w' := W) (v := .pointer (some ⟨s, 0, none⟩)) (by go_simp) ⟨(), .inr rfl, hS⟩
    · have EG := hval 3 _ 7 rfl rfl (dep_of hdep 3 (by rfl))
      have E14 := hval 10 _ 14 rfl rfl (dep_of hdep 10 (by rfl))
      unfold cl5NoVal at EG E14
      obtain ⟨c0, c2, c3, c4⟩ := HC.out W hS
      refine g_want rfl rfl rfl EG ?_
      exact does_value (w' := W) (v := .pointer (some ⟨s, 0, none⟩)) (by go_simp) ⟨(), .inr rfl, hS⟩
    · have EG := hval 3 _ 7 rfl rfl (dep_of hdep 3 (by rfl))
      have E15 := hval 11 _ 15 rfl rfl (dep_of hdep 11 (by rfl))
      unfold cl5NoVal at EG E15
      refine g_want rfl rfl rfl EG ?_
      exact does_value (w' := W) (v := .pointer (some ⟨s, 3, none⟩)) (by go_simp) ⟨(), .inr rfl, hS⟩
    · have EG := hval 3 _ 7 rfl rfl (dep_of hdep 3 (by rfl))
      have E16 := hval 12 _ 16 rfl rfl (dep_of hdep 12 (by rfl))
      unfold cl5NoVal at EG E16
      obtain ⟨c0, c2, c3, c4⟩ := HC.out W hS
      refine g_want rfl rfl rfl EG ?_
      exact does_value (w' := W) (v := .int .i64 us) (by go_simp) ⟨(), .inr rfl, hS⟩
    · have EG := hval 3 _ 7 rfl rfl (dep_of hdep 3 (by rfl))
      have E13 := hval 9 _ 13 rfl rfl (dep_of hdep 9 (by rfl))
      have E17 := hval 13 _ 17 rfl rfl (dep_of hdep 13 (by rfl))
      unfold cl5NoVal at EG E13 E17
      refine g_want rfl rfl rfl EG ?_
      exact does_value (w' := W) (v := .int .i64 (rm - us)) (by go_simp) ⟨(), .inr rfl, hS⟩
    · have EG := hval 3 _ 7 rfl rfl (dep_of hdep 3 (by rfl))
      have E9 := hval 5 _ 9 rfl rfl (dep_of hdep 5 (by rfl))
      have E18 := hval 14 _ 18 rfl rfl (dep_of hdep 14 (by rfl))
      unfold cl5NoVal at EG E9 E18
      refine g_want rfl rfl rfl EG ?_
      exact does_value (w' := W) (v := .bool (decide ((n : Int) ≤ rm - us))) (by go_simp) ⟨(), .inr rfl, hS⟩
    · have E7 := hval 3 _ 7 rfl rfl (dep_of hdep 3 (by rfl))
      have E19 := hval 15 _ 19 rfl rfl (dep_of hdep 15 (by rfl))
      unfold cl5NoVal at E7 E19
      refine g_plain rfl ?_
      exact does_value (w' := W) (v := .bool (decide ((n : Int) ≤ rm - us))) (by go_simp) ⟨(), .inr rfl, hS⟩
    · have E20 := hval 16 _ 20 rfl rfl (dep_of hdep 16 (by rfl))
      unfold cl5NoVal at E20
      refine g_plain rfl ?_
      refine does_call 57 #[.bool (decide ((n : Int) ≤ rm - us)), .int .i64 10] (by go_simp) ((HU.out W).mono ?_)
      rintro _ _ ⟨rfl, rfl⟩
      exact ⟨_, rfl, (), .inr rfl, hS⟩
    · have E21 := hval 17 _ 21 rfl rfl (dep_of hdep 17 (by rfl))
      unfold cl5NoVal at E21
      refine g_plain rfl ?_
      exact does_value (w' := W) (v := .int .i64 (r : Int)) (by go_simp) ⟨(), .inr rfl, hS⟩
  · intro gh W hS
    have HB2 := hid hS
    simp only [putAll, cl5NoVal, Nat.reduceAdd, Nat.zero_add, Act.put, List.setIfInBounds_toArray, List.set_cons_zero, List.set_cons_succ]
    clear hS HC HHAS HM HH HK HU
    go_wp2_with fail
    go_ret
    exact ⟨rfl, HB2.out⟩
def cl5YesVal (s : Nat) (r : Nat) (id : List UInt8) : Nat → Unit → Value
  | 0, _ => .pointer (some ⟨s, 0, none⟩)
  | 1, _ => .agg (bcells id)
  | 2, _ => .bool true
  | 3, _ => .bool true
  | 4, _ => undef
  | 5, _ => undef
  | 6, _ => undef
  | 7, _ => undef
  | 8, _ => undef
  | 9, _ => undef
  | 10, _ => undef
  | 11, _ => undef
  | 12, _ => undef
  | 13, _ => undef
  | 14, _ => undef
  | 15, _ => undef
  | 16, _ => .bool true
  | 17, _ => .int .i64 (r : Int)
  | 18, _ => .int .i64 (r : Int)
  | _, _ => undef
set_option maxRecDepth 20000 in
set_option maxHeartbeats 2000000 in
theorem cl5Yes_calls (s m g k p0 p1 p2 : Nat) (wd : Value) (rm us : Int) (f : List UInt8 → Option Nat) (id : List UInt8) (A : Option Addr) (n c : Nat) (w : World) (hh : Blk w s 54 #[.pointer (some ⟨s, 0, none⟩), wd, .int .i64 rm, .int .i64 us, .map (some m)]) (h0 : w.cell? ⟨p0, 0, none⟩ = some (.pointer (some ⟨s, 0, none⟩))) (h1 : Blk w p1 32 (bcells id)) (h2 : w.cell? ⟨p2, 0, none⟩ = some (.slice A n c)) (hm : MapP w m k f) (hl : id.length = 32) (hf : f id = some g) (r : Nat) (hr : (if true then 0 else 10) = r) (_hw : IntKind.i64.wrap (rm - us) = rm - us) :
    Calls Tryd.prog 63 #[.pointer (some ⟨p0, 0, none⟩), .pointer (some ⟨p1, 0, none⟩), .pointer (some ⟨p2, 0, none⟩)] w fun e w' => e = .returned (.int .i64 (r : Int)) ∧ Below w.heap.size w w' := by
  have HK := hid h1
  have HSZ := hid (show (Tryd.prog.info? 32).map (·.size) = some (bcells id).size from by rw [bcells_size, hl]; kernel_rfl)
  have HH := hid hh; have HM := hid hm; have H0 := hid h0; have H2 := hid h2
  clear hh hm h0 h1 h2
  have HU := hid (show ∀ W, Calls Tryd.prog 57 #[.bool true, .int .i64 10] W fun e w' => e = .returned (.int .i64 (r : Int)) ∧ W = w' from fun W => by
    have h := unless_calls true 10 W
    rw [hr] at h
    exact h)
  clear hr
  have HHAS := hid (fun W (hb : Below w.heap.size w W) => hasYes_calls s m k g wd (.int .i64 rm) (.int .i64 us) f id W (HH.out.keep hb) (HM.out.keep hb) hl hf)
  have HC := hid (fun W (hb : Below w.heap.size w W) => (⟨cell_keep H0.out hb, cell_keep H2.out hb, (HH.out.keep hb).cell 3 rfl, (HH.out.keep hb).cell 2 rfl⟩ : W.cell? ⟨p0, 0, none⟩ = some (.pointer (some ⟨s, 0, none⟩)) ∧ W.cell? ⟨p2, 0, none⟩ = some (.slice A n c) ∧ W.cell? ⟨s, 3, none⟩ = some (.int .i64 us) ∧ W.cell? ⟨s, 2, none⟩ = some (.int .i64 rm)))
  go_enter Tryd.func63, Tryd.ntmps63
  go_wp2_with fail
  refine wp_region_invG 22 () (cl5YesVal s r id) (fun _ _ W => Below w.heap.size w W) (by kernel_rfl) (by kernel_rfl) (by exact Nat.le_refl 22) ?_ ?_ ?_
  · exact (Below.refl _ _).drew
  · intro i o f gh a W hi hf hdep hsame hcl hval hS
    rcases i with _ | _ | _ | _ | _ | _ | _ | _ | _ | _ | _ | _ | _ | _ | _ | _ | _ | _ | _ | i
    all_goals simp only [List.getElem?_cons_succ, List.getElem?_cons_zero, List.getElem?_nil, Option.some.injEq, reduceCtorEq] at hi
    all_goals subst hi
    · have E0 : a.tmps[0]? = some (.pointer (some ⟨p0, 0, none⟩)) := (same_of hsame 0 (by rfl)).trans rfl
      obtain ⟨c0, c2, c3, c4⟩ := HC.out W hS
      refine g_plain rfl ?_
      exact does_value (w' := W) (v := .pointer (some ⟨s, 0, none⟩)) (by go_simp) ⟨(), .inr rfl, hS⟩
    · have E1 : a.tmps[1]? = some (.pointer (some ⟨p1, 0, none⟩)) := (same_of hsame 1 (by rfl)).trans rfl
      refine g_plain rfl ?_
      exact does_load _ _ rfl p1 (by rw [eval_getD, E1]; rfl) _ (HK.out.keep hS) _ Tryd.underlying32 rfl HSZ.out ⟨(), .inr rfl, hS⟩
    · have E4 := hval 0 _ 4 rfl rfl (dep_of hdep 0 (by rfl))
      have E5 := hval 1 _ 5 rfl rfl (dep_of hdep 1 (by rfl))
      unfold cl5YesVal at E4 E5
      refine g_plain rfl ?_
      refine does_call 42 #[.pointer (some ⟨s, 0, none⟩), .agg (bcells id)] (by go_simp) ((HHAS.out W hS).mono ?_)
      rintro _ W' ⟨rfl, hb⟩
      exact ⟨_, rfl, (), .inr rfl, hS.trans (hb.mono hS.size)⟩
    · have E6 := hval 2 _ 6 rfl rfl (dep_of hdep 2 (by rfl))
      unfold cl5YesVal at E6
      refine g_plain rfl ?_
      exact does_value (w' := W) (v := .bool true) (by go_simp) ⟨(), .inr rfl, hS⟩
    · have EG := hval 3 _ 7 rfl rfl (dep_of hdep 3 (by rfl))
      unfold cl5YesVal at EG
      exact g_skip rfl rfl rfl EG rfl ⟨(), .inr rfl, hS⟩
    · have EG := hval 3 _ 7 rfl rfl (dep_of hdep 3 (by rfl))
      unfold cl5YesVal at EG
      exact g_skip rfl rfl rfl EG rfl ⟨(), .inr rfl, hS⟩
    · have EG := hval 3 _ 7 rfl rfl (dep_of hdep 3 (by rfl))
      unfold cl5YesVal at EG
      exact g_skip rfl rfl rfl EG rfl ⟨(), .inr rfl, hS⟩
    · have EG := hval 3 _ 7 rfl rfl (dep_of hdep 3 (by rfl))
      unfold cl5YesVal at EG
      exact g_skip rfl rfl rfl EG rfl ⟨(), .inr rfl, hS⟩
    · have EG := hval 3 _ 7 rfl rfl (dep_of hdep 3 (by rfl))
      unfold cl5YesVal at EG
      exact g_skip rfl rfl rfl EG rfl ⟨(), .inr rfl, hS⟩
    · have EG := hval 3 _ 7 rfl rfl (dep_of hdep 3 (by rfl))
      unfold cl5YesVal at EG
      exact g_skip rfl rfl rfl EG rfl ⟨(), .inr rfl, hS⟩
    · have EG := hval 3 _ 7 rfl rfl (dep_of hdep 3 (by rfl))
      unfold cl5YesVal at EG
      exact g_skip rfl rfl rfl EG rfl ⟨(), .inr rfl, hS⟩
    · have EG := hval 3 _ 7 rfl rfl (dep_of hdep 3 (by rfl))
      unfold cl5YesVal at EG
      exact g_skip rfl rfl rfl EG rfl ⟨(), .inr rfl, hS⟩
    · have EG := hval 3 _ 7 rfl rfl (dep_of hdep 3 (by rfl))
      unfold cl5YesVal at EG
      exact g_skip rfl rfl rfl EG rfl ⟨(), .inr rfl, hS⟩
    · have EG := hval 3 _ 7 rfl rfl (dep_of hdep 3 (by rfl))
      unfold cl5YesVal at EG
      exact g_skip rfl rfl rfl EG rfl ⟨(), .inr rfl, hS⟩
    · have EG := hval 3 _ 7 rfl rfl (dep_of hdep 3 (by rfl))
      unfold cl5YesVal at EG
      exact g_skip rfl rfl rfl EG rfl ⟨(), .inr rfl, hS⟩
    · have EG := hval 3 _ 7 rfl rfl (dep_of hdep 3 (by rfl))
      unfold cl5YesVal at EG
      exact g_skip rfl rfl rfl EG rfl ⟨(), .inr rfl, hS⟩
    · have E7 := hval 3 _ 7 rfl rfl (dep_of hdep 3 (by rfl))
      unfold cl5YesVal at E7
      refine g_plain rfl ?_
      exact does_value (w' := W) (v := .bool true) (by go_simp) ⟨(), .inr rfl, hS⟩
    · have E20 := hval 16 _ 20 rfl rfl (dep_of hdep 16 (by rfl))
      unfold cl5YesVal at E20
      refine g_plain rfl ?_
      refine does_call 57 #[.bool true, .int .i64 10] (by go_simp) ((HU.out W).mono ?_)
      rintro _ _ ⟨rfl, rfl⟩
      exact ⟨_, rfl, (), .inr rfl, hS⟩
    · have E21 := hval 17 _ 21 rfl rfl (dep_of hdep 17 (by rfl))
      unfold cl5YesVal at E21
      refine g_plain rfl ?_
      exact does_value (w' := W) (v := .int .i64 (r : Int)) (by go_simp) ⟨(), .inr rfl, hS⟩
  · intro gh W hS
    have HB2 := hid hS
    simp only [putAll, cl5YesVal, Nat.reduceAdd, Nat.zero_add, Act.put, List.setIfInBounds_toArray, List.set_cons_zero, List.set_cons_succ]
    clear hS HC HHAS HM HH HK HU
    go_wp2_with fail
    go_ret
    exact ⟨rfl, HB2.out⟩
end Go.Proofs.YtoogaapjdlhpbaaDoor
/- Contracts of package blob: names, the other checks, refusal. -/
namespace Go.Proofs.YtoogaapjdlhpbaaDoor
open Go.RowKit Crc

/-- the digest of bytes, cut to a width -/
def digB (bs : List UInt8) (v : Nat) : List UInt8 := cutB (sha bs) (v : Int)
theorem digB_length (bs : List UInt8) (v : Nat) : (digB bs v).length = 32 := cutB_length _ _ (sha_length bs)
set_option maxRecDepth 20000 in
set_option maxHeartbeats 1000000 in
theorem names_calls (s : Nat) (wd : Nat) (rm us mv : Value) (id : List UInt8) (B n c : Nat) (A : Option Addr) (bs : List UInt8) (w : World) (hh : Blk w s 54 #[.pointer (some ⟨s, 0, none⟩), .int .i64 (wd : Int), rm, us, mv]) (h1 : 1 ≤ wd) (h2 : wd ≤ 32) (hl : id.length = 32)
    (hs : SB w B A n bs) (hc : n ≤ c) (hn : n ≤ 1099511627776) (hG : Glob w) :
    Calls Tryd.prog 60 #[.pointer (some ⟨s, 0, none⟩), .agg (bcells id), .slice A n c] w fun e w' => e = .returned (.bool (digB bs wd == id)) ∧ Below w.heap.size w w' := by
  have hz := (zero_of_info info26).1
  have K0 := hid (Blk.new w 32 (bcells id))
  have B0 := hid (below_new w (.cells (bcells id) 32))
  have HSZ := hid (show (Tryd.prog.info? 32).map (·.size) = some (bcells id).size from by rw [bcells_size, hl]; kernel_rfl)
  have HEQ := hid (show ∀ W, (Op.equalIn 10000 32 (.agg (bcells (digB bs wd))) (.agg (bcells id))).run Tryd.prog W = .ok (digB bs wd == id) W from fun W => run_equal_arr (P := Tryd.prog) 32 5 32 Tryd.underlying32 Tryd.underlying5 (by kernel_rfl) (digB bs wd) id (digB_length bs wd) hl W)
  have HO := hid (fun W (hb : Below w.heap.size w W) => own_of_calls B n c A bs (wd : Int) W (hs.keep hb) hc (hG.keep hb) hn)
  have ce : cutE (wd : Int) = 0 := by rw [cutE, if_neg (by omega)]
  rw [ce] at HO
  have HD := hid (digB_length bs wd)
  rw [show cutB (sha bs) (wd : Int) = digB bs wd from rfl] at HO
  generalize digB bs wd = D at HEQ HO HD ⊢
  have HZ2 := hid (show (Tryd.prog.info? 32).map (·.size) = some (bcells D).size from by rw [bcells_size, HD.out]; kernel_rfl)
  have HZ3 := hid (show (bcells (zeroB 32)).size = (bcells D).size from by rw [bcells_size, bcells_size, HD.out]; rfl)
  generalize hr : (D == id) = r at HEQ ⊢
  have c1 : (w.alloc (.cells (bcells id) 32)).cell? ⟨s, 1, none⟩ = some (.int .i64 (wd : Int)) := (hh.keep B0.out).cell 1 rfl
  clear hh hs hG ce hl hr
  go_enter Tryd.func60, Tryd.ntmps60
  go_wp2_with fail
  generalize w.alloc (.cells (bcells id) 32) = w1 at K0 B0 c1 ⊢
  refine (HO.out w1 B0.out).mono ?_
  rintro _ w2 ⟨rfl, b2⟩
  have K2 := hid (K0.out.keep b2)
  have B2 := hid (B0.out.trans (b2.mono B0.out.size))
  have K3 := hid (Blk.new w2 32 (bcells (zeroB 32)))
  have B3 := hid (below_new w2 (.cells (bcells (zeroB 32)) 32))
  obtain ⟨q1, q2⟩ := new_set w2 32 (bcells (zeroB 32)) (bcells D)
  have K4 := hid q2; have K5 := hid (K2.out.keep q1); have B5 := hid (B2.out.trans (q1.mono B2.out.size))
  have heq := HEQ.out
  clear b2 c1 K0 B0 HO q1 q2 K2 B2 B3
  go_wp2_with (first
    | (refine wpList_store_blk rfl 32 _ _ rfl w2.heap.size _ rfl rfl 32 _ K3.out HZ2.out HZ3.out (bcells_oneCell _) ?_)
    | (refine wpList_load_blk_g (by rfl) 32 (.tmp 7) rfl w2.heap.size rfl 32 _ K4.out _ _ Tryd.underlying32 HZ2.out ?_)
    | (refine wpList_load_blk_g (by rfl) 32 (.tmp 4) rfl w.heap.size rfl 32 _ K5.out _ _ Tryd.underlying32 HSZ.out ?_))
  go_ret
  exact ⟨rfl, B5.out⟩
end Go.Proofs.YtoogaapjdlhpbaaDoor
/- Contract of package blob: refusal. -/
namespace Go.Proofs.YtoogaapjdlhpbaaDoor
open Go.RowKit Crc

def refFns (p0 p1 p2 : Nat) : List FnV :=
  [⟨56, #[], #[.pointer (some ⟨p0, 0, none⟩)]⟩, ⟨58, #[], #[.pointer (some ⟨p2, 0, none⟩)]⟩,
   ⟨59, #[], #[.pointer (some ⟨p0, 0, none⟩), .pointer (some ⟨p1, 0, none⟩), .pointer (some ⟨p2, 0, none⟩)]⟩,
   ⟨61, #[], #[.pointer (some ⟨p0, 0, none⟩), .pointer (some ⟨p1, 0, none⟩), .pointer (some ⟨p2, 0, none⟩)]⟩,
   ⟨63, #[], #[.pointer (some ⟨p0, 0, none⟩), .pointer (some ⟨p1, 0, none⟩), .pointer (some ⟨p2, 0, none⟩)]⟩]
theorem cl1_calls (b : Bool) (h : Value) (p0 : Nat) (w : World) (hv : Calls Tryd.prog 45 #[h] w fun e w' => e = .returned (.bool b) ∧ w = w') (h0 : w.cell? ⟨p0, 0, none⟩ = some h) :
    Calls Tryd.prog 56 #[.pointer (some ⟨p0, 0, none⟩)] w fun e w' => e = .returned (.int .i64 ((if b then 0 else 1 : Nat) : Int)) ∧ Below w.heap.size w w' := by
  have HU := hid (unless_calls b 1 w)
  have HV := hid hv
  clear hv
  generalize ((if b then 0 else 1 : Nat) : Int) = r at HU ⊢
  go_enter Tryd.func56, Tryd.ntmps56
  go_wp2_with fail
  refine HV.out.mono ?_
  rintro _ _ ⟨rfl, rfl⟩
  go_wp2_with fail
  refine HU.out.mono ?_
  rintro _ _ ⟨rfl, rfl⟩
  go_wp2_with fail
  go_ret
  exact ⟨rfl, Below.refl _ _⟩
theorem cl2_calls (A : Option Addr) (n c p2 : Nat) (w : World) (h2 : w.cell? ⟨p2, 0, none⟩ = some (.slice A n c)) :
    Calls Tryd.prog 58 #[.pointer (some ⟨p2, 0, none⟩)] w fun e w' => e = .returned (.int .i64 ((if decide ((n : Int) ≤ 4096) then 0 else 4 : Nat) : Int)) ∧ Below w.heap.size w w' := by
  have HU := hid (unless_calls (decide ((n : Int) ≤ 4096)) 4 w)
  generalize ((if decide ((n : Int) ≤ 4096) then 0 else 4 : Nat) : Int) = r at HU ⊢
  go_enter Tryd.func58, Tryd.ntmps58
  go_wp2_with fail
  refine HU.out.mono ?_
  rintro _ _ ⟨rfl, rfl⟩
  go_wp2_with fail
  go_ret
  exact ⟨rfl, Below.refl _ _⟩
set_option maxRecDepth 20000 in
theorem cl3_calls (s wd p0 p1 p2 : Nat) (rm us mv : Value) (id : List UInt8) (B n c : Nat) (A : Option Addr) (bs : List UInt8) (w : World) (hh : Blk w s 54 #[.pointer (some ⟨s, 0, none⟩), .int .i64 (wd : Int), rm, us, mv]) (h1 : 1 ≤ wd) (h2 : wd ≤ 32) (hl : id.length = 32)
    (hs : SB w B A n bs) (hc : n ≤ c) (hn : n ≤ 1099511627776) (hG : Glob w) (d0 : w.cell? ⟨p0, 0, none⟩ = some (.pointer (some ⟨s, 0, none⟩))) (d1 : Blk w p1 32 (bcells id)) (d2 : w.cell? ⟨p2, 0, none⟩ = some (.slice A n c)) :
    Calls Tryd.prog 59 #[.pointer (some ⟨p0, 0, none⟩), .pointer (some ⟨p1, 0, none⟩), .pointer (some ⟨p2, 0, none⟩)] w fun e w' => e = .returned (.int .i64 ((if (digB bs wd == id) then 0 else 8 : Nat) : Int)) ∧ Below w.heap.size w w' := by
  have HN := hid (names_calls s wd rm us mv id B n c A bs w hh h1 h2 hl hs hc hn hG)
  have HSZ := hid (show (Tryd.prog.info? 32).map (·.size) = some (bcells id).size from by rw [bcells_size, hl]; kernel_rfl)
  have HU := hid (fun W => unless_calls (digB bs wd == id) 8 W)
  have HD := hid d1
  clear hh hs hG d1
  generalize (digB bs wd == id) = b at HN HU ⊢
  generalize ((if b then 0 else 8 : Nat) : Int) = r at HU ⊢
  go_enter Tryd.func59, Tryd.ntmps59
  go_wp2_with (refine wpList_load_blk rfl 32 _ rfl p1 rfl 32 _ HD.out _ _ Tryd.underlying32 HSZ.out ?_)
  refine HN.out.mono ?_
  rintro _ w1 ⟨rfl, b1⟩
  go_wp2_with fail
  refine (HU.out w1).mono ?_
  rintro _ _ ⟨rfl, rfl⟩
  go_wp2_with fail
  go_ret
  exact ⟨rfl, b1⟩
/-- why bytes cannot be put -/
def e9 (b : BS) (id bs : List UInt8) : Nat := match lookB b.l id with | some x => (if (x == bs) then 0 else 9) | none => 0
def e10 (b : BS) (id bs : List UInt8) : Nat := match lookB b.l id with | some _ => 0 | none => (if decide ((bs.length : Int) ≤ (b.room : Int) - (usedB b.l : Int)) then 0 else 10)
def putErrs (b : BS) (id bs : List UInt8) : List Nat :=
  [0, if decide ((bs.length : Int) ≤ 4096) then 0 else 4, if (digB bs b.width == id) then 0 else 8, e9 b id bs, e10 b id bs]
def putE (b : BS) (id bs : List UInt8) : Nat := firstE (putErrs b id bs)
section
variable {w : World} {F : List Nat} {s m k : Nat} {b : BS} {f : List UInt8 → Option Nat}
theorem e9_calls (hs : StB w F s m k b f) (p0 p1 p2 : Nat) (id : List UInt8) (hl : id.length = 32) (A : Option Addr) (c : Nat) (bs : List UInt8) (hb : SB w w.heap.size A bs.length bs) (h0 : w.cell? ⟨p0, 0, none⟩ = some (.pointer (some ⟨s, 0, none⟩))) (h1 : Blk w p1 32 (bcells id)) (h2 : w.cell? ⟨p2, 0, none⟩ = some (.slice A bs.length c)) :
    Calls Tryd.prog 61 #[.pointer (some ⟨p0, 0, none⟩), .pointer (some ⟨p1, 0, none⟩), .pointer (some ⟨p2, 0, none⟩)] w fun e w' => e = .returned (.int .i64 ((e9 b id bs : Nat) : Int)) ∧ Below w.heap.size w w' := by
  have he := hs.each id hl
  unfold e9
  cases hf : f id with
  | none =>
    rw [hf] at he
    cases hx : lookB b.l id with
    | some x => rw [hx] at he; exact he.elim
    | none => exact cl4No_calls s m 0 k p0 p1 p2 _ _ _ f id A none bs.length c 0 [] [] w hs.hd h0 h1 h2 hs.mp hl hf 0 rfl
  | some g =>
    rw [hf] at he
    cases hx : lookB b.l id with
    | none => rw [hx] at he; exact he.elim
    | some x =>
      rw [hx] at he
      obtain ⟨Ax, cx, k1, k2, k3, k4, k5, k6⟩ := he
      exact cl4Yes_calls s m g k p0 p1 p2 _ _ _ f id A Ax bs.length c cx x bs w hs.hd h0 h1 h2 hs.mp hl hf (k1.cell 0 rfl) k2 hb _ rfl
theorem e10_calls (hs : StB w F s m k b f) (p0 p1 p2 : Nat) (id : List UInt8) (hl : id.length = 32) (A : Option Addr) (c : Nat) (bs : List UInt8) (h0 : w.cell? ⟨p0, 0, none⟩ = some (.pointer (some ⟨s, 0, none⟩))) (h1 : Blk w p1 32 (bcells id)) (h2 : w.cell? ⟨p2, 0, none⟩ = some (.slice A bs.length c)) :
    Calls Tryd.prog 63 #[.pointer (some ⟨p0, 0, none⟩), .pointer (some ⟨p1, 0, none⟩), .pointer (some ⟨p2, 0, none⟩)] w fun e w' => e = .returned (.int .i64 ((e10 b id bs : Nat) : Int)) ∧ Below w.heap.size w w' := by
  have he := hs.each id hl
  have hw : IntKind.i64.wrap ((b.room : Int) - (usedB b.l : Int)) = (b.room : Int) - (usedB b.l : Int) := by
    have h1 := hs.ok.used
    have h2 := hs.ok.r
    exact IntWalk.i64_in _ (by omega)
  unfold e10
  cases hf : f id with
  | none =>
    rw [hf] at he
    cases hx : lookB b.l id with
    | some x => rw [hx] at he; exact he.elim
    | none => exact cl5No_calls s m 0 k p0 p1 p2 _ _ _ f id A bs.length c w hs.hd h0 h1 h2 hs.mp hl hf _ rfl hw
  | some g =>
    rw [hf] at he
    cases hx : lookB b.l id with
    | none => rw [hx] at he; exact he.elim
    | some x => exact cl5Yes_calls s m g k p0 p1 p2 _ _ _ f id A bs.length c w hs.hd h0 h1 h2 hs.mp hl hf 0 rfl hw
theorem ref_do (hs : StB w F s m k b f) (p0 p1 p2 br : Nat) (id : List UInt8) (hl : id.length = 32) (A : Option Addr) (c : Nat) (bs : List UInt8) (hb : SB w w.heap.size A bs.length bs) (hc : bs.length ≤ c) (hn : bs.length ≤ 1099511627776) (hG : Glob w) (h0 : w.cell? ⟨p0, 0, none⟩ = some (.pointer (some ⟨s, 0, none⟩))) (h1 : Blk w p1 32 (bcells id)) (h2 : w.cell? ⟨p2, 0, none⟩ = some (.slice A bs.length c))
    (hr : Blk w br 96 ((refFns p0 p1 p2).map fnV).toArray) :
    Calls Tryd.prog 55 #[.slice (some ⟨br, 0, none⟩) 5 5] w fun e w' => e = .returned (.int .i64 ((putE b id bs : Nat) : Int)) ∧ Below w.heap.size w w' := by
  refine first_calls (putErrs b id bs) (refFns p0 p1 p2) br 5 5 w rfl rfl (by omega) (fun j v hv => hr.cell j (by simpa [List.getElem?_map] using ⟨v, hv, rfl⟩)) (fun j e v he hv hj => ?_)
  match j with
  | 0 =>
    cases he; cases hv
    exact ⟨enters_of Tryd.func56 (by kernel_rfl) rfl, fun W hW => Calls.mono (cl1_calls true _ p0 W (bvalid_calls s _ _ _ _ W (hs.keep hW).hd) (cell_keep h0 hW)) fun _ _ h => ⟨h.1, hW.trans (h.2.mono hW.size)⟩⟩
  | 1 =>
    cases he; cases hv
    exact ⟨enters_of Tryd.func58 (by kernel_rfl) rfl, fun W hW => Calls.mono (cl2_calls A bs.length c p2 W (cell_keep h2 hW)) fun _ _ h => ⟨h.1, hW.trans (h.2.mono hW.size)⟩⟩
  | 2 =>
    cases he; cases hv
    exact ⟨enters_of Tryd.func59 (by kernel_rfl) rfl, fun W hW => Calls.mono (cl3_calls s b.width p0 p1 p2 _ _ _ id w.heap.size bs.length c A bs W (hs.keep hW).hd hs.ok.w1 hs.ok.w2 hl (hb.keepB hW) hc hn (hG.keep hW) (cell_keep h0 hW) (h1.keep hW) (cell_keep h2 hW)) fun _ _ h => ⟨h.1, hW.trans (h.2.mono hW.size)⟩⟩
  | 3 =>
    cases he; cases hv
    exact ⟨enters_of Tryd.func61 (by kernel_rfl) rfl, fun W hW => Calls.mono (e9_calls (hs.keep hW) p0 p1 p2 id hl A c bs (hb.keep hW).fit (cell_keep h0 hW) (h1.keep hW) (cell_keep h2 hW)) fun _ _ h => ⟨h.1, hW.trans (h.2.mono hW.size)⟩⟩
  | 4 =>
    cases he; cases hv
    exact ⟨enters_of Tryd.func63 (by kernel_rfl) rfl, fun W hW => Calls.mono (e10_calls (hs.keep hW) p0 p1 p2 id hl A c bs (cell_keep h0 hW) (h1.keep hW) (cell_keep h2 hW)) fun _ _ h => ⟨h.1, hW.trans (h.2.mono hW.size)⟩⟩
  | j + 5 => cases he
set_option maxRecDepth 20000 in
set_option maxHeartbeats 1000000 in
theorem refusal_calls (hs : StB w F s m k b f) (id : List UInt8) (hl : id.length = 32) (A : Option Addr) (c : Nat) (bs : List UInt8) (hb : SB w w.heap.size A bs.length bs) (hc : bs.length ≤ c) (hn : bs.length ≤ 1099511627776) (hG : Glob w) :
    Calls Tryd.prog 41 #[.pointer (some ⟨s, 0, none⟩), .agg (bcells id), .slice A bs.length c] w fun e w' => e = .returned (.int .i64 ((putE b id bs : Nat) : Int)) ∧ Below w.heap.size w w' := by
  obtain ⟨W, hW, k0, k1, k2, kr, hB⟩ : ∃ W, ((((w.alloc (.cells #[.pointer (some ⟨s, 0, none⟩)] 23)).alloc (.cells (bcells id) 32)).alloc (.cells #[.slice A bs.length c] 33)).alloc (.cells ((refFns w.heap.size (w.heap.size + 1) (w.heap.size + 1 + 1)).map fnV).toArray 96)) = W ∧
      Blk W w.heap.size 23 #[.pointer (some ⟨s, 0, none⟩)] ∧ Blk W (w.heap.size + 1) 32 (bcells id) ∧ Blk W (w.heap.size + 1 + 1) 33 #[.slice A bs.length c] ∧ Blk W (w.heap.size + 1 + 1 + 1) 96 ((refFns w.heap.size (w.heap.size + 1) (w.heap.size + 1 + 1)).map fnV).toArray ∧ Below w.heap.size w W := by
    have a1 := Blk.new w 23 #[.pointer (some ⟨s, 0, none⟩)]
    have z1 := size_new w (.cells #[.pointer (some ⟨s, 0, none⟩)] 23)
    have q1 := below_new w (.cells #[.pointer (some ⟨s, 0, none⟩)] 23)
    generalize w.alloc (.cells #[.pointer (some ⟨s, 0, none⟩)] 23) = w1 at a1 z1 q1 ⊢
    have a2 := Blk.new w1 32 (bcells id)
    have z2 := size_new w1 (.cells (bcells id) 32)
    have q2 := below_new w1 (.cells (bcells id) 32)
    rw [z1] at a2
    generalize w1.alloc (.cells (bcells id) 32) = w2 at a2 z2 q2 ⊢
    have a3 := Blk.new w2 33 #[.slice A bs.length c]
    have z3 := size_new w2 (.cells #[.slice A bs.length c] 33)
    have q3 := below_new w2 (.cells #[.slice A bs.length c] 33)
    rw [z2, z1] at a3
    generalize w2.alloc (.cells #[.slice A bs.length c] 33) = w3 at a3 z3 q3 ⊢
    have a4 := Blk.new w3 96 ((refFns w.heap.size (w.heap.size + 1) (w.heap.size + 1 + 1)).map fnV).toArray
    have q4 := below_new w3 (.cells ((refFns w.heap.size (w.heap.size + 1) (w.heap.size + 1 + 1)).map fnV).toArray 96)
    rw [z3, z2, z1] at a4
    have b2 := q1.trans (q2.mono q1.size)
    have b3 := b2.trans (q3.mono b2.size)
    exact ⟨_, rfl, ((a1.keep q2).keep q3).keep q4, (a2.keep q3).keep q4, a3.keep q4, a4, b3.trans (q4.mono b3.size)⟩
  have HDO := hid (ref_do (hs.keep hB) w.heap.size (w.heap.size + 1) (w.heap.size + 1 + 1) (w.heap.size + 1 + 1 + 1) id hl A c bs (hb.keep hB).fit hc hn (hG.keep hB) (k0.cell 0 rfl) k1 (k2.cell 0 rfl) kr)
  have HB := hid hB
  rw [← hW] at HDO HB
  clear hW k0 k1 k2 kr hB hs hb hG
  generalize hP : putE b id bs = P at HDO ⊢
  clear hP
  go_enter Tryd.func41, Tryd.ntmps41
  go_wp2_with fail
  have hdo : Calls Tryd.prog 55 #[.slice (some ⟨w.heap.size + 1 + 1 + 1, 0, none⟩) 5 5] _ _ := HDO.out
  refine hdo.mono ?_
  rintro _ w2 ⟨rfl, hp⟩
  have HP := hid (HB.out.trans (hp.mono HB.out.size))
  clear hp HDO HB hdo
  go_wp2_with fail
  go_ret
  exact ⟨rfl, HP.out⟩
end
end Go.Proofs.YtoogaapjdlhpbaaDoor
/- Contract of package blob: Put. Written by tools/mkbl.py. -/
namespace Go.Proofs.YtoogaapjdlhpbaaDoor
open Go.RowKit Crc

theorem firstE_all {es : List Nat} (h : firstE es = 0) : ∀ e ∈ es, e = 0 := by
  induction es with
  | nil => intro e he; cases he
  | cons x l ih =>
    by_cases hx : x = 0
    · rw [firstE, if_pos hx] at h
      intro e he
      rcases List.mem_cons.1 he with rfl | he
      · exact hx
      · exact ih h e he
    · rw [firstE, if_neg hx] at h
      exact absurd h hx
/-- a blob put -/
def putB (b : BS) (id bs : List UInt8) : BS := if putE b id bs = 0 ∧ lookB b.l id = none then { b with l := b.l ++ [(id, bs)] } else b
def putI (b : BS) (id bs : List UInt8) : Bool := decide (putE b id bs = 0 ∧ lookB b.l id = none)
theorem lookB_append {l : List (List UInt8 × List UInt8)} {id bs : List UInt8} (x : List UInt8) (h : lookB l id = none) : lookB (l ++ [(id, bs)]) x = if x = id then some bs else lookB l x := by
  unfold lookB at *
  rw [List.find?_append]
  by_cases e : x = id
  · subst e
    have : l.find? (fun p => p.1 == x) = none := by simpa using h
    rw [if_pos rfl, this]
    simp
  · rw [if_neg e]
    have : ([(id, bs)] : List (List UInt8 × List UInt8)).find? (fun p => p.1 == x) = none := by simp [Ne.symm e]
    rw [this]
    cases l.find? (fun p => p.1 == x) <;> rfl
theorem usedB_append (l : List (List UInt8 × List UInt8)) (id bs : List UInt8) : usedB (l ++ [(id, bs)]) = usedB l + bs.length := by simp [usedB]
theorem lookB_none {l : List (List UInt8 × List UInt8)} {id : List UInt8} (h : lookB l id = none) : ∀ p ∈ l, p.1 ≠ id := by
  unfold lookB at h
  simp at h
  intro p hp e
  exact h p.1 p.2 hp e
theorem OKB.put {b : BS} {id bs : List UInt8} (h : OKB b) (hl : id.length = 32) (he : putE b id bs = 0) (hn : lookB b.l id = none) : OKB { b with l := b.l ++ [(id, bs)] } := by
  have ha := firstE_all he
  have h1 := ha (if decide ((bs.length : Int) ≤ 4096) then 0 else 4) (by simp [putErrs])
  have h2 := ha (e10 b id bs) (by simp [putErrs])
  have h3 : bs.length ≤ 4096 := by
    by_cases e : (bs.length : Int) ≤ 4096
    · omega
    · simp [e] at h1
  have h4 : usedB b.l + bs.length ≤ b.room := by
    unfold e10 at h2
    rw [hn] at h2
    by_cases e : (bs.length : Int) ≤ (b.room : Int) - (usedB b.l : Int)
    · omega
    · simp [e] at h2
  refine ⟨h.w1, h.w2, h.r, fun p hp => ?_, fun p hp => ?_, by rw [usedB_append]; exact h4, ?_⟩
  · rcases List.mem_append.1 hp with hp | hp
    · exact h.ids p hp
    · rw [List.mem_singleton.1 hp]; exact hl
  · rcases List.mem_append.1 hp with hp | hp
    · exact h.lens p hp
    · rw [List.mem_singleton.1 hp]; exact h3
  · show ((b.l ++ [(id, bs)]).map (fun p => p.1)).Nodup
    rw [List.map_append, List.nodup_append]
    refine ⟨h.nodup, by simp, fun x hx y hy => ?_⟩
    obtain ⟨p, hp, rfl⟩ := List.mem_map.1 hx
    have : y = id := by simpa using hy
    rw [this]
    exact lookB_none hn p hp
/-- what holds where a blob is put -/
structure PutS (w1 : World) (m k : Nat) (f0 : List UInt8 → Option Nat) (id bs : List UInt8) (f : Nat → Bool) (gh : Nat → Value) (W : World) : Prop where
  chg : Chg [m] w1 W
  mp : f 9 = false → MapP W m k f0
  cl : f 6 = true → Own W w1.heap.size 5 (gh 6) bs.length bs
  bu : f 7 = true → f 6 = true ∧ gh 7 = gh 6
  bx : f 8 = true → f 7 = true ∧ ∃ g, gh 8 = .pointer (some ⟨g, 0, none⟩) ∧ w1.heap.size ≤ g ∧ Blk W g 79 #[gh 7]
  up : f 9 = true → f 8 = true ∧ ∃ g, gh 8 = .pointer (some ⟨g, 0, none⟩) ∧ MapP W m (k + 1) (fun x => if x = id then some g else f0 x)
section
variable {w1 W W' : World} {m k : Nat} {f0 : List UInt8 → Option Nat} {id bs : List UInt8} {f : Nat → Bool} {gh : Nat → Value}
theorem upd_ne {i j : Nat} (h : j ≠ i) : upd f i j = f j := by unfold upd; simp [h]
theorem upd_eq {i : Nat} : upd f i i = true := by unfold upd; simp
theorem updN_ne {G : Type} {g : Nat → G} {i j : Nat} {x : G} (h : j ≠ i) : updN g i x j = g j := by unfold updN; rw [if_neg h]
theorem updN_eq {G : Type} {g : Nat → G} {i : Nat} {x : G} : updN g i x i = x := by unfold updN; rw [if_pos rfl]
theorem PutS.start (hm : MapP w1 m k f0) : PutS w1 m k f0 id bs (fun j => decide (10 ≤ j)) (fun _ => .pointer none) w1.drew :=
  ⟨(Chg.refl _ _).drew, fun _ => hm.drew, fun h => absurd h (by decide), fun h => absurd h (by decide), fun h => absurd h (by decide), fun h => absurd h (by decide)⟩
theorem PutS.step (h : PutS w1 m k f0 id bs f gh W) (hb : Below W.heap.size W W') (i : Nat) (x : Value) (h6 : 6 ≠ i) (h7 : 7 ≠ i) (h8 : 8 ≠ i) (h9 : 9 ≠ i) : PutS w1 m k f0 id bs (upd f i) (updN gh i x) W' where
  chg := h.chg.trans (Chg.of_below (L := []) hb) (fun _ hn => by cases hn)
  mp := fun e => by rw [upd_ne h9] at e; exact (h.mp e).keep hb
  cl := fun e => by rw [upd_ne h6] at e; rw [updN_ne h6]; exact (h.cl e).keep hb
  bu := fun e => by rw [upd_ne h7] at e; rw [upd_ne h6, updN_ne h6, updN_ne h7]; exact h.bu e
  bx := fun e => by
    rw [upd_ne h8] at e
    rw [upd_ne h7, updN_ne h8, updN_ne h7]
    obtain ⟨k1, g, k2, k3, k4⟩ := h.bx e
    exact ⟨k1, g, k2, k3, k4.keep hb⟩
  up := fun e => by
    rw [upd_ne h9] at e
    rw [upd_ne h8, updN_ne h8]
    obtain ⟨k1, g, k2, k3⟩ := h.up e
    exact ⟨k1, g, k2, k3.keep hb⟩
theorem PutS.clone (h : PutS w1 m k f0 id bs f gh W) {v : Value} (hb : Below W.heap.size W W') (ho : Own W' W.heap.size 5 v bs.length bs) (hf : f 6 = false) : PutS w1 m k f0 id bs (upd f 6) (updN gh 6 v) W' where
  chg := h.chg.trans (Chg.of_below (L := []) hb) (fun _ hn => by cases hn)
  mp := fun e => by rw [upd_ne (by decide)] at e; exact (h.mp e).keep hb
  cl := fun _ => by rw [updN_eq]; exact ho.lower h.chg.size
  bu := fun e => by rw [upd_ne (by decide)] at e; have := (h.bu e).1; rw [hf] at this; cases this
  bx := fun e => by rw [upd_ne (by decide)] at e; have := (h.bu (h.bx e).1).1; rw [hf] at this; cases this
  up := fun e => by rw [upd_ne (by decide)] at e; have := (h.bu (h.bx (h.up e).1).1).1; rw [hf] at this; cases this
theorem PutS.build (h : PutS w1 m k f0 id bs f gh W) (h6 : f 6 = true) (hf : f 7 = false) : PutS w1 m k f0 id bs (upd f 7) (updN gh 7 (gh 6)) W where
  chg := h.chg
  mp := fun e => by rw [upd_ne (by decide)] at e; exact h.mp e
  cl := fun e => by rw [upd_ne (by decide)] at e; rw [updN_ne (by decide)]; exact h.cl e
  bu := fun _ => by rw [upd_ne (by decide), updN_eq, updN_ne (by decide)]; exact ⟨h6, rfl⟩
  bx := fun e => by rw [upd_ne (by decide)] at e; have := (h.bx e).1; rw [hf] at this; cases this
  up := fun e => by rw [upd_ne (by decide)] at e; have := (h.bx (h.up e).1).1; rw [hf] at this; cases this
theorem PutS.box (h : PutS w1 m k f0 id bs f gh W) (h7 : f 7 = true) (hf : f 8 = false) : PutS w1 m k f0 id bs (upd f 8) (updN gh 8 (.pointer (some ⟨W.heap.size, 0, none⟩))) (W.alloc (.cells #[gh 7] 79)) where
  chg := h.chg.trans (Chg.of_below (L := []) (below_new W _)) (fun _ hn => by cases hn)
  mp := fun e => by rw [upd_ne (by decide)] at e; exact (h.mp e).keep (below_new W _)
  cl := fun e => by rw [upd_ne (by decide)] at e; rw [updN_ne (by decide)]; exact (h.cl e).keep (below_new W _)
  bu := fun e => by rw [upd_ne (by decide)] at e; rw [upd_ne (by decide), updN_ne (by decide), updN_ne (by decide)]; exact h.bu e
  bx := fun _ => by
    rw [upd_ne (by decide), updN_eq, updN_ne (by decide)]
    exact ⟨h7, _, rfl, h.chg.size, Blk.new W _ _⟩
  up := fun e => by rw [upd_ne (by decide)] at e; have := (h.up e).1; rw [hf] at this; cases this
theorem PutS.upd_ (h : PutS w1 m k f0 id bs f gh W) (h8 : f 8 = true) (hf : f 9 = false) (hl : id.length = 32) (hk : k < maxLen) (hm1 : m < w1.heap.size) : ∃ g W', gh 8 = .pointer (some ⟨g, 0, none⟩) ∧ (Instr.mapUpdate 52 (.map (some m)) (.agg (bcells id)) (.pointer (some ⟨g, 0, none⟩))).run Tryd.prog W = .ok () W' ∧ PutS w1 m k f0 id bs (upd f 9) (updN gh 9 (.pointer none)) W' := by
  obtain ⟨k1, g, k2, k3, k4⟩ := h.bx h8
  obtain ⟨W', hrun, hm, hg⟩ := (h.mp hf).store hl hk g
  have hne : g ≠ m := fun e => by omega
  refine ⟨g, W', k2, hrun, ?_⟩
  have hc : Chg [m] W W' := Chg.of_grown hg (fun g' e => by cases e; simp)
  refine ⟨h.chg.trans hc (fun b hb => .inl hb), fun e => ?_, fun e => ?_, fun e => ?_, fun _ => ?_, fun _ => ?_⟩
  · rw [upd_eq] at e; cases e
  · rw [upd_ne (by decide)] at e
    rw [updN_ne (by decide)]
    refine (h.cl e).chg hc (fun g' hg' => ?_)
    intro hm'
    have := List.mem_singleton.1 hm'
    subst this
    have := ((h.cl e).block g' hg').1
    omega
  · rw [upd_ne (by decide)] at e; rw [upd_ne (by decide), updN_ne (by decide), updN_ne (by decide)]; exact h.bu e
  · rw [upd_ne (by decide), updN_ne (by decide), updN_ne (by decide)]
    exact ⟨k1, g, k2, k3, k4.grown hg (by simpa using Ne.symm hne)⟩
  · rw [upd_ne (by decide), updN_ne (by decide)]
    exact ⟨h8, g, k2, hm⟩
end
def put6Val (s m : Nat) (id : List UInt8) (A : Option Addr) (c : Nat) (bs : List UInt8) : Nat → Value → Value
  | 0, _ => .pointer (some ⟨s, 0, none⟩)
  | 1, _ => .pointer (some ⟨s, 0, none⟩)
  | 2, _ => .pointer (some ⟨s, 4, none⟩)
  | 3, _ => .map (some m)
  | 4, _ => .agg (bcells id)
  | 5, _ => .slice A bs.length c
  | 6, k => k
  | 7, k => .agg #[k]
  | 8, k => k
  | _, _ => undef
section
variable {w : World} {F : List Nat} {s m k : Nat} {b : BS} {f0 : List UInt8 → Option Nat}
theorem bhas_calls (hs : StB w F s m k b f0) (id : List UInt8) (hl : id.length = 32) : Calls Tryd.prog 42 #[.pointer (some ⟨s, 0, none⟩), .agg (bcells id)] w fun e w' => e = .returned (.bool (lookB b.l id).isSome) ∧ Below w.heap.size w w' := by
  have he := hs.each id hl
  cases hf : f0 id with
  | none =>
    rw [hf] at he
    cases hx : lookB b.l id with
    | some x => rw [hx] at he; exact he.elim
    | none => exact hasNo_calls s m k _ _ _ f0 id w hs.hd hs.mp hl hf
  | some g =>
    rw [hf] at he
    cases hx : lookB b.l id with
    | none => rw [hx] at he; exact he.elim
    | some x => exact hasYes_calls s m k g _ _ _ f0 id w hs.hd hs.mp hl hf
theorem cell_not_map {w : World} {p : Addr} {v : Value} {m k : Nat} {f : List UInt8 → Option Nat} (h : w.cell? p = some v) (hm : MapP w m k f) : p.block ≠ m := fun e => by
  obtain ⟨D, ⟨es, cl, hb, -⟩, -⟩ := hm
  unfold World.cell? at h
  rw [e, hb] at h
  cases h
theorem SB.chgMap {w w' : World} {A : Option Addr} {n m k : Nat} {bs : List UInt8} {f : List UInt8 → Option Nat} (h : SB w w.heap.size A n bs) (hm : MapP w m k f) (hc : Chg [m] w w') : SB w' w'.heap.size A n bs :=
  ⟨h.1, fun hn => by
    obtain ⟨b, off, e, hlt, hcell⟩ := h.2 hn
    have hl : 0 < bs.length := by rw [h.1]; exact hn
    have hne := cell_not_map (hcell 0 bs[0] (List.getElem?_eq_getElem hl)) hm
    exact ⟨b, off, e, Nat.lt_of_lt_of_le hlt hc.size, fun j x hj => cell_chg (hcell j x hj) hc (by simpa using hne)⟩⟩
/-- behind the steps: the store that holds the blob -/
theorem put_end {w1 W : World} {A : Option Addr} {c g : Nat} (hs : StB w1 F s m k b f0) {id bs : List UInt8} (hl : id.length = 32) (he : putE b id bs = 0) (hn : lookB b.l id = none)
    (hc : Chg [m] w1 W) (ho : Own W w1.heap.size 5 (.slice A bs.length c) bs.length bs) (hg : w1.heap.size ≤ g) (hb : Blk W g 79 #[.slice A bs.length c]) (hm : MapP W m (k + 1) (fun x => if x = id then some g else f0 x)) :
    ∃ F', StB (W.setCell ⟨s, 3, none⟩ (.int .i64 ((usedB b.l : Int) + (bs.length : Int)))) F' s m (k + 1) { b with l := b.l ++ [(id, bs)] } (fun x => if x = id then some g else f0 x) ∧ Chg F w1 (W.setCell ⟨s, 3, none⟩ (.int .i64 ((usedB b.l : Int) + (bs.length : Int)))) ∧ ∀ x ∈ F', x ∈ F ∨ w1.heap.size ≤ x := by
  have hsl := hs.hd.lt
  have hml := hs.mp.lt
  have hgr := grown_setCell W s 3 (.int .i64 ((usedB b.l : Int) + (bs.length : Int)))
  have hset := (hs.hd.chg hc (by simpa using hs.ne)).set_ 3 (.int .i64 ((usedB b.l : Int) + (bs.length : Int)))
  generalize W.setCell ⟨s, 3, none⟩ (.int .i64 ((usedB b.l : Int) + (bs.length : Int))) = W2 at hgr hset ⊢
  have hc2 : Chg [s, m] w1 W2 := (hc.more (fun b hb => .inl (by simp at hb; simp [hb]))).trans (Chg.of_grown (L := [s]) hgr (fun g' e => by cases e; simp)) (fun b hb => .inl (by simp at hb; simp [hb]))
  have hob := ho.block
  obtain ⟨A', c', e1, hcc, hsb, -⟩ := ho.sb
  simp only [Value.slice.injEq, true_and] at e1
  obtain ⟨rfl, rfl⟩ := e1
  refine ⟨F ++ [g] ++ (A.map (·.block)).toList, ⟨hs.ok.put hl he hn, ?_, hm.grown hgr (by simpa using hs.ne), by simp [hs.sin], by simp [hs.min_], hs.ne, fun x hx => ?_, fun x hx => ?_⟩, hc2.more (fun b hb => ?_), fun x hx => ?_⟩
  · have e : bcell s m { b with l := b.l ++ [(id, bs)] } = (bcell s m b).setIfInBounds 3 (.int .i64 ((usedB b.l : Int) + (bs.length : Int))) := by
      unfold bcell
      simp [usedB_append]
    rw [e]
    exact hset
  · show ElB W2 _ s m (if x = id then some g else f0 x) (lookB (b.l ++ [(id, bs)]) x)
    rw [lookB_append x hn]
    by_cases e : x = id
    · rw [if_pos e, if_pos e]
      have hlen : bs.length ≤ 4096 := (hs.ok.put hl he hn).lens (id, bs) (by simp)
      refine ⟨A, c, hb.grown hgr (by intro e2; cases e2; omega), (hsb.chg (Chg.of_grown (L := [s]) hgr (fun g' e2 => by cases e2; simp)) (fun b' off e2 _ => ?_)).more hgr.size, hcc, hlen, ⟨by simp, by omega, by omega⟩, fun b' off sp e2 => ?_⟩
      · subst e2
        have := hob b' rfl
        simp
        omega
      · subst e2
        have := hob b' rfl
        exact ⟨by simp, by omega, by omega⟩
    · rw [if_neg e, if_neg e]
      exact (hs.each x hx).chg hc2 (fun b' _ h1 h2 hm' => by simp at hm'; omega) (fun b' hb' => by simp [hb'])
  · rcases List.mem_append.1 hx with hx | hx
    · rcases List.mem_append.1 hx with hx | hx
      · exact Nat.lt_of_lt_of_le (hs.lt x hx) hc2.size
      · rw [List.mem_singleton.1 hx]; exact Nat.lt_of_lt_of_le hb.lt hgr.size
    · cases A with
      | none => simp at hx
      | some a => simp at hx; rw [hx]; exact Nat.lt_of_lt_of_le (hob a.block rfl).2 hgr.size
  · simp at hb
    rcases hb with rfl | rfl
    · exact .inl hs.sin
    · exact .inl hs.min_
  · rcases List.mem_append.1 hx with hx | hx
    · rcases List.mem_append.1 hx with hx | hx
      · exact .inl hx
      · rw [List.mem_singleton.1 hx]; exact .inr hg
    · cases A with
      | none => simp at hx
      | some a => simp at hx; rw [hx]; exact .inr (hob a.block rfl).1
set_option maxRecDepth 20000 in
set_option maxHeartbeats 2000000 in
theorem put_calls (hs : StB w F s m k b f0) (id : List UInt8) (hl : id.length = 32) (A : Option Addr) (c : Nat) (bs : List UInt8) (hb : SB w w.heap.size A bs.length bs) (hc : bs.length ≤ c) (hn : bs.length ≤ 1099511627776) (hG : Glob w) (hk : k ≤ 1000000) :
    Calls Tryd.prog 13 #[.pointer (some ⟨s, 0, none⟩), .agg (bcells id), .slice A bs.length c] w fun e w' => e = .returned (.tuple #[.bool (putI b id bs), .int .i64 ((putE b id bs : Nat) : Int)]) ∧ ∃ F' k' f', StB w' F' s m k' (putB b id bs) f' ∧ k' ≤ k + 1 ∧ Chg F w w' ∧ ∀ x ∈ F', x ∈ F ∨ w.heap.size ≤ x := by
  have HK0 := hid (Blk.new w 32 (bcells id))
  have bb := below_new w (.cells (bcells id) 32)
  have HSZ := hid (show (Tryd.prog.info? 32).map (·.size) = some (bcells id).size from by rw [bcells_size, hl]; kernel_rfl)
  have HS := hid (hs.keep bb); have HBB := hid bb; have HSB := hid (hb.keep bb)
  have HR := hid (refusal_calls (hs.keep bb) id hl A c bs (hb.keep bb).fit hc hn (hG.keep bb))
  have HL := hid hl
  clear hs bb hb hG
  by_cases hE : putE b id bs = 0
  · rw [hE] at HR
    by_cases hx : lookB b.l id = none
    · have HP1 := hid (show putB b id bs = { b with l := b.l ++ [(id, bs)] } from if_pos ⟨hE, hx⟩)
      have HP2 := hid (show putI b id bs = true from by unfold putI; simp [hE, hx])
      rw [hE, HP1.out, HP2.out]
      have HE := hid hE; have HX := hid hx
      clear hE hx HP1 HP2
      go_enter Tryd.func13, Tryd.ntmps13
      go_wp2_with (refine wpList_load_blk rfl 32 _ rfl w.heap.size rfl 32 _ HK0.out _ _ Tryd.underlying32 HSZ.out ?_)
      generalize w.alloc (.cells (bcells id) 32) = w1 at HK0 HS HBB HSB HR ⊢
      refine HR.out.mono ?_
      rintro _ w2 ⟨rfl, b2⟩
      rw [show ((0 : Nat) : Int) = 0 from rfl]
      have HK2 := hid (HK0.out.keep b2); have HS2 := hid (HS.out.keep b2); have HB2 := hid (HBB.out.trans (b2.mono HBB.out.size)); have HSB2 := hid (HSB.out.keep b2)
      have HH := hid (bhas_calls HS2.out id hl)
      rw [HX.out] at HH
      clear b2 HK0 HS HBB HSB HR
      go_wp2_with (refine wpList_load_blk rfl 32 _ rfl w.heap.size rfl 32 _ HK2.out _ _ Tryd.underlying32 HSZ.out ?_)
      refine HH.out.mono ?_
      rintro _ w3 ⟨rfl, b3⟩
      have HK := hid (HK2.out.keep b3); have HS3 := hid (HS2.out.keep b3); have HB3 := hid (HB2.out.trans (b3.mono HB2.out.size)); have HSB3 := hid (HSB2.out.keep b3)
      clear b3 HK2 HS2 HB2 HSB2 HH
      dsimp only [Option.isSome]
      go_wp2_with fail
      generalize hq : w.heap.size = q at HK ⊢
      have HQM := hid (show q ∉ [m] from by
        intro hm
        have h1 := List.mem_singleton.1 hm
        obtain ⟨D, ⟨es, cl, hb, -⟩, -⟩ := HS3.out.mp
        have h2 := HK.out
        rw [Blk, h1, hb] at h2
        cases h2)
      have HSM := hid (show s ∉ [m] from by simpa using HS3.out.ne)
      have HC := hid (fun W (hc : Chg [m] w3 W) => (((HS3.out.hd.chg hc HSM.out).cell 4 rfl) : W.cell? ⟨s, 4, none⟩ = some (.map (some m))))
      have HSBm := hid (fun W (hc : Chg [m] w3 W) => (SB.chgMap HSB3.out.fit HS3.out.mp hc))
      have HCL := hid (fun W (hcc : Chg [m] w3 W) => bl_clone W.heap.size bs.length c A bs W (HSBm.out W hcc) hc hn)
      have HMP := hid HS3.out.mp; have HN := hid (show k < maxLen from by unfold maxLen; omega); have HM1 := hid HS3.out.mp.lt
      refine wp_region_invG 37 (.pointer none) (put6Val s m id A c bs) (PutS w3 m k f0 id bs) (by kernel_rfl) (by kernel_rfl) (by exact Nat.le_refl 37) ?_ ?_ ?_
      · exact PutS.start HMP.out
      · intro i o f gh a W hi hf hdep hsame hcl hval hS
        rcases i with _ | _ | _ | _ | _ | _ | _ | _ | _ | _ | i
        all_goals simp only [List.getElem?_cons_succ, List.getElem?_cons_zero, List.getElem?_nil, Option.some.injEq, reduceCtorEq] at hi
        all_goals subst hi
        · have E0 : a.tmps[0]? = some (.pointer (some ⟨s, 0, none⟩)) := (same_of hsame 0 (by rfl)).trans rfl
          refine g_plain rfl ?_
          exact does_value (w' := W) (v := .pointer (some ⟨s, 0, none⟩)) (by go_simp) ⟨.pointer none, .inr rfl, hS.step (Below.refl _ _) 0 (.pointer none) (by decide) (by decide) (by decide) (by decide)⟩
        · have E19 := hval 0 _ 19 rfl rfl (dep_of hdep 0 (by rfl))
          unfold put6Val at E19
          have c4 := HC.out W hS.chg
          refine g_plain rfl ?_
          exact does_value (w' := W) (v := .pointer (some ⟨s, 0, none⟩)) (by go_simp) ⟨.pointer none, .inr rfl, hS.step (Below.refl _ _) 1 (.pointer none) (by decide) (by decide) (by decide) (by decide)⟩
        · have E20 := hval 1 _ 20 rfl rfl (dep_of hdep 1 (by rfl))
          unfold put6Val at E20
          refine g_plain rfl ?_
          exact does_value (w' := W) (v := .pointer (some ⟨s, 4, none⟩)) (by go_simp) ⟨.pointer none, .inr rfl, hS.step (Below.refl _ _) 2 (.pointer none) (by decide) (by decide) (by decide) (by decide)⟩
        · have E21 := hval 2 _ 21 rfl rfl (dep_of hdep 2 (by rfl))
          unfold put6Val at E21
          have c4 := HC.out W hS.chg
          refine g_plain rfl ?_
          exact does_value (w' := W) (v := .map (some m)) (by go_simp) ⟨.pointer none, .inr rfl, hS.step (Below.refl _ _) 3 (.pointer none) (by decide) (by decide) (by decide) (by decide)⟩
        · have E4 : a.tmps[4]? = some (.pointer (some ⟨q, 0, none⟩)) := (same_of hsame 4 (by rfl)).trans rfl
          refine g_plain rfl ?_
          exact does_load _ _ rfl q (by rw [eval_getD, E4]; rfl) _ (HK.out.chg hS.chg HQM.out) _ Tryd.underlying32 rfl HSZ.out ⟨.pointer none, .inr rfl, hS.step (Below.refl _ _) 4 (.pointer none) (by decide) (by decide) (by decide) (by decide)⟩
        · have E2 : a.tmps[2]? = some (.slice A bs.length c) := (same_of hsame 2 (by rfl)).trans rfl
          refine g_plain rfl ?_
          exact does_value (w' := W) (v := .slice A bs.length c) (by go_simp) ⟨.pointer none, .inr rfl, hS.step (Below.refl _ _) 5 (.pointer none) (by decide) (by decide) (by decide) (by decide)⟩
        · have E24 := hval 5 _ 24 rfl rfl (dep_of hdep 5 (by rfl))
          unfold put6Val at E24
          refine g_plain rfl ?_
          refine does_call 43 #[.slice A bs.length c] (by go_simp) ((HCL.out W hS.chg).mono ?_)
          rintro _ W' ⟨v, rfl, ho, hb⟩
          exact ⟨v, rfl, v, .inr rfl, hS.clone hb ho hf⟩
        · have h6 := dep_of hdep 6 (by rfl)
          have E25 := hval 6 _ 25 rfl rfl h6
          dsimp only [put6Val] at E25
          obtain ⟨A6, c6, e6, -⟩ := (hS.cl h6).sb
          rw [e6] at E25
          refine g_plain rfl ?_
          exact does_value (w' := W) (v := .agg #[.slice A6 bs.length c6]) (by go_simp) ⟨gh 6, .inr (by rw [e6]; rfl), hS.build h6 hf⟩
        · have E26 := hval 7 _ 26 rfl rfl (dep_of hdep 7 (by rfl))
          unfold put6Val at E26
          refine g_plain rfl ?_
          exact does_value (w' := W.alloc (.cells #[gh 7] 79)) (v := .pointer (some ⟨W.heap.size, 0, none⟩)) (by go_simp) ⟨.pointer (some ⟨W.heap.size, 0, none⟩), .inr rfl, hS.box (dep_of hdep 7 (by rfl)) hf⟩
        · have E22 := hval 3 _ 22 rfl rfl (dep_of hdep 3 (by rfl))
          have E23 := hval 4 _ 23 rfl rfl (dep_of hdep 4 (by rfl))
          have E27 := hval 8 _ 27 rfl rfl (dep_of hdep 8 (by rfl))
          unfold put6Val at E22 E23 E27
          refine g_plain rfl ?_
          obtain ⟨g, W', hg8, hrun, hS'⟩ := hS.upd_ (dep_of hdep 8 (by rfl)) hf HL.out HN.out HM1.out
          rw [hg8] at E27
          exact does_skip (w' := W') (by go_simp) ⟨.pointer none, .inl rfl, hS'⟩
      · intro gh W hS
        obtain ⟨-, g, eg, hm2⟩ := hS.up rfl
        obtain ⟨-, g2, eg2, hgle, hblk⟩ := hS.bx rfl
        rw [eg] at eg2
        obtain rfl : g = g2 := by simpa using eg2
        have hcl := hS.cl rfl
        have h76 := (hS.bu rfl).2
        obtain ⟨A6, c6, e6, -⟩ := hcl.sb
        rw [h76, e6] at hblk
        rw [e6] at hcl
        have HEnd := hid (put_end HS3.out HL.out HE.out HX.out hS.chg hcl hgle hblk hm2)
        have hb3 := HS3.out.hd.chg hS.chg HSM.out
        have c3 : W.cell? ⟨s, 3, none⟩ = some (.int .i64 (usedB b.l : Int)) := hb3.cell 3 rfl
        have z3 : W.frozen? ⟨s, 3, none⟩ = false := hb3.frozen 3
        have hu := HS3.out.ok.used
        have hro := HS3.out.ok.r
        have hw : IntKind.i64.wrap ((usedB b.l : Int) + (bs.length : Int)) = (usedB b.l : Int) + (bs.length : Int) := IntWalk.i64_in _ (by omega)
        simp only [putAll, put6Val, Nat.reduceAdd, Nat.zero_add, Act.put, List.setIfInBounds_toArray, List.set_cons_zero, List.set_cons_succ]
        rw [eg, h76, e6]
        clear hS hcl h76 eg eg2 e6 hblk hm2 hb3 HK HQM HSM HC HSBm HCL HMP HN HM1 hu hro HSB3 HE HX
        go_wp2_with fail
        go_ret2
        obtain ⟨F', k1, k2, k3⟩ := HEnd.out
        exact ⟨rfl, F', k + 1, _, k1, Nat.le_refl _, (Chg.of_below (L := F) HB3.out).trans k2 (fun x hx => .inl hx), fun x hx => (k3 x hx).imp (fun h => h) (fun h => by have := HB3.out.size; omega)⟩
    · have HP1 := hid (show putB b id bs = b from if_neg (fun h => hx h.2))
      have HP2 := hid (show putI b id bs = false from by unfold putI; simp [hx])
      rw [hE, HP1.out, HP2.out]
      obtain ⟨x, hxe⟩ : ∃ x, lookB b.l id = some x := Option.ne_none_iff_exists'.1 hx
      clear hE hx HP1 HP2
      go_enter Tryd.func13, Tryd.ntmps13
      go_wp2_with (refine wpList_load_blk rfl 32 _ rfl w.heap.size rfl 32 _ HK0.out _ _ Tryd.underlying32 HSZ.out ?_)
      generalize w.alloc (.cells (bcells id) 32) = w1 at HK0 HS HBB HSB HR ⊢
      refine HR.out.mono ?_
      rintro _ w2 ⟨rfl, b2⟩
      rw [show ((0 : Nat) : Int) = 0 from rfl]
      have HK2 := hid (HK0.out.keep b2); have HS2 := hid (HS.out.keep b2); have HB2 := hid (HBB.out.trans (b2.mono HBB.out.size))
      have HH := hid (bhas_calls HS2.out id hl)
      rw [hxe] at HH
      clear b2 HK0 HS HBB HSB HR hxe
      go_wp2_with (refine wpList_load_blk rfl 32 _ rfl w.heap.size rfl 32 _ HK2.out _ _ Tryd.underlying32 HSZ.out ?_)
      refine HH.out.mono ?_
      rintro _ w3 ⟨rfl, b3⟩
      have HS3 := hid (HS2.out.keep b3); have HB3 := hid (HB2.out.trans (b3.mono HB2.out.size))
      clear b3 HK2 HS2 HB2 HH
      dsimp only [Option.isSome]
      go_wp2_with fail
      go_ret2
      exact ⟨rfl, F, k, _, HS3.out, by omega, Chg.of_below HB3.out, fun x hx => .inl hx⟩
  · have HP1 := hid (show putB b id bs = b from if_neg (fun h => hE h.1))
    have HP2 := hid (show putI b id bs = false from by unfold putI; simp [hE])
    rw [HP1.out, HP2.out]
    have hE' : ¬ ((putE b id bs : Nat) : Int) = 0 := by omega
    generalize putE b id bs = E at HR hE' ⊢
    clear hE HP1 HP2
    go_enter Tryd.func13, Tryd.ntmps13
    go_wp2_with (refine wpList_load_blk rfl 32 _ rfl w.heap.size rfl 32 _ HK0.out _ _ Tryd.underlying32 HSZ.out ?_)
    generalize w.alloc (.cells (bcells id) 32) = w1 at HK0 HS HBB HSB HR ⊢
    refine HR.out.mono ?_
    rintro _ w2 ⟨rfl, b2⟩
    have HS2 := hid (HS.out.keep b2); have HB2 := hid (HBB.out.trans (b2.mono HBB.out.size))
    clear b2 HK0 HS HBB HSB HR
    go_wp2_with fail
    go_ret2
    exact ⟨rfl, F, k, _, HS2.out, by omega, Chg.of_below HB2.out, fun x hx => .inl hx⟩
end
end Go.Proofs.YtoogaapjdlhpbaaDoor
