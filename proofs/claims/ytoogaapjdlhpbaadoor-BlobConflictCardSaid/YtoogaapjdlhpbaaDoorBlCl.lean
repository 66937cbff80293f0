/- Contracts of package blob: the checks that draw their order. Written by tools/mkbl.py. -/
import Derived.Test.YtoogaapjdlhpbaaDoorBlHas
namespace Go.Proofs.YtoogaapjdlhpbaaDoor
open Go.RowKit
def cl4NoVal (s : Nat) (r : Nat) (id : List UInt8) : Nat → Unit → Value
  | 0, _ => .pointer (some ⟨s, 0, none⟩)
  | 1, _ => .agg (bcells id)
  | 2, _ => .bool false
  | 3, _ => .bool true
  | 4, _ => .bool true
  | 5, _ => undef
  | 6, _ => undef
  | 7, _ => undef
  | 8, _ => undef
  | 9, _ => undef
  | 10, _ => undef
  | 11, _ => undef
  | 12, _ => undef
  | 13, _ => undef
  | 14, _ => undef
  | 15, _ => undef
  | 16, _ => .bool true
  | 17, _ => .int .i64 (r : Int)
  | 18, _ => .int .i64 (r : Int)
  | _, _ => undef
set_option maxRecDepth 20000 in
set_option maxHeartbeats 2000000 in
theorem cl4No_calls (s m _g k p0 p1 p2 : Nat) (wd rm us : Value) (f : List UInt8 → Option Nat) (id : List UInt8) (A _Ax : Option Addr) (n c _cx : Nat) (_x _bs : List UInt8) (w : World) (hh : Blk w s 54 #[.pointer (some ⟨s, 0, none⟩), wd, rm, us, .map (some m)]) (h0 : w.cell? ⟨p0, 0, none⟩ = some (.pointer (some ⟨s, 0, none⟩))) (h1 : Blk w p1 32 (bcells id)) (h2 : w.cell? ⟨p2, 0, none⟩ = some (.slice A n c)) (hm : MapP w m k f) (hl : id.length = 32) (hf : f id = none) (r : Nat) (hr : (if true then 0 else 9) = r) :
    Calls Tryd.prog 61 #[.pointer (some ⟨p0, 0, none⟩), .pointer (some ⟨p1, 0, none⟩), .pointer (some ⟨p2, 0, none⟩)] w fun e w' => e = .returned (.int .i64 (r : Int)) ∧ Below w.heap.size w w' := by
  have HK := hid h1
  have HSZ := hid (show (Tryd.prog.info? 32).map (·.size) = some (bcells id).size from by rw [bcells_size, hl]; kernel_rfl)
  have HH := hid hh; have HM := hid hm; have H0 := hid h0; have H2 := hid h2
  clear hh hm h0 h1 h2
  have HU := hid (show ∀ W, Calls Tryd.prog 57 #[.bool true, .int .i64 9] W fun e w' => e = .returned (.int .i64 (r : Int)) ∧ W = w' from fun W => by
    have h := unless_calls true 9 W
    rw [hr] at h
    exact h)
  clear hr
  have HHAS := hid (fun W (hb : Below w.heap.size w W) => hasNo_calls s m k wd (rm) (us) f id W (HH.out.keep hb) (HM.out.keep hb) hl hf)
  have HC := hid (fun W (hb : Below w.heap.size w W) => (⟨cell_keep H0.out hb, cell_keep H2.out hb, (HH.out.keep hb).cell 4 rfl, trivial⟩ : W.cell? ⟨p0, 0, none⟩ = some (.pointer (some ⟨s, 0, none⟩)) ∧ W.cell? ⟨p2, 0, none⟩ = some (.slice A n c) ∧ W.cell? ⟨s, 4, none⟩ = some (.map (some m)) ∧ True))
  go_enter Tryd.func61, Tryd.ntmps61
  go_wp2_with fail
  refine wp_region_invG 22 () (cl4NoVal s r id) (fun _ _ W => Below w.heap.size w W) (by kernel_rfl) (by kernel_rfl) (by exact Nat.le_refl 22) ?_ ?_ ?_
  · exact (Below.refl _ _).drew
  · intro i o f gh a W hi hf hdep hsame hcl hval hS
    rcases i with _ | _ | _ | _ | _ | _ | _ | _ | _ | _ | _ | _ | _ | _ | _ | _ | _ | _ | _ | i
    all_goals simp only [List.getElem?_cons_succ, List.getElem?_cons_zero, List.getElem?_nil, Option.some.injEq, reduceCtorEq] at hi
    all_goals subst hi
    · have E0 : a.tmps[0]? = some (.pointer (some ⟨p0, 0, none⟩)) := (same_of hsame 0 (by rfl)).trans rfl
      obtain ⟨c0, c2, c4, cg⟩ := HC.out W hS
      refine g_plain rfl ?_
      exact does_value (w' := W) (v := .pointer (some ⟨s, 0, none⟩)) (by go_simp) ⟨(), .inr rfl, hS⟩
    · have E1 : a.tmps[1]? = some (.pointer (some ⟨p1, 0, none⟩)) := (same_of hsame 1 (by rfl)).trans rfl
      refine g_plain rfl ?_
      exact does_load _ _ rfl p1 (by rw [eval_getD, E1]; rfl) _ (HK.out.keep hS) _ Tryd.underlying32 rfl HSZ.out ⟨(), .inr rfl, hS⟩
    · have E4 := hval 0 _ 4 rfl rfl (dep_of hdep 0 (by rfl))
      have E5 := hval 1 _ 5 rfl rfl (dep_of hdep 1 (by rfl))
      unfold cl4NoVal at E4 E5
      refine g_plain rfl ?_
      refine does_call 42 #[.pointer (some ⟨s, 0, none⟩), .agg (bcells id)] (by go_simp) ((HHAS.out W hS).mono ?_)
      rintro _ W' ⟨rfl, hb⟩
      exact ⟨_, rfl, (), .inr rfl, hS.trans (hb.mono hS.size)⟩
    · have E6 := hval 2 _ 6 rfl rfl (dep_of hdep 2 (by rfl))
      unfold cl4NoVal at E6
      refine g_plain rfl ?_
      exact does_value (w' := W) (v := .bool true) (by go_simp) ⟨(), .inr rfl, hS⟩
    · have E7 := hval 3 _ 7 rfl rfl (dep_of hdep 3 (by rfl))
      unfold cl4NoVal at E7
      refine g_plain rfl ?_
      exact does_value (w' := W) (v := .bool true) (by go_simp) ⟨(), .inr rfl, hS⟩
    · have EG := hval 4 _ 8 rfl rfl (dep_of hdep 4 (by rfl))
      unfold cl4NoVal at EG
      exact g_skip rfl rfl rfl EG rfl ⟨(), .inr rfl, hS⟩
    · have EG := hval 4 _ 8 rfl rfl (dep_of hdep 4 (by rfl))
      unfold cl4NoVal at EG
      exact g_skip rfl rfl rfl EG rfl ⟨(), .inr rfl, hS⟩
    · have EG := hval 4 _ 8 rfl rfl (dep_of hdep 4 (by rfl))
      unfold cl4NoVal at EG
      exact g_skip rfl rfl rfl EG rfl ⟨(), .inr rfl, hS⟩
    · have EG := hval 4 _ 8 rfl rfl (dep_of hdep 4 (by rfl))
      unfold cl4NoVal at EG
      exact g_skip rfl rfl rfl EG rfl ⟨(), .inr rfl, hS⟩
    · have EG := hval 4 _ 8 rfl rfl (dep_of hdep 4 (by rfl))
      unfold cl4NoVal at EG
      exact g_skip rfl rfl rfl EG rfl ⟨(), .inr rfl, hS⟩
    · have EG := hval 4 _ 8 rfl rfl (dep_of hdep 4 (by rfl))
      unfold cl4NoVal at EG
      exact g_skip rfl rfl rfl EG rfl ⟨(), .inr rfl, hS⟩
    · have EG := hval 4 _ 8 rfl rfl (dep_of hdep 4 (by rfl))
      unfold cl4NoVal at EG
      exact g_skip rfl rfl rfl EG rfl ⟨(), .inr rfl, hS⟩
    · have EG := hval 4 _ 8 rfl rfl (dep_of hdep 4 (by rfl))
      unfold cl4NoVal at EG
      exact g_skip rfl rfl rfl EG rfl ⟨(), .inr rfl, hS⟩
    · have EG := hval 4 _ 8 rfl rfl (dep_of hdep 4 (by rfl))
      unfold cl4NoVal at EG
      exact g_skip rfl rfl rfl EG rfl ⟨(), .inr rfl, hS⟩
    · have EG := hval 4 _ 8 rfl rfl (dep_of hdep 4 (by rfl))
      unfold cl4NoVal at EG
      exact g_skip rfl rfl rfl EG rfl ⟨(), .inr rfl, hS⟩
    · have EG := hval 4 _ 8 rfl rfl (dep_of hdep 4 (by rfl))
      unfold cl4NoVal at EG
      exact g_skip rfl rfl rfl EG rfl ⟨(), .inr rfl, hS⟩
    · have E8 := hval 4 _ 8 rfl rfl (dep_of hdep 4 (by rfl))
      unfold cl4NoVal at E8
      refine g_plain rfl ?_
      exact does_value (w' := W) (v := .bool true) (by go_simp) ⟨(), .inr rfl, hS⟩
    · have E20 := hval 16 _ 20 rfl rfl (dep_of hdep 16 (by rfl))
      unfold cl4NoVal at E20
      refine g_plain rfl ?_
      refine does_call 57 #[.bool true, .int .i64 9] (by go_simp) ((HU.out W).mono ?_)
      rintro _ _ ⟨rfl, rfl⟩
      exact ⟨_, rfl, (), .inr rfl, hS⟩
    · have E21 := hval 17 _ 21 rfl rfl (dep_of hdep 17 (by rfl))
      unfold cl4NoVal at E21
      refine g_plain rfl ?_
      exact does_value (w' := W) (v := .int .i64 (r : Int)) (by go_simp) ⟨(), .inr rfl, hS⟩
  · intro gh W hS
    have HB2 := hid hS
    simp only [putAll, cl4NoVal, Nat.reduceAdd, Nat.zero_add, Act.put, List.setIfInBounds_toArray, List.set_cons_zero, List.set_cons_succ]
    clear hS HC HHAS HM HH HK HU
    go_wp2_with fail
    go_ret
    exact ⟨rfl, HB2.out⟩
def cl4YesVal (s : Nat) (m : Nat) (g : Nat) (r : Nat) (id : List UInt8) (A : Option Addr) (Ax : Option Addr) (n : Nat) (c : Nat) (cx : Nat) (x : List UInt8) (bs : List UInt8) : Nat → Unit → Value
  | 0, _ => .pointer (some ⟨s, 0, none⟩)
  | 1, _ => .agg (bcells id)
  | 2, _ => .bool true
  | 3, _ => .bool false
  | 4, _ => .bool false
  | 5, _ => .pointer (some ⟨s, 0, none⟩)
  | 6, _ => .pointer (some ⟨s, 0, none⟩)
  | 7, _ => .pointer (some ⟨s, 4, none⟩)
  | 8, _ => .map (some m)
  | 9, _ => .agg (bcells id)
  | 10, _ => .pointer (some ⟨g, 0, none⟩)
  | 11, _ => .pointer (some ⟨g, 0, none⟩)
  | 12, _ => .pointer (some ⟨g, 0, none⟩)
  | 13, _ => .slice Ax x.length cx
  | 14, _ => .slice A n c
  | 15, _ => .bool (x == bs)
  | 16, _ => .bool (x == bs)
  | 17, _ => .int .i64 (r : Int)
  | 18, _ => .int .i64 (r : Int)
  | _, _ => undef
set_option maxRecDepth 20000 in
set_option maxHeartbeats 2000000 in
theorem cl4Yes_calls (s m g k p0 p1 p2 : Nat) (wd rm us : Value) (f : List UInt8 → Option Nat) (id : List UInt8) (A Ax : Option Addr) (n c cx : Nat) (x bs : List UInt8) (w : World) (hh : Blk w s 54 #[.pointer (some ⟨s, 0, none⟩), wd, rm, us, .map (some m)]) (h0 : w.cell? ⟨p0, 0, none⟩ = some (.pointer (some ⟨s, 0, none⟩))) (h1 : Blk w p1 32 (bcells id)) (h2 : w.cell? ⟨p2, 0, none⟩ = some (.slice A n c)) (hm : MapP w m k f) (hl : id.length = 32) (hf : f id = some g) (hg : w.cell? ⟨g, 0, none⟩ = some (.slice Ax x.length cx)) (hx : SB w w.heap.size Ax x.length x) (hb : SB w w.heap.size A n bs) (r : Nat) (hr : (if (x == bs) then 0 else 9) = r) :
    Calls Tryd.prog 61 #[.pointer (some ⟨p0, 0, none⟩), .pointer (some ⟨p1, 0, none⟩), .pointer (some ⟨p2, 0, none⟩)] w fun e w' => e = .returned (.int .i64 (r : Int)) ∧ Below w.heap.size w w' := by
  have HK := hid h1
  have HSZ := hid (show (Tryd.prog.info? 32).map (·.size) = some (bcells id).size from by rw [bcells_size, hl]; kernel_rfl)
  have HH := hid hh; have HM := hid hm; have H0 := hid h0; have H2 := hid h2
  have HG := hid hg; have HX := hid hx; have HB := hid hb
  clear hg hx hb
  clear hh hm h0 h1 h2
  have HU := hid (show ∀ W, Calls Tryd.prog 57 #[.bool (x == bs), .int .i64 9] W fun e w' => e = .returned (.int .i64 (r : Int)) ∧ W = w' from fun W => by
    have h := unless_calls (x == bs) 9 W
    rw [hr] at h
    exact h)
  clear hr
  have HHAS := hid (fun W (hb : Below w.heap.size w W) => hasYes_calls s m k g wd (rm) (us) f id W (HH.out.keep hb) (HM.out.keep hb) hl hf)
  have HC := hid (fun W (hb : Below w.heap.size w W) => (⟨cell_keep H0.out hb, cell_keep H2.out hb, (HH.out.keep hb).cell 4 rfl, cell_keep HG.out hb⟩ : W.cell? ⟨p0, 0, none⟩ = some (.pointer (some ⟨s, 0, none⟩)) ∧ W.cell? ⟨p2, 0, none⟩ = some (.slice A n c) ∧ W.cell? ⟨s, 4, none⟩ = some (.map (some m)) ∧ W.cell? ⟨g, 0, none⟩ = some (.slice Ax x.length cx)))
  have HLK := hid (fun W (hb : Below w.heap.size w W) => ((HM.out.keep hb).look hl))
  rw [hf] at HLK
  dsimp only [ptrO] at HLK
  have HEQ := hid (fun W (hb : Below w.heap.size w W) => equal_calls w.heap.size x.length cx w.heap.size n c Ax A x bs W (HX.out.keepB hb) (HB.out.keepB hb))
  go_enter Tryd.func61, Tryd.ntmps61
  go_wp2_with fail
  refine wp_region_invG 22 () (cl4YesVal s m g r id A Ax n c cx x bs) (fun _ _ W => Below w.heap.size w W) (by kernel_rfl) (by kernel_rfl) (by exact Nat.le_refl 22) ?_ ?_ ?_
  · exact (Below.refl _ _).drew
  · intro i o f gh a W hi hf hdep hsame hcl hval hS
    rcases i with _ | _ | _ | _ | _ | _ | _ | _ | _ | _ | _ | _ | _ | _ | _ | _ | _ | _ | _ | i
    all_goals simp only [List.getElem?_cons_succ, List.getElem?_cons_zero, List.getElem?_nil, Option.some.injEq, reduceCtorEq] at hi
    all_goals subst hi
    · have E0 : a.tmps[0]? = some (.pointer (some ⟨p0, 0, none⟩)) := (same_of hsame 0 (by rfl)).trans rfl
      obtain ⟨c0, c2, c4, cg⟩ := HC.out W hS
      refine g_plain rfl ?_
      exact does_value (w' := W) (v := .pointer (some ⟨s, 0, none⟩)) (by go_simp) ⟨(), .inr rfl, hS⟩
    · have E1 : a.tmps[1]? = some (.pointer (some ⟨p1, 0, none⟩)) := (same_of hsame 1 (by rfl)).trans rfl
      refine g_plain rfl ?_
      exact does_load _ _ rfl p1 (by rw [eval_getD, E1]; rfl) _ (HK.out.keep hS) _ Tryd.underlying32 rfl HSZ.out ⟨(), .inr rfl, hS⟩
    · have E4 := hval 0 _ 4 rfl rfl (dep_of hdep 0 (by rfl))
      have E5 := hval 1 _ 5 rfl rfl (dep_of hdep 1 (by rfl))
      unfold cl4YesVal at E4 E5
      refine g_plain rfl ?_
      refine does_call 42 #[.pointer (some ⟨s, 0, none⟩), .agg (bcells id)] (by go_simp) ((HHAS.out W hS).mono ?_)
      rintro _ W' ⟨rfl, hb⟩
      exact ⟨_, rfl, (), .inr rfl, hS.trans (hb.mono hS.size)⟩
    · have E6 := hval 2 _ 6 rfl rfl (dep_of hdep 2 (by rfl))
      unfold cl4YesVal at E6
      refine g_plain rfl ?_
      exact does_value (w' := W) (v := .bool false) (by go_simp) ⟨(), .inr rfl, hS⟩
    · have E7 := hval 3 _ 7 rfl rfl (dep_of hdep 3 (by rfl))
      unfold cl4YesVal at E7
      refine g_plain rfl ?_
      exact does_value (w' := W) (v := .bool false) (by go_simp) ⟨(), .inr rfl, hS⟩
    · have EG := hval 4 _ 8 rfl rfl (dep_of hdep 4 (by rfl))
      have E0 : a.tmps[0]? = some (.pointer (some ⟨p0, 0, none⟩)) := (same_of hsame 0 (by rfl)).trans rfl
      unfold cl4YesVal at EG
      obtain ⟨c0, c2, c4, cg⟩ := HC.out W hS
      refine g_want rfl rfl rfl EG ?_
      exact does_value (w' := W) (v := .pointer (some ⟨s, 0, none⟩)) (by go_simp) ⟨(), .inr rfl, hS⟩
    · have EG := hval 4 _ 8 rfl rfl (dep_of hdep 4 (by rfl))
      have E9 := hval 5 _ 9 rfl rfl (dep_of hdep 5 (by rfl))
      unfold cl4YesVal at EG E9
      obtain ⟨c0, c2, c4, cg⟩ := HC.out W hS
      refine g_want rfl rfl rfl EG ?_
      exact does_value (w' := W) (v := .pointer (some ⟨s, 0, none⟩)) (by go_simp) ⟨(), .inr rfl, hS⟩
    · have EG := hval 4 _ 8 rfl rfl (dep_of hdep 4 (by rfl))
      have E10 := hval 6 _ 10 rfl rfl (dep_of hdep 6 (by rfl))
      unfold cl4YesVal at EG E10
      refine g_want rfl rfl rfl EG ?_
      exact does_value (w' := W) (v := .pointer (some ⟨s, 4, none⟩)) (by go_simp) ⟨(), .inr rfl, hS⟩
    · have EG := hval 4 _ 8 rfl rfl (dep_of hdep 4 (by rfl))
      have E11 := hval 7 _ 11 rfl rfl (dep_of hdep 7 (by rfl))
      unfold cl4YesVal at EG E11
      obtain ⟨c0, c2, c4, cg⟩ := HC.out W hS
      refine g_want rfl rfl rfl EG ?_
      exact does_value (w' := W) (v := .map (some m)) (by go_simp) ⟨(), .inr rfl, hS⟩
    · have EG := hval 4 _ 8 rfl rfl (dep_of hdep 4 (by rfl))
      have E1 : a.tmps[1]? = some (.pointer (some ⟨p1, 0, none⟩)) := (same_of hsame 1 (by rfl)).trans rfl
      unfold cl4YesVal at EG
      refine g_want rfl rfl rfl EG ?_
      exact does_load _ _ rfl p1 (by rw [eval_getD, E1]; rfl) _ (HK.out.keep hS) _ Tryd.underlying32 rfl HSZ.out ⟨(), .inr rfl, hS⟩
    · have EG := hval 4 _ 8 rfl rfl (dep_of hdep 4 (by rfl))
      have E12 := hval 8 _ 12 rfl rfl (dep_of hdep 8 (by rfl))
      have E13 := hval 9 _ 13 rfl rfl (dep_of hdep 9 (by rfl))
      unfold cl4YesVal at EG E12 E13
      have hlk := HLK.out W hS
      refine g_want rfl rfl rfl EG ?_
      exact does_value (w' := W) (v := .pointer (some ⟨g, 0, none⟩)) (by go_simp) ⟨(), .inr rfl, hS⟩
    · have EG := hval 4 _ 8 rfl rfl (dep_of hdep 4 (by rfl))
      have E14 := hval 10 _ 14 rfl rfl (dep_of hdep 10 (by rfl))
      unfold cl4YesVal at EG E14
      obtain ⟨c0, c2, c4, cg⟩ := HC.out W hS
      refine g_want rfl rfl rfl EG ?_
      exact does_value (w' := W) (v := .pointer (some ⟨g, 0, none⟩)) (by go_simp) ⟨(), .inr rfl, hS⟩
    · have EG := hval 4 _ 8 rfl rfl (dep_of hdep 4 (by rfl))
      have E15 := hval 11 _ 15 rfl rfl (dep_of hdep 11 (by rfl))
      unfold cl4YesVal at EG E15
      obtain ⟨c0, c2, c4, cg⟩ := HC.out W hS
      refine g_want rfl rfl rfl EG ?_
      exact does_value (w' := W) (v := .pointer (some ⟨g, 0, none⟩)) (by go_simp) ⟨(), .inr rfl, hS⟩
    · have EG := hval 4 _ 8 rfl rfl (dep_of hdep 4 (by rfl))
      have E16 := hval 12 _ 16 rfl rfl (dep_of hdep 12 (by rfl))
      unfold cl4YesVal at EG E16
      obtain ⟨c0, c2, c4, cg⟩ := HC.out W hS
      refine g_want rfl rfl rfl EG ?_
      exact does_value (w' := W) (v := .slice Ax x.length cx) (by go_simp) ⟨(), .inr rfl, hS⟩
    · have EG := hval 4 _ 8 rfl rfl (dep_of hdep 4 (by rfl))
      have E2 : a.tmps[2]? = some (.pointer (some ⟨p2, 0, none⟩)) := (same_of hsame 2 (by rfl)).trans rfl
      unfold cl4YesVal at EG
      obtain ⟨c0, c2, c4, cg⟩ := HC.out W hS
      refine g_want rfl rfl rfl EG ?_
      exact does_value (w' := W) (v := .slice A n c) (by go_simp) ⟨(), .inr rfl, hS⟩
    · have EG := hval 4 _ 8 rfl rfl (dep_of hdep 4 (by rfl))
      have E17 := hval 13 _ 17 rfl rfl (dep_of hdep 13 (by rfl))
      have E18 := hval 14 _ 18 rfl rfl (dep_of hdep 14 (by rfl))
      unfold cl4YesVal at EG E17 E18
      refine g_want rfl rfl rfl EG ?_
      refine does_call 62 #[.slice Ax x.length cx, .slice A n c] (by go_simp) ((HEQ.out W hS).mono ?_)
      rintro _ _ ⟨rfl, rfl⟩
      exact ⟨_, rfl, (), .inr rfl, hS⟩
    · have E8 := hval 4 _ 8 rfl rfl (dep_of hdep 4 (by rfl))
      have E19 := hval 15 _ 19 rfl rfl (dep_of hdep 15 (by rfl))
      unfold cl4YesVal at E8 E19
      refine g_plain rfl ?_
      exact does_value (w' := W) (v := .bool (x == bs)) (by go_simp) ⟨(), .inr rfl, hS⟩
    · have E20 := hval 16 _ 20 rfl rfl (dep_of hdep 16 (by rfl))
      unfold cl4YesVal at E20
      refine g_plain rfl ?_
      refine does_call 57 #[.bool (x == bs), .int .i64 9] (by go_simp) ((HU.out W).mono ?_)
      rintro _ _ ⟨rfl, rfl⟩
      exact ⟨_, rfl, (), .inr rfl, hS⟩
    · have E21 := hval 17 _ 21 rfl rfl (dep_of hdep 17 (by rfl))
      unfold cl4YesVal at E21
      refine g_plain rfl ?_
      exact does_value (w' := W) (v := .int .i64 (r : Int)) (by go_simp) ⟨(), .inr rfl, hS⟩
  · intro gh W hS
    have HB2 := hid hS
    simp only [putAll, cl4YesVal, Nat.reduceAdd, Nat.zero_add, Act.put, List.setIfInBounds_toArray, List.set_cons_zero, List.set_cons_succ]
    clear hS HC HHAS HM HH HK HU
    go_wp2_with fail
    go_ret
    exact ⟨rfl, HB2.out⟩
def cl5NoVal (s : Nat) (r : Nat) (id : List UInt8) (A : Option Addr) (n : Nat) (c : Nat) (rm : Int) (us : Int) : Nat → Unit → Value
  | 0, _ => .pointer (some ⟨s, 0, none⟩)
  | 1, _ => .agg (bcells id)
  | 2, _ => .bool false
  | 3, _ => .bool false
  | 4, _ => .slice A n c
  | 5, _ => .int .i64 (n : Int)
  | 6, _ => .pointer (some ⟨s, 0, none⟩)
  | 7, _ => .pointer (some ⟨s, 0, none⟩)
  | 8, _ => .pointer (some ⟨s, 2, none⟩)
  | 9, _ => .int .i64 rm
  | 10, _ => .pointer (some ⟨s, 0, none⟩)
  | 11, _ => .pointer (some ⟨s, 0, none⟩)
  | 12, _ => .pointer (some ⟨s, 3, none⟩)
  | 13, _ => .int .i64 us
  | 14, _ => .int .i64 (rm - us)
  | 15, _ => .bool (decide ((n : Int) ≤ rm - us))
  | 16, _ => .bool (decide ((n : Int) ≤ rm - us))
  | 17, _ => .int .i64 (r : Int)
  | 18, _ => .int .i64 (r : Int)
  | _, _ => undef
set_option maxRecDepth 20000 in
set_option maxHeartbeats 2000000 in
theorem cl5No_calls (s m _g k p0 p1 p2 : Nat) (wd : Value) (rm us : Int) (f : List UInt8 → Option Nat) (id : List UInt8) (A : Option Addr) (n c : Nat) (w : World) (hh : Blk w s 54 #[.pointer (some ⟨s, 0, none⟩), wd, .int .i64 rm, .int .i64 us, .map (some m)]) (h0 : w.cell? ⟨p0, 0, none⟩ = some (.pointer (some ⟨s, 0, none⟩))) (h1 : Blk w p1 32 (bcells id)) (h2 : w.cell? ⟨p2, 0, none⟩ = some (.slice A n c)) (hm : MapP w m k f) (hl : id.length = 32) (hf : f id = none) (r : Nat) (hr : (if (decide ((n : Int) ≤ rm - us)) then 0 else 10) = r) (hw : IntKind.i64.wrap (rm - us) = rm - us) :
    Calls Tryd.prog 63 #[.pointer (some ⟨p0, 0, none⟩), .pointer (some ⟨p1, 0, none⟩), .pointer (some ⟨p2, 0, none⟩)] w fun e w' => e = .returned (.int .i64 (r : Int)) ∧ Below w.heap.size w w' := by
  have HK := hid h1
  have HSZ := hid (show (Tryd.prog.info? 32).map (·.size) = some (bcells id).size from by rw [bcells_size, hl]; kernel_rfl)
  have HH := hid hh; have HM := hid hm; have H0 := hid h0; have H2 := hid h2
  clear hh hm h0 h1 h2
  have HU := hid (show ∀ W, Calls Tryd.prog 57 #[.bool (decide ((n : Int) ≤ rm - us)), .int .i64 10] W fun e w' => e = .returned (.int .i64 (r : Int)) ∧ W = w' from fun W => by
    have h := unless_calls (decide ((n : Int) ≤ rm - us)) 10 W
    rw [hr] at h
    exact h)
  clear hr
  have HHAS := hid (fun W (hb : Below w.heap.size w W) => hasNo_calls s m k wd (.int .i64 rm) (.int .i64 us) f id W (HH.out.keep hb) (HM.out.keep hb) hl hf)
  have HC := hid (fun W (hb : Below w.heap.size w W) => (⟨cell_keep H0.out hb, cell_keep H2.out hb, (HH.out.keep hb).cell 3 rfl, (HH.out.keep hb).cell 2 rfl⟩ : W.cell? ⟨p0, 0, none⟩ = some (.pointer (some ⟨s, 0, none⟩)) ∧ W.cell? ⟨p2, 0, none⟩ = some (.slice A n c) ∧ W.cell? ⟨s, 3, none⟩ = some (.int .i64 us) ∧ W.cell? ⟨s, 2, none⟩ = some (.int .i64 rm)))
  go_enter Tryd.func63, Tryd.ntmps63
  go_wp2_with fail
  refine wp_region_invG 22 () (cl5NoVal s r id A n c rm us) (fun _ _ W => Below w.heap.size w W) (by kernel_rfl) (by kernel_rfl) (by exact Nat.le_refl 22) ?_ ?_ ?_
  · exact (Below.refl _ _).drew
  · intro i o f gh a W hi hf hdep hsame hcl hval hS
    rcases i with _ | _ | _ | _ | _ | _ | _ | _ | _ | _ | _ | _ | _ | _ | _ | _ | _ | _ | _ | i
    all_goals simp only [List.getElem?_cons_succ, List.getElem?_cons_zero, List.getElem?_nil, Option.some.injEq, reduceCtorEq] at hi
    all_goals subst hi
    · have E0 : a.tmps[0]? = some (.pointer (some ⟨p0, 0, none⟩)) := (same_of hsame 0 (by rfl)).trans rfl
      obtain ⟨c0, c2, c3, c4⟩ := HC.out W hS
      refine g_plain rfl ?_
      exact does_value (w' := W) (v := .pointer (some ⟨s, 0, none⟩)) (by go_simp) ⟨(), .inr rfl, hS⟩
    · have E1 : a.tmps[1]? = some (.pointer (some ⟨p1, 0, none⟩)) := (same_of hsame 1 (by rfl)).trans rfl
      refine g_plain rfl ?_
      exact does_load _ _ rfl p1 (by rw [eval_getD, E1]; rfl) _ (HK.out.keep hS) _ Tryd.underlying32 rfl HSZ.out ⟨(), .inr rfl, hS⟩
    · have E4 := hval 0 _ 4 rfl rfl (dep_of hdep 0 (by rfl))
      have E5 := hval 1 _ 5 rfl rfl (dep_of hdep 1 (by rfl))
      unfold cl5NoVal at E4 E5
      refine g_plain rfl ?_
      refine does_call 42 #[.pointer (some ⟨s, 0, none⟩), .agg (bcells id)] (by go_simp) ((HHAS.out W hS).mono ?_)
      rintro _ W' ⟨rfl, hb⟩
      exact ⟨_, rfl, (), .inr rfl, hS.trans (hb.mono hS.size)⟩
    · have E6 := hval 2 _ 6 rfl rfl (dep_of hdep 2 (by rfl))
      unfold cl5NoVal at E6
      refine g_plain rfl ?_
      exact does_value (w' := W) (v := .bool false) (by go_simp) ⟨(), .inr rfl, hS⟩
    · have EG := hval 3 _ 7 rfl rfl (dep_of hdep 3 (by rfl))
      have E2 : a.tmps[2]? = some (.pointer (some ⟨p2, 0, none⟩)) := (same_of hsame 2 (by rfl)).trans rfl
      unfold cl5NoVal at EG
      obtain ⟨c0, c2, c3, c4⟩ := HC.out W hS
      refine g_want rfl rfl rfl EG ?_
      exact does_value (w' := W) (v := .slice A n c) (by go_simp) ⟨(), .inr rfl, hS⟩
    · have EG := hval 3 _ 7 rfl rfl (dep_of hdep 3 (by rfl))
      have E8 := hval 4 _ 8 rfl rfl (dep_of hdep 4 (by rfl))
      unfold cl5NoVal at EG E8
      refine g_want rfl rfl rfl EG ?_
      exact does_value (w' := W) (v := .int .i64 (n : Int)) (by go_simp) ⟨(), .inr rfl, hS⟩
    · have EG := hval 3 _ 7 rfl rfl (dep_of hdep 3 (by rfl))
      have E0 : a.tmps[0]? = some (.pointer (some ⟨p0, 0, none⟩)) := (same_of hsame 0 (by rfl)).trans rfl
      unfold cl5NoVal at EG
      obtain ⟨c0, c2, c3, c4⟩ := HC.out W hS
      refine g_want rfl rfl rfl EG ?_
      exact does_value (w' := W) (v := .pointer (some ⟨s, 0, none⟩)) (by go_simp) ⟨(), .inr rfl, hS⟩
    · have EG := hval 3 _ 7 rfl rfl (dep_of hdep 3 (by rfl))
      have E10 := hval 6 _ 10 rfl rfl (dep_of hdep 6 (by rfl))
      unfold cl5NoVal at EG E10
      obtain ⟨c0, c2, c3, c4⟩ := HC.out W hS
      refine g_want rfl rfl rfl EG ?_
      exact does_value (w' := W) (v := .pointer (some ⟨s, 0, none⟩)) (by go_simp) ⟨(), .inr rfl, hS⟩
    · have EG := hval 3 _ 7 rfl rfl (dep_of hdep 3 (by rfl))
      have E11 := hval 7 _ 11 rfl rfl (dep_of hdep 7 (by rfl))
      unfold cl5NoVal at EG E11
      refine g_want rfl rfl rfl EG ?_
      exact does_value (w' := W) (v := .pointer (some ⟨s, 2, none⟩)) (by go_simp) ⟨(), .inr rfl, hS⟩
    · have EG := hval 3 _ 7 rfl rfl (dep_of hdep 3 (by rfl))
      have E12 := hval 8 _ 12 rfl rfl (dep_of hdep 8 (by rfl))
      unfold cl5NoVal at EG E12
      obtain ⟨c0, c2, c3, c4⟩ := HC.out W hS
      refine g_want rfl rfl rfl EG ?_
      exact does_value (w' := W) (v := .int .i64 rm) (by go_simp) ⟨(), .inr rfl, hS⟩
    · have EG := hval 3 _ 7 rfl rfl (dep_of hdep 3 (by rfl))
      have E0 : a.tmps[0]? = some (.pointer (some ⟨p0, 0, none⟩)) := (same_of hsame 0 (by rfl)).trans rfl
      unfold cl5NoVal at EG
      obtain ⟨c0, c2, c3, c4⟩ := HC.out W hS
      refine g_want rfl rfl rfl EG ?_
      exact does_value (w' := W) (v := .pointer (some ⟨s, 0, none⟩)) (by go_simp) ⟨(), .inr rfl, hS⟩
    · have EG := hval 3 _ 7 rfl rfl (dep_of hdep 3 (by rfl))
      have E14 := hval 10 _ 14 rfl rfl (dep_of hdep 10 (by rfl))
      unfold cl5NoVal at EG E14
      obtain ⟨c0, c2, c3, c4⟩ := HC.out W hS
      refine g_want rfl rfl rfl EG ?_
      exact does_value (w' := W) (v := .pointer (some ⟨s, 0, none⟩)) (by go_simp) ⟨(), .inr rfl, hS⟩
    · have EG := hval 3 _ 7 rfl rfl (dep_of hdep 3 (by rfl))
      have E15 := hval 11 _ 15 rfl rfl (dep_of hdep 11 (by rfl))
      unfold cl5NoVal at EG E15
      refine g_want rfl rfl rfl EG ?_
      exact does_value (w' := W) (v := .pointer (some ⟨s, 3, none⟩)) (by go_simp) ⟨(), .inr rfl, hS⟩
    · have EG := hval 3 _ 7 rfl rfl (dep_of hdep 3 (by rfl))
      have E16 := hval 12 _ 16 rfl rfl (dep_of hdep 12 (by rfl))
      unfold cl5NoVal at EG E16
      obtain ⟨c0, c2, c3, c4⟩ := HC.out W hS
      refine g_want rfl rfl rfl EG ?_
      exact does_value (w' := W) (v := .int .i64 us) (by go_simp) ⟨(), .inr rfl, hS⟩
    · have EG := hval 3 _ 7 rfl rfl (dep_of hdep 3 (by rfl))
      have E13 := hval 9 _ 13 rfl rfl (dep_of hdep 9 (by rfl))
      have E17 := hval 13 _ 17 rfl rfl (dep_of hdep 13 (by rfl))
      unfold cl5NoVal at EG E13 E17
      refine g_want rfl rfl rfl EG ?_
      exact does_value (w' := W) (v := .int .i64 (rm - us)) (by go_simp) ⟨(), .inr rfl, hS⟩
    · have EG := hval 3 _ 7 rfl rfl (dep_of hdep 3 (by rfl))
      have E9 := hval 5 _ 9 rfl rfl (dep_of hdep 5 (by rfl))
      have E18 := hval 14 _ 18 rfl rfl (dep_of hdep 14 (by rfl))
      unfold cl5NoVal at EG E9 E18
      refine g_want rfl rfl rfl EG ?_
      exact does_value (w' := W) (v := .bool (decide ((n : Int) ≤ rm - us))) (by go_simp) ⟨(), .inr rfl, hS⟩
    · have E7 := hval 3 _ 7 rfl rfl (dep_of hdep 3 (by rfl))
      have E19 := hval 15 _ 19 rfl rfl (dep_of hdep 15 (by rfl))
      unfold cl5NoVal at E7 E19
      refine g_plain rfl ?_
      exact does_value (w' := W) (v := .bool (decide ((n : Int) ≤ rm - us))) (by go_simp) ⟨(), .inr rfl, hS⟩
    · have E20 := hval 16 _ 20 rfl rfl (dep_of hdep 16 (by rfl))
      unfold cl5NoVal at E20
      refine g_plain rfl ?_
      refine does_call 57 #[.bool (decide ((n : Int) ≤ rm - us)), .int .i64 10] (by go_simp) ((HU.out W).mono ?_)
      rintro _ _ ⟨rfl, rfl⟩
      exact ⟨_, rfl, (), .inr rfl, hS⟩
    · have E21 := hval 17 _ 21 rfl rfl (dep_of hdep 17 (by rfl))
      unfold cl5NoVal at E21
      refine g_plain rfl ?_
      exact does_value (w' := W) (v := .int .i64 (r : Int)) (by go_simp) ⟨(), .inr rfl, hS⟩
  · intro gh W hS
    have HB2 := hid hS
    simp only [putAll, cl5NoVal, Nat.reduceAdd, Nat.zero_add, Act.put, List.setIfInBounds_toArray, List.set_cons_zero, List.set_cons_succ]
    clear hS HC HHAS HM HH HK HU
    go_wp2_with fail
    go_ret
    exact ⟨rfl, HB2.out⟩
def cl5YesVal (s : Nat) (r : Nat) (id : List UInt8) : Nat → Unit → Value
  | 0, _ => .pointer (some ⟨s, 0, none⟩)
  | 1, _ => .agg (bcells id)
  | 2, _ => .bool true
  | 3, _ => .bool true
  | 4, _ => undef
  | 5, _ => undef
  | 6, _ => undef
  | 7, _ => undef
  | 8, _ => undef
  | 9, _ => undef
  | 10, _ => undef
  | 11, _ => undef
  | 12, _ => undef
  | 13, _ => undef
  | 14, _ => undef
  | 15, _ => undef
  | 16, _ => .bool true
  | 17, _ => .int .i64 (r : Int)
  | 18, _ => .int .i64 (r : Int)
  | _, _ => undef
set_option maxRecDepth 20000 in
set_option maxHeartbeats 2000000 in
theorem cl5Yes_calls (s m g k p0 p1 p2 : Nat) (wd : Value) (rm us : Int) (f : List UInt8 → Option Nat) (id : List UInt8) (A : Option Addr) (n c : Nat) (w : World) (hh : Blk w s 54 #[.pointer (some ⟨s, 0, none⟩), wd, .int .i64 rm, .int .i64 us, .map (some m)]) (h0 : w.cell? ⟨p0, 0, none⟩ = some (.pointer (some ⟨s, 0, none⟩))) (h1 : Blk w p1 32 (bcells id)) (h2 : w.cell? ⟨p2, 0, none⟩ = some (.slice A n c)) (hm : MapP w m k f) (hl : id.length = 32) (hf : f id = some g) (r : Nat) (hr : (if true then 0 else 10) = r) (_hw : IntKind.i64.wrap (rm - us) = rm - us) :
    Calls Tryd.prog 63 #[.pointer (some ⟨p0, 0, none⟩), .pointer (some ⟨p1, 0, none⟩), .pointer (some ⟨p2, 0, none⟩)] w fun e w' => e = .returned (.int .i64 (r : Int)) ∧ Below w.heap.size w w' := by
  have HK := hid h1
  have HSZ := hid (show (Tryd.prog.info? 32).map (·.size) = some (bcells id).size from by rw [bcells_size, hl]; kernel_rfl)
  have HH := hid hh; have HM := hid hm; have H0 := hid h0; have H2 := hid h2
  clear hh hm h0 h1 h2
  have HU := hid (show ∀ W, Calls Tryd.prog 57 #[.bool true, .int .i64 10] W fun e w' => e = .returned (.int .i64 (r : Int)) ∧ W = w' from fun W => by
    have h := unless_calls true 10 W
    rw [hr] at h
    exact h)
  clear hr
  have HHAS := hid (fun W (hb : Below w.heap.size w W) => hasYes_calls s m k g wd (.int .i64 rm) (.int .i64 us) f id W (HH.out.keep hb) (HM.out.keep hb) hl hf)
  have HC := hid (fun W (hb : Below w.heap.size w W) => (⟨cell_keep H0.out hb, cell_keep H2.out hb, (HH.out.keep hb).cell 3 rfl, (HH.out.keep hb).cell 2 rfl⟩ : W.cell? ⟨p0, 0, none⟩ = some (.pointer (some ⟨s, 0, none⟩)) ∧ W.cell? ⟨p2, 0, none⟩ = some (.slice A n c) ∧ W.cell? ⟨s, 3, none⟩ = some (.int .i64 us) ∧ W.cell? ⟨s, 2, none⟩ = some (.int .i64 rm)))
  go_enter Tryd.func63, Tryd.ntmps63
  go_wp2_with fail
  refine wp_region_invG 22 () (cl5YesVal s r id) (fun _ _ W => Below w.heap.size w W) (by kernel_rfl) (by kernel_rfl) (by exact Nat.le_refl 22) ?_ ?_ ?_
  · exact (Below.refl _ _).drew
  · intro i o f gh a W hi hf hdep hsame hcl hval hS
    rcases i with _ | _ | _ | _ | _ | _ | _ | _ | _ | _ | _ | _ | _ | _ | _ | _ | _ | _ | _ | i
    all_goals simp only [List.getElem?_cons_succ, List.getElem?_cons_zero, List.getElem?_nil, Option.some.injEq, reduceCtorEq] at hi
    all_goals subst hi
    · have E0 : a.tmps[0]? = some (.pointer (some ⟨p0, 0, none⟩)) := (same_of hsame 0 (by rfl)).trans rfl
      obtain ⟨c0, c2, c3, c4⟩ := HC.out W hS
      refine g_plain rfl ?_
      exact does_value (w' := W) (v := .pointer (some ⟨s, 0, none⟩)) (by go_simp) ⟨(), .inr rfl, hS⟩
    · have E1 : a.tmps[1]? = some (.pointer (some ⟨p1, 0, none⟩)) := (same_of hsame 1 (by rfl)).trans rfl
      refine g_plain rfl ?_
      exact does_load _ _ rfl p1 (by rw [eval_getD, E1]; rfl) _ (HK.out.keep hS) _ Tryd.underlying32 rfl HSZ.out ⟨(), .inr rfl, hS⟩
    · have E4 := hval 0 _ 4 rfl rfl (dep_of hdep 0 (by rfl))
      have E5 := hval 1 _ 5 rfl rfl (dep_of hdep 1 (by rfl))
      unfold cl5YesVal at E4 E5
      refine g_plain rfl ?_
      refine does_call 42 #[.pointer (some ⟨s, 0, none⟩), .agg (bcells id)] (by go_simp) ((HHAS.out W hS).mono ?_)
      rintro _ W' ⟨rfl, hb⟩
      exact ⟨_, rfl, (), .inr rfl, hS.trans (hb.mono hS.size)⟩
    · have E6 := hval 2 _ 6 rfl rfl (dep_of hdep 2 (by rfl))
      unfold cl5YesVal at E6
      refine g_plain rfl ?_
      exact does_value (w' := W) (v := .bool true) (by go_simp) ⟨(), .inr rfl, hS⟩
    · have EG := hval 3 _ 7 rfl rfl (dep_of hdep 3 (by rfl))
      unfold cl5YesVal at EG
      exact g_skip rfl rfl rfl EG rfl ⟨(), .inr rfl, hS⟩
    · have EG := hval 3 _ 7 rfl rfl (dep_of hdep 3 (by rfl))
      unfold cl5YesVal at EG
      exact g_skip rfl rfl rfl EG rfl ⟨(), .inr rfl, hS⟩
    · have EG := hval 3 _ 7 rfl rfl (dep_of hdep 3 (by rfl))
      unfold cl5YesVal at EG
      exact g_skip rfl rfl rfl EG rfl ⟨(), .inr rfl, hS⟩
    · have EG := hval 3 _ 7 rfl rfl (dep_of hdep 3 (by rfl))
      unfold cl5YesVal at EG
      exact g_skip rfl rfl rfl EG rfl ⟨(), .inr rfl, hS⟩
    · have EG := hval 3 _ 7 rfl rfl (dep_of hdep 3 (by rfl))
      unfold cl5YesVal at EG
      exact g_skip rfl rfl rfl EG rfl ⟨(), .inr rfl, hS⟩
    · have EG := hval 3 _ 7 rfl rfl (dep_of hdep 3 (by rfl))
      unfold cl5YesVal at EG
      exact g_skip rfl rfl rfl EG rfl ⟨(), .inr rfl, hS⟩
    · have EG := hval 3 _ 7 rfl rfl (dep_of hdep 3 (by rfl))
      unfold cl5YesVal at EG
      exact g_skip rfl rfl rfl EG rfl ⟨(), .inr rfl, hS⟩
    · have EG := hval 3 _ 7 rfl rfl (dep_of hdep 3 (by rfl))
      unfold cl5YesVal at EG
      exact g_skip rfl rfl rfl EG rfl ⟨(), .inr rfl, hS⟩
    · have EG := hval 3 _ 7 rfl rfl (dep_of hdep 3 (by rfl))
      unfold cl5YesVal at EG
      exact g_skip rfl rfl rfl EG rfl ⟨(), .inr rfl, hS⟩
    · have EG := hval 3 _ 7 rfl rfl (dep_of hdep 3 (by rfl))
      unfold cl5YesVal at EG
      exact g_skip rfl rfl rfl EG rfl ⟨(), .inr rfl, hS⟩
    · have EG := hval 3 _ 7 rfl rfl (dep_of hdep 3 (by rfl))
      unfold cl5YesVal at EG
      exact g_skip rfl rfl rfl EG rfl ⟨(), .inr rfl, hS⟩
    · have EG := hval 3 _ 7 rfl rfl (dep_of hdep 3 (by rfl))
      unfold cl5YesVal at EG
      exact g_skip rfl rfl rfl EG rfl ⟨(), .inr rfl, hS⟩
    · have E7 := hval 3 _ 7 rfl rfl (dep_of hdep 3 (by rfl))
      unfold cl5YesVal at E7
      refine g_plain rfl ?_
      exact does_value (w' := W) (v := .bool true) (by go_simp) ⟨(), .inr rfl, hS⟩
    · have E20 := hval 16 _ 20 rfl rfl (dep_of hdep 16 (by rfl))
      unfold cl5YesVal at E20
      refine g_plain rfl ?_
      refine does_call 57 #[.bool true, .int .i64 10] (by go_simp) ((HU.out W).mono ?_)
      rintro _ _ ⟨rfl, rfl⟩
      exact ⟨_, rfl, (), .inr rfl, hS⟩
    · have E21 := hval 17 _ 21 rfl rfl (dep_of hdep 17 (by rfl))
      unfold cl5YesVal at E21
      refine g_plain rfl ?_
      exact does_value (w' := W) (v := .int .i64 (r : Int)) (by go_simp) ⟨(), .inr rfl, hS⟩
  · intro gh W hS
    have HB2 := hid hS
    simp only [putAll, cl5YesVal, Nat.reduceAdd, Nat.zero_add, Act.put, List.setIfInBounds_toArray, List.set_cons_zero, List.set_cons_succ]
    clear hS HC HHAS HM HH HK HU
    go_wp2_with fail
    go_ret
    exact ⟨rfl, HB2.out⟩
end Go.Proofs.YtoogaapjdlhpbaaDoor
