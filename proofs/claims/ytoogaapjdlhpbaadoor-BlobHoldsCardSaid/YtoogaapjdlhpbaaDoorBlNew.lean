/- Contracts of package blob: Get, Size, Drop. Written by tools/mkbl.py. -/
import Derived.Test.YtoogaapjdlhpbaaDoorBlPutB
import Derived.Maps.RangeWalk
namespace Go.Proofs.YtoogaapjdlhpbaaDoor
open Go.RowKit Crc

/-- what holds where a blob is copied -/
structure GetS (w3 : World) (x : List UInt8) (f : Nat → Bool) (gh : Nat → Value) (W : World) : Prop where
  below : Below w3.heap.size w3 W
  cl : f 9 = true → Own W w3.heap.size 5 (gh 9) x.length x
  eq : f 10 = true → f 9 = true ∧ gh 10 = gh 9
section
variable {w3 W W' : World} {x : List UInt8} {f : Nat → Bool} {gh : Nat → Value}
theorem GetS.start : GetS w3 x (fun j => decide (12 ≤ j)) (fun _ => .pointer none) w3.drew := ⟨(Below.refl _ _).drew, fun h => absurd h (by decide), fun h => absurd h (by decide)⟩
theorem GetS.step (h : GetS w3 x f gh W) (hb : Below W.heap.size W W') (i : Nat) (v : Value) (h9 : 9 ≠ i) (h10 : 10 ≠ i) : GetS w3 x (upd f i) (updN gh i v) W' where
  below := h.below.trans (hb.mono h.below.size)
  cl := fun e => by rw [upd_ne h9] at e; rw [updN_ne h9]; exact (h.cl e).keep hb
  eq := fun e => by rw [upd_ne h10] at e; rw [upd_ne h9, updN_ne h9, updN_ne h10]; exact h.eq e
theorem GetS.clone (h : GetS w3 x f gh W) {v : Value} (hb : Below W.heap.size W W') (ho : Own W' W.heap.size 5 v x.length x) (hf : f 9 = false) : GetS w3 x (upd f 9) (updN gh 9 v) W' where
  below := h.below.trans (hb.mono h.below.size)
  cl := fun _ => by rw [updN_eq]; exact ho.lower h.below.size
  eq := fun e => by rw [upd_ne (by decide)] at e; have := (h.eq e).1; rw [hf] at this; cases this
theorem GetS.set_ (h : GetS w3 x f gh W) (h9 : f 9 = true) (_hf : f 10 = false) : GetS w3 x (upd f 10) (updN gh 10 (gh 9)) W where
  below := h.below
  cl := fun e => by rw [upd_ne (by decide)] at e; rw [updN_ne (by decide)]; exact h.cl e
  eq := fun _ => by rw [upd_ne (by decide), updN_eq, updN_ne (by decide)]; exact ⟨h9, rfl⟩
end
def getVal (s m g : Nat) (id : List UInt8) (Ax : Option Addr) (cx : Nat) (x : List UInt8) : Nat → Value → Value
  | 0, _ => .pointer (some ⟨s, 0, none⟩)
  | 1, _ => .pointer (some ⟨s, 0, none⟩)
  | 2, _ => .pointer (some ⟨s, 4, none⟩)
  | 3, _ => .map (some m)
  | 4, _ => .agg (bcells id)
  | 5, _ => .pointer (some ⟨g, 0, none⟩)
  | 6, _ => .pointer (some ⟨g, 0, none⟩)
  | 7, _ => .pointer (some ⟨g, 0, none⟩)
  | 8, _ => .slice Ax x.length cx
  | 9, k => k
  | 10, k => k
  | 11, _ => .bool true
  | _, _ => undef
def sizeVal (s m g : Nat) (id : List UInt8) (Ax : Option Addr) (cx : Nat) (x : List UInt8) : Nat → Unit → Value
  | 0, _ => .pointer (some ⟨s, 0, none⟩)
  | 1, _ => .pointer (some ⟨s, 0, none⟩)
  | 2, _ => .pointer (some ⟨s, 4, none⟩)
  | 3, _ => .map (some m)
  | 4, _ => .agg (bcells id)
  | 5, _ => .pointer (some ⟨g, 0, none⟩)
  | 6, _ => .pointer (some ⟨g, 0, none⟩)
  | 7, _ => .pointer (some ⟨g, 0, none⟩)
  | 8, _ => .slice Ax x.length cx
  | 9, _ => .int .i64 (x.length : Int)
  | 10, _ => .int .i64 (x.length : Int)
  | 11, _ => .bool true
  | _, _ => undef
def dr1Val (s m g us : Nat) (id : List UInt8) (Ax : Option Addr) (cx : Nat) (x : List UInt8) : Nat → Unit → Value
  | 0, _ => .pointer (some ⟨s, 0, none⟩)
  | 1, _ => .pointer (some ⟨s, 0, none⟩)
  | 2, _ => .pointer (some ⟨s, 3, none⟩)
  | 3, _ => .int .i64 (us : Int)
  | 4, _ => .pointer (some ⟨s, 0, none⟩)
  | 5, _ => .pointer (some ⟨s, 0, none⟩)
  | 6, _ => .pointer (some ⟨s, 4, none⟩)
  | 7, _ => .map (some m)
  | 8, _ => .agg (bcells id)
  | 9, _ => .pointer (some ⟨g, 0, none⟩)
  | 10, _ => .pointer (some ⟨g, 0, none⟩)
  | 11, _ => .pointer (some ⟨g, 0, none⟩)
  | 12, _ => .slice Ax x.length cx
  | 13, _ => .int .i64 (x.length : Int)
  | 14, _ => .int .i64 ((us : Int) - (x.length : Int))
  | 15, _ => .pointer (some ⟨s, 0, none⟩)
  | 16, _ => .pointer (some ⟨s, 3, none⟩)
  | _, _ => undef
def dr2Val (s m : Nat) (id : List UInt8) : Nat → Unit → Value
  | 0, _ => .pointer (some ⟨s, 0, none⟩)
  | 1, _ => .pointer (some ⟨s, 0, none⟩)
  | 2, _ => .pointer (some ⟨s, 4, none⟩)
  | 3, _ => .map (some m)
  | 4, _ => .agg (bcells id)
  | _, _ => undef
def dropB (b : BS) (id : List UInt8) : BS := { b with l := b.l.filter (fun p => !(p.1 == id)) }
section
variable {w : World} {F : List Nat} {s m k : Nat} {b : BS} {f0 : List UInt8 → Option Nat}
set_option maxRecDepth 20000 in
set_option maxHeartbeats 1000000 in
theorem get_calls (hs : StB w F s m k b f0) (id : List UInt8) (hl : id.length = 32) :
    Calls Tryd.prog 29 #[.pointer (some ⟨s, 0, none⟩), .agg (bcells id)] w fun e w' => ∃ v, e = .returned (.tuple #[v, .bool (lookB b.l id).isSome]) ∧ Own w' w.heap.size 5 v ((lookB b.l id).getD []).length ((lookB b.l id).getD []) ∧ Below w.heap.size w w' := by
  have HK0 := hid (Blk.new w 32 (bcells id))
  have bb := below_new w (.cells (bcells id) 32)
  have HSZ := hid (show (Tryd.prog.info? 32).map (·.size) = some (bcells id).size from by rw [bcells_size, hl]; kernel_rfl)
  have HS := hid (hs.keep bb); have HBB := hid bb
  have HH := hid (bhas_calls (hs.keep bb) id hl)
  have he := hs.each id hl
  have HL := hid hl
  clear hs bb
  cases hx : lookB b.l id with
  | none =>
    rw [hx] at HH
    clear he hx
    go_enter Tryd.func29, Tryd.ntmps29
    go_wp2_with (refine wpList_load_blk rfl 32 _ rfl w.heap.size rfl 32 _ HK0.out _ _ Tryd.underlying32 HSZ.out ?_)
    generalize w.alloc (.cells (bcells id) 32) = w1 at HK0 HS HBB HH ⊢
    refine HH.out.mono ?_
    rintro _ w3 ⟨rfl, b3⟩
    have HB3 := hid (HBB.out.trans (b3.mono HBB.out.size))
    clear b3 HK0 HS HBB HH
    dsimp only [Option.isSome]
    go_wp2_with fail
    go_ret2
    exact ⟨_, rfl, Own.nil _ _ _, HB3.out⟩
  | some x =>
    rw [hx] at HH he
    cases hf0 : f0 id with
    | none => rw [hf0] at he; exact he.elim
    | some g =>
    have HF := hid hf0
    rw [hf0] at he
    obtain ⟨Ax, cx, k1, k2, k3, k4, -, -⟩ := he
    have HG := hid (k1.keep HBB.out); have HX := hid (k2.keep HBB.out)
    clear hx k1 k2 hf0
    go_enter Tryd.func29, Tryd.ntmps29
    go_wp2_with (refine wpList_load_blk rfl 32 _ rfl w.heap.size rfl 32 _ HK0.out _ _ Tryd.underlying32 HSZ.out ?_)
    generalize w.alloc (.cells (bcells id) 32) = w1 at HK0 HS HBB HH HG HX ⊢
    refine HH.out.mono ?_
    rintro _ w3 ⟨rfl, b3⟩
    have HK := hid (HK0.out.keep b3); have HS3 := hid (HS.out.keep b3); have HB3 := hid (HBB.out.trans (b3.mono HBB.out.size))
    have HG3 := hid (HG.out.keep b3); have HX3 := hid (HX.out.keep b3)
    clear b3 HK0 HS HBB HH HG HX
    dsimp only [Option.isSome]
    go_wp2_with fail
    generalize hq : w.heap.size = q at HK ⊢
    have HC := hid (fun W (hb : Below w3.heap.size w3 W) => (⟨(HS3.out.hd.keep hb).cell 4 rfl, by have h := (HS3.out.mp.keep hb).look HL.out; rw [HF.out] at h; exact h, (HG3.out.keep hb).cell 0 rfl, (HS3.out.hd.keep hb).cell 0 rfl⟩ :
      W.cell? ⟨s, 4, none⟩ = some (.map (some m)) ∧ (Instr.lookup 52 (.map (some m)) (.agg (bcells id)) false).run Tryd.prog W = .ok (.pointer (some ⟨g, 0, none⟩)) W ∧ W.cell? ⟨g, 0, none⟩ = some (.slice Ax x.length cx) ∧ W.cell? ⟨s, 0, none⟩ = some (.pointer (some ⟨s, 0, none⟩))))
    have HCL := hid (fun W (hb : Below w3.heap.size w3 W) => bl_clone W.heap.size x.length cx Ax x W (HX3.out.keep hb).fit k3 (by omega))
    refine wp_region_invG 20 (.pointer none) (getVal s m g id Ax cx x) (GetS w3 x) (by kernel_rfl) (by kernel_rfl) (by exact Nat.le_refl 20) ?_ ?_ ?_
    · exact GetS.start
    · intro i o f gh a W hi hf hdep hsame hcl hval hS
      rcases i with _ | _ | _ | _ | _ | _ | _ | _ | _ | _ | _ | _ | i
      all_goals simp only [List.getElem?_cons_succ, List.getElem?_cons_zero, List.getElem?_nil, Option.some.injEq, reduceCtorEq] at hi
      all_goals subst hi
      · have E0 : a.tmps[0]? = some (.pointer (some ⟨s, 0, none⟩)) := (same_of hsame 0 (by rfl)).trans rfl
        refine g_plain rfl ?_
        exact does_value (w' := W) (v := .pointer (some ⟨s, 0, none⟩)) (by go_simp) ⟨.pointer none, .inr rfl, hS.step (Below.refl _ _) 0 (.pointer none) (by decide) (by decide)⟩
      · have E10 := hval 0 _ 10 rfl rfl (dep_of hdep 0 (by rfl))
        unfold getVal at E10
        obtain ⟨c4, hlk, cg, c0⟩ := HC.out W hS.below
        refine g_plain rfl ?_
        exact does_value (w' := W) (v := .pointer (some ⟨s, 0, none⟩)) (by go_simp) ⟨.pointer none, .inr rfl, hS.step (Below.refl _ _) 1 (.pointer none) (by decide) (by decide)⟩
      · have E11 := hval 1 _ 11 rfl rfl (dep_of hdep 1 (by rfl))
        unfold getVal at E11
        refine g_plain rfl ?_
        exact does_value (w' := W) (v := .pointer (some ⟨s, 4, none⟩)) (by go_simp) ⟨.pointer none, .inr rfl, hS.step (Below.refl _ _) 2 (.pointer none) (by decide) (by decide)⟩
      · have E12 := hval 2 _ 12 rfl rfl (dep_of hdep 2 (by rfl))
        unfold getVal at E12
        obtain ⟨c4, hlk, cg, c0⟩ := HC.out W hS.below
        refine g_plain rfl ?_
        exact does_value (w' := W) (v := .map (some m)) (by go_simp) ⟨.pointer none, .inr rfl, hS.step (Below.refl _ _) 3 (.pointer none) (by decide) (by decide)⟩
      · have E3 : a.tmps[3]? = some (.pointer (some ⟨q, 0, none⟩)) := (same_of hsame 3 (by rfl)).trans rfl
        refine g_plain rfl ?_
        exact does_load _ _ rfl q (by rw [eval_getD, E3]; rfl) _ (HK.out.keep hS.below) _ Tryd.underlying32 rfl HSZ.out ⟨.pointer none, .inr rfl, hS.step (Below.refl _ _) 4 (.pointer none) (by decide) (by decide)⟩
      · have E13 := hval 3 _ 13 rfl rfl (dep_of hdep 3 (by rfl))
        have E14 := hval 4 _ 14 rfl rfl (dep_of hdep 4 (by rfl))
        unfold getVal at E13 E14
        obtain ⟨c4, hlk, cg, c0⟩ := HC.out W hS.below
        refine g_plain rfl ?_
        exact does_value (w' := W) (v := .pointer (some ⟨g, 0, none⟩)) (by go_simp) ⟨.pointer none, .inr rfl, hS.step (Below.refl _ _) 5 (.pointer none) (by decide) (by decide)⟩
      · have E15 := hval 5 _ 15 rfl rfl (dep_of hdep 5 (by rfl))
        unfold getVal at E15
        obtain ⟨c4, hlk, cg, c0⟩ := HC.out W hS.below
        refine g_plain rfl ?_
        exact does_value (w' := W) (v := .pointer (some ⟨g, 0, none⟩)) (by go_simp) ⟨.pointer none, .inr rfl, hS.step (Below.refl _ _) 6 (.pointer none) (by decide) (by decide)⟩
      · have E16 := hval 6 _ 16 rfl rfl (dep_of hdep 6 (by rfl))
        unfold getVal at E16
        obtain ⟨c4, hlk, cg, c0⟩ := HC.out W hS.below
        refine g_plain rfl ?_
        exact does_value (w' := W) (v := .pointer (some ⟨g, 0, none⟩)) (by go_simp) ⟨.pointer none, .inr rfl, hS.step (Below.refl _ _) 7 (.pointer none) (by decide) (by decide)⟩
      · have E17 := hval 7 _ 17 rfl rfl (dep_of hdep 7 (by rfl))
        unfold getVal at E17
        obtain ⟨c4, hlk, cg, c0⟩ := HC.out W hS.below
        refine g_plain rfl ?_
        exact does_value (w' := W) (v := .slice Ax x.length cx) (by go_simp) ⟨.pointer none, .inr rfl, hS.step (Below.refl _ _) 8 (.pointer none) (by decide) (by decide)⟩
      · have E18 := hval 8 _ 18 rfl rfl (dep_of hdep 8 (by rfl))
        unfold getVal at E18
        refine g_plain rfl ?_
        refine does_call 43 #[.slice Ax x.length cx] (by go_simp) ((HCL.out W hS.below).mono ?_)
        rintro _ W' ⟨v, rfl, ho, hb⟩
        exact ⟨v, rfl, v, .inr rfl, hS.clone hb ho hf⟩
      · have h9 := dep_of hdep 9 (by rfl)
        have E19 := hval 9 _ 19 rfl rfl h9
        dsimp only [getVal] at E19
        refine g_plain rfl ?_
        exact does_value (w' := W) (v := gh 9) (by go_simp) ⟨gh 9, .inr rfl, hS.set_ h9 hf⟩
      · refine g_plain rfl ?_
        exact does_value (w' := W) (v := .bool true) (by go_simp) ⟨.pointer none, .inr rfl, hS.step (Below.refl _ _) 11 (.pointer none) (by decide) (by decide)⟩
    · intro gh W hS
      have e10 := (hS.eq rfl).2
      have HO := hid (hS.cl rfl)
      have HB4 := hid (HB3.out.trans (hS.below.mono HB3.out.size))
      have HLE := hid HB3.out.size
      simp only [putAll, getVal, Nat.reduceAdd, Nat.zero_add, Act.put, List.setIfInBounds_toArray, List.set_cons_zero, List.set_cons_succ]
      rw [e10]
      clear hS e10 HC HCL HS3 HB3 HG3 HX3 HK
      generalize gh 9 = v at HO ⊢
      go_wp2_with fail
      go_ret2
      exact ⟨v, rfl, HO.out.lower HLE.out, HB4.out⟩
set_option maxRecDepth 20000 in
set_option maxHeartbeats 1000000 in
theorem size_calls (hs : StB w F s m k b f0) (id : List UInt8) (hl : id.length = 32) :
    Calls Tryd.prog 30 #[.pointer (some ⟨s, 0, none⟩), .agg (bcells id)] w fun e w' => e = .returned (.tuple #[.int .i64 (((lookB b.l id).getD []).length : Int), .bool (lookB b.l id).isSome]) ∧ Below w.heap.size w w' := by
  have HK0 := hid (Blk.new w 32 (bcells id))
  have bb := below_new w (.cells (bcells id) 32)
  have HSZ := hid (show (Tryd.prog.info? 32).map (·.size) = some (bcells id).size from by rw [bcells_size, hl]; kernel_rfl)
  have HS := hid (hs.keep bb); have HBB := hid bb
  have HH := hid (bhas_calls (hs.keep bb) id hl)
  have he := hs.each id hl
  have HL := hid hl
  clear hs bb
  cases hx : lookB b.l id with
  | none =>
    rw [hx] at HH
    clear he hx
    go_enter Tryd.func30, Tryd.ntmps30
    go_wp2_with (refine wpList_load_blk rfl 32 _ rfl w.heap.size rfl 32 _ HK0.out _ _ Tryd.underlying32 HSZ.out ?_)
    generalize w.alloc (.cells (bcells id) 32) = w1 at HK0 HS HBB HH ⊢
    refine HH.out.mono ?_
    rintro _ w3 ⟨rfl, b3⟩
    have HB3 := hid (HBB.out.trans (b3.mono HBB.out.size))
    clear b3 HK0 HS HBB HH
    dsimp only [Option.isSome]
    go_wp2_with fail
    go_ret2
    exact ⟨rfl, HB3.out⟩
  | some x =>
    rw [hx] at HH he
    cases hf0 : f0 id with
    | none => rw [hf0] at he; exact he.elim
    | some g =>
    have HF := hid hf0
    rw [hf0] at he
    obtain ⟨Ax, cx, k1, k2, k3, k4, -, -⟩ := he
    have HG := hid (k1.keep HBB.out); have HX := hid (k2.keep HBB.out)
    clear hx k1 k2 hf0
    go_enter Tryd.func30, Tryd.ntmps30
    go_wp2_with (refine wpList_load_blk rfl 32 _ rfl w.heap.size rfl 32 _ HK0.out _ _ Tryd.underlying32 HSZ.out ?_)
    generalize w.alloc (.cells (bcells id) 32) = w1 at HK0 HS HBB HH HG HX ⊢
    refine HH.out.mono ?_
    rintro _ w3 ⟨rfl, b3⟩
    have HK := hid (HK0.out.keep b3); have HS3 := hid (HS.out.keep b3); have HB3 := hid (HBB.out.trans (b3.mono HBB.out.size))
    have HG3 := hid (HG.out.keep b3); have HX3 := hid (HX.out.keep b3)
    clear b3 HK0 HS HBB HH HG HX
    dsimp only [Option.isSome]
    go_wp2_with fail
    generalize hq : w.heap.size = q at HK ⊢
    have HC := hid (fun W (hb : Below w3.heap.size w3 W) => (⟨(HS3.out.hd.keep hb).cell 4 rfl, by have h := (HS3.out.mp.keep hb).look HL.out; rw [HF.out] at h; exact h, (HG3.out.keep hb).cell 0 rfl, (HS3.out.hd.keep hb).cell 0 rfl⟩ :
      W.cell? ⟨s, 4, none⟩ = some (.map (some m)) ∧ (Instr.lookup 52 (.map (some m)) (.agg (bcells id)) false).run Tryd.prog W = .ok (.pointer (some ⟨g, 0, none⟩)) W ∧ W.cell? ⟨g, 0, none⟩ = some (.slice Ax x.length cx) ∧ W.cell? ⟨s, 0, none⟩ = some (.pointer (some ⟨s, 0, none⟩))))
    refine wp_region_invG 20 () (sizeVal s m g id Ax cx x) (fun _ _ W => Below w3.heap.size w3 W) (by kernel_rfl) (by kernel_rfl) (by exact Nat.le_refl 20) ?_ ?_ ?_
    · exact (Below.refl _ _).drew
    · intro i o f gh a W hi hf hdep hsame hcl hval hS
      rcases i with _ | _ | _ | _ | _ | _ | _ | _ | _ | _ | _ | _ | i
      all_goals simp only [List.getElem?_cons_succ, List.getElem?_cons_zero, List.getElem?_nil, Option.some.injEq, reduceCtorEq] at hi
      all_goals subst hi
      · have E0 : a.tmps[0]? = some (.pointer (some ⟨s, 0, none⟩)) := (same_of hsame 0 (by rfl)).trans rfl
        refine g_plain rfl ?_
        exact does_value (w' := W) (v := .pointer (some ⟨s, 0, none⟩)) (by go_simp) ⟨(), .inr rfl, hS⟩
      · have E10 := hval 0 _ 10 rfl rfl (dep_of hdep 0 (by rfl))
        unfold sizeVal at E10
        obtain ⟨c4, hlk, cg, c0⟩ := HC.out W hS
        refine g_plain rfl ?_
        exact does_value (w' := W) (v := .pointer (some ⟨s, 0, none⟩)) (by go_simp) ⟨(), .inr rfl, hS⟩
      · have E11 := hval 1 _ 11 rfl rfl (dep_of hdep 1 (by rfl))
        unfold sizeVal at E11
        refine g_plain rfl ?_
        exact does_value (w' := W) (v := .pointer (some ⟨s, 4, none⟩)) (by go_simp) ⟨(), .inr rfl, hS⟩
      · have E12 := hval 2 _ 12 rfl rfl (dep_of hdep 2 (by rfl))
        unfold sizeVal at E12
        obtain ⟨c4, hlk, cg, c0⟩ := HC.out W hS
        refine g_plain rfl ?_
        exact does_value (w' := W) (v := .map (some m)) (by go_simp) ⟨(), .inr rfl, hS⟩
      · have E3 : a.tmps[3]? = some (.pointer (some ⟨q, 0, none⟩)) := (same_of hsame 3 (by rfl)).trans rfl
        refine g_plain rfl ?_
        exact does_load _ _ rfl q (by rw [eval_getD, E3]; rfl) _ (HK.out.keep hS) _ Tryd.underlying32 rfl HSZ.out ⟨(), .inr rfl, hS⟩
      · have E13 := hval 3 _ 13 rfl rfl (dep_of hdep 3 (by rfl))
        have E14 := hval 4 _ 14 rfl rfl (dep_of hdep 4 (by rfl))
        unfold sizeVal at E13 E14
        obtain ⟨c4, hlk, cg, c0⟩ := HC.out W hS
        refine g_plain rfl ?_
        exact does_value (w' := W) (v := .pointer (some ⟨g, 0, none⟩)) (by go_simp) ⟨(), .inr rfl, hS⟩
      · have E15 := hval 5 _ 15 rfl rfl (dep_of hdep 5 (by rfl))
        unfold sizeVal at E15
        obtain ⟨c4, hlk, cg, c0⟩ := HC.out W hS
        refine g_plain rfl ?_
        exact does_value (w' := W) (v := .pointer (some ⟨g, 0, none⟩)) (by go_simp) ⟨(), .inr rfl, hS⟩
      · have E16 := hval 6 _ 16 rfl rfl (dep_of hdep 6 (by rfl))
        unfold sizeVal at E16
        obtain ⟨c4, hlk, cg, c0⟩ := HC.out W hS
        refine g_plain rfl ?_
        exact does_value (w' := W) (v := .pointer (some ⟨g, 0, none⟩)) (by go_simp) ⟨(), .inr rfl, hS⟩
      · have E17 := hval 7 _ 17 rfl rfl (dep_of hdep 7 (by rfl))
        unfold sizeVal at E17
        obtain ⟨c4, hlk, cg, c0⟩ := HC.out W hS
        refine g_plain rfl ?_
        exact does_value (w' := W) (v := .slice Ax x.length cx) (by go_simp) ⟨(), .inr rfl, hS⟩
      · have E18 := hval 8 _ 18 rfl rfl (dep_of hdep 8 (by rfl))
        unfold sizeVal at E18
        refine g_plain rfl ?_
        exact does_value (w' := W) (v := .int .i64 (x.length : Int)) (by go_simp) ⟨(), .inr rfl, hS⟩
      · have E19 := hval 9 _ 19 rfl rfl (dep_of hdep 9 (by rfl))
        unfold sizeVal at E19
        refine g_plain rfl ?_
        exact does_value (w' := W) (v := .int .i64 (x.length : Int)) (by go_simp) ⟨(), .inr rfl, hS⟩
      · refine g_plain rfl ?_
        exact does_value (w' := W) (v := .bool true) (by go_simp) ⟨(), .inr rfl, hS⟩
    · intro gh W hS
      have HB4 := hid (HB3.out.trans (hS.mono HB3.out.size))
      simp only [putAll, sizeVal, Nat.reduceAdd, Nat.zero_add, Act.put, List.setIfInBounds_toArray, List.set_cons_zero, List.set_cons_succ]
      clear hS HC HS3 HB3 HG3 HX3 HK
      go_wp2_with fail
      go_ret2
      exact ⟨rfl, HB4.out⟩
theorem lookB_filter (l : List (List UInt8 × List UInt8)) (id x : List UInt8) : lookB (l.filter (fun p => !(p.1 == id))) x = if x = id then none else lookB l x := by
  unfold lookB
  induction l with
  | nil => simp
  | cons p l ih =>
    by_cases e : p.1 = id
    · rw [List.filter_cons_of_neg (by simp [e]), ih]
      by_cases e2 : x = id
      · rw [if_pos e2, if_pos e2]
      · rw [if_neg e2, if_neg e2, List.find?_cons_of_neg (by simp [e]; exact fun h => e2 h.symm)]
    · rw [List.filter_cons_of_pos (by simp [e])]
      by_cases e2 : p.1 = x
      · rw [List.find?_cons_of_pos (by simp [e2]), List.find?_cons_of_pos (by simp [e2]), if_neg (by rw [← e2]; exact e)]
      · rw [List.find?_cons_of_neg (by simp [e2]), List.find?_cons_of_neg (by simp [e2]), ih]
theorem usedB_filter {l : List (List UInt8 × List UInt8)} {id x : List UInt8} (hn : (l.map (fun p => p.1)).Nodup) (h : lookB l id = some x) : usedB (l.filter (fun p => !(p.1 == id))) + x.length = usedB l := by
  unfold lookB at h
  unfold usedB
  induction l with
  | nil => simp at h
  | cons p l ih =>
    rw [List.map_cons, List.nodup_cons] at hn
    by_cases e : p.1 = id
    · rw [List.find?_cons_of_pos (by simp [e])] at h
      have hx : p.2 = x := by simpa using h
      rw [List.filter_cons_of_neg (by simp [e])]
      have : l.filter (fun p => !(p.1 == id)) = l := List.filter_eq_self.2 (fun q hq => by
        have : q.1 ≠ id := fun e2 => hn.1 (by rw [e, ← e2]; exact List.mem_map_of_mem (f := fun p : List UInt8 × List UInt8 => p.1) hq)
        simp [this])
      rw [this, List.map_cons, List.sum_cons, hx]
      omega
    · rw [List.find?_cons_of_neg (by simp [e])] at h
      have := ih hn.2 h
      rw [List.filter_cons_of_pos (by simp [e]), List.map_cons, List.map_cons, List.sum_cons, List.sum_cons]
      omega
theorem filter_none {l : List (List UInt8 × List UInt8)} {id : List UInt8} (h : lookB l id = none) : l.filter (fun p => !(p.1 == id)) = l := List.filter_eq_self.2 (fun q hq => by simp [lookB_none h q hq])
theorem OKB.drop {b : BS} (h : OKB b) (id : List UInt8) : OKB (dropB b id) := by
  refine ⟨h.w1, h.w2, h.r, fun p hp => h.ids p (List.mem_filter.1 hp).1, fun p hp => h.lens p (List.mem_filter.1 hp).1, ?_, h.nodup.sublist (List.filter_sublist.map _)⟩
  have hu := h.used
  show usedB (b.l.filter _) ≤ b.room
  cases hx : lookB b.l id with
  | none => rw [filter_none hx]; exact hu
  | some x =>
    have := usedB_filter h.nodup hx
    omega
theorem drop_end {w4 w5 W6 : World} (hs : StB w4 F s m k b f0) {id x : List UInt8} (hx : lookB b.l id = some x) (hg5 : w4.grownBy w5 (some s)) (hb5 : Blk w5 s 54 ((bcell s m b).setIfInBounds 3 (.int .i64 ((usedB b.l : Int) - (x.length : Int))))) (hg6 : w5.grownBy W6 (some m)) (hm : MapP W6 m k (fun x => if x = id then none else f0 x)) :
    StB W6 F s m k (dropB b id) (fun x => if x = id then none else f0 x) ∧ Chg F w4 W6 := by
  have hc : Chg [s, m] w4 W6 := (Chg.of_grown (L := [s, m]) hg5 (fun g' e => by cases e; simp)).trans (Chg.of_grown (L := [m]) hg6 (fun g' e => by cases e; simp)) (fun b hb => .inl (by simp at hb; simp [hb]))
  refine ⟨⟨hs.ok.drop id, ?_, hm, hs.sin, hs.min_, hs.ne, fun y hy => ?_, fun x hx => Nat.lt_of_lt_of_le (hs.lt x hx) hc.size⟩, hc.more (fun b hb => ?_)⟩
  · have hu := usedB_filter hs.ok.nodup hx
    have e : bcell s m (dropB b id) = (bcell s m b).setIfInBounds 3 (.int .i64 ((usedB b.l : Int) - (x.length : Int))) := by
      unfold bcell dropB
      simp
      omega
    rw [e]
    exact hb5.grown hg6 (by simpa using Ne.symm hs.ne)
  · show ElB W6 F s m (if y = id then none else f0 y) (lookB (b.l.filter (fun p => !(p.1 == id))) y)
    rw [lookB_filter]
    by_cases e : y = id
    · rw [if_pos e, if_pos e]; trivial
    · rw [if_neg e, if_neg e]
      exact (hs.each y hy).chg hc (fun b' _ h1 h2 hm' => by simp at hm'; omega) (fun _ hb' => hb')
  · simp at hb
    rcases hb with rfl | rfl
    · exact .inl hs.sin
    · exact .inl hs.min_
set_option maxRecDepth 20000 in
set_option maxHeartbeats 1000000 in
theorem drop_calls (hs : StB w F s m k b f0) (id : List UInt8) (hl : id.length = 32) :
    Calls Tryd.prog 17 #[.pointer (some ⟨s, 0, none⟩), .agg (bcells id)] w fun e w' => e = .returned (.bool (lookB b.l id).isSome) ∧ (∃ f', StB w' F s m k (dropB b id) f') ∧ Chg F w w' := by
  have HK0 := hid (Blk.new w 32 (bcells id))
  have bb := below_new w (.cells (bcells id) 32)
  have HSZ := hid (show (Tryd.prog.info? 32).map (·.size) = some (bcells id).size from by rw [bcells_size, hl]; kernel_rfl)
  have hs0 := hs.hd
  have HS := hid (hs.keep bb); have HBB := hid bb
  have HH := hid (bhas_calls (hs.keep bb) id hl)
  have he := hs.each id hl
  have HL := hid hl
  clear hs bb
  cases hx : lookB b.l id with
  | none =>
    rw [hx] at HH
    have HD := hid (show dropB b id = b from by unfold dropB; rw [filter_none hx])
    clear he hx
    go_enter Tryd.func17, Tryd.ntmps17
    go_wp2_with (refine wpList_load_blk rfl 32 _ rfl w.heap.size rfl 32 _ HK0.out _ _ Tryd.underlying32 HSZ.out ?_)
    generalize w.alloc (.cells (bcells id) 32) = w1 at HK0 HS HBB HH ⊢
    refine HH.out.mono ?_
    rintro _ w3 ⟨rfl, b3⟩
    have HB3 := hid (HBB.out.trans (b3.mono HBB.out.size)); have HS3 := hid (HS.out.keep b3)
    clear b3 HK0 HS HBB HH
    dsimp only [Option.isSome]
    go_wp2_with fail
    go_ret
    exact ⟨rfl, ⟨_, by rw [HD.out]; exact HS3.out⟩, Chg.of_below HB3.out⟩
  | some x =>
    rw [hx] at HH he
    cases hf0 : f0 id with
    | none => rw [hf0] at he; exact he.elim
    | some g =>
    have HF := hid hf0
    rw [hf0] at he
    obtain ⟨Ax, cx, k1, k2, k3, k4, -, -⟩ := he
    have HG := hid (k1.keep HBB.out); have HX := hid (k2.keep HBB.out)
    have HUS := hid (usedB_filter HS.out.ok.nodup hx); have HXX := hid hx; have hsl := hs0.lt
    clear hx k1 k2 hf0
    go_enter Tryd.func17, Tryd.ntmps17
    go_wp2_with (refine wpList_load_blk rfl 32 _ rfl w.heap.size rfl 32 _ HK0.out _ _ Tryd.underlying32 HSZ.out ?_)
    generalize w.alloc (.cells (bcells id) 32) = w1 at HK0 HS HBB HH HG HX ⊢
    refine HH.out.mono ?_
    rintro _ w3 ⟨rfl, b3⟩
    have HK := hid (HK0.out.keep b3); have HS3 := hid (HS.out.keep b3); have HB3 := hid (HBB.out.trans (b3.mono HBB.out.size))
    have HG3 := hid (HG.out.keep b3); have HX3 := hid (HX.out.keep b3)
    clear b3 HK0 HS HBB HH HG HX
    dsimp only [Option.isSome]
    go_wp2_with fail
    generalize hq : w.heap.size = q at HK ⊢
    have HC := hid (⟨HS3.out.hd.cell 4 rfl, by have h := HS3.out.mp.drew.look HL.out; rw [HF.out] at h; exact h, HG3.out.cell 0 rfl, HS3.out.hd.cell 0 rfl⟩ :
      w3.drew.cell? ⟨s, 4, none⟩ = some (.map (some m)) ∧ (Instr.lookup 52 (.map (some m)) (.agg (bcells id)) false).run Tryd.prog w3.drew = .ok (.pointer (some ⟨g, 0, none⟩)) w3.drew ∧ w3.drew.cell? ⟨g, 0, none⟩ = some (.slice Ax x.length cx) ∧ w3.drew.cell? ⟨s, 0, none⟩ = some (.pointer (some ⟨s, 0, none⟩)))
    have C3 := hid (show w3.drew.cell? ⟨s, 3, none⟩ = some (.int .i64 (usedB b.l : Int)) from HS3.out.hd.cell 3 rfl)
    have Z3 := hid (show w3.drew.frozen? ⟨s, 3, none⟩ = false from HS3.out.hd.drew.frozen 3)
    have HW := hid (show IntKind.i64.wrap ((usedB b.l : Int) - (x.length : Int)) = (usedB b.l : Int) - (x.length : Int) from by
      have h1 := HUS.out
      have h2 := HS3.out.ok.used
      have h3 := HS3.out.ok.r
      exact IntWalk.i64_in _ (by omega))
    have HSQ := hid (show s ≠ q from by omega)
    have HS4 := hid HS3.out.drew
    have HX4 := HXX
    have HB4 := hid HB3.out.drew
    have HK4 := hid HK.out.drew
    obtain ⟨us, hus⟩ : ∃ us, usedB b.l = us := ⟨_, rfl⟩
    have HUE := hid hus
    rw [hus] at C3 HW
    clear hus HS3 HG3 HX3 HB3 HK HUS
    have HWD := hid (show w3.drew = w3.drew from rfl)
    generalize hwd : w3.drew = w4 at HC C3 Z3 HS4 HB4 HK4 HWD
    have HK := HK4
    refine wp_region_invG 31 () (dr1Val s m g us id Ax cx x) (fun f _ W => (f 17 = false → W = w4) ∧ (f 17 = true → W = w4.setCell ⟨s, 3, none⟩ (.int .i64 ((us : Int) - (x.length : Int))))) (by kernel_rfl) (by kernel_rfl) (by exact Nat.le_refl 31) ?_ ?_ ?_
    · exact ⟨fun _ => hwd, fun e => absurd e (by decide)⟩
    · intro i o f gh a W hi hf hdep hsame hcl hval hS
      rcases i with _ | _ | _ | _ | _ | _ | _ | _ | _ | _ | _ | _ | _ | _ | _ | _ | _ | _ | i
      all_goals simp only [List.getElem?_cons_succ, List.getElem?_cons_zero, List.getElem?_nil, Option.some.injEq, reduceCtorEq] at hi
      all_goals subst hi
      · have E0 : a.tmps[0]? = some (.pointer (some ⟨s, 0, none⟩)) := (same_of hsame 0 (by rfl)).trans rfl
        have n1 := not_yet hcl hf 1 (by rfl)
        have n2 := not_yet hcl n1 2 (by rfl)
        have n3 := not_yet hcl n2 3 (by rfl)
        have n14 := not_yet hcl n3 14 (by rfl)
        have n17 := not_yet hcl n14 17 (by rfl)
        obtain rfl := (hS.1 n17).symm
        refine g_plain rfl ?_
        exact does_value (w' := w4) (v := .pointer (some ⟨s, 0, none⟩)) (by go_simp) ⟨(), .inr rfl, ⟨fun _ => rfl, fun e => by rw [upd_ne (by decide), n17] at e; cases e⟩⟩
      · have E9 := hval 0 _ 9 rfl rfl (dep_of hdep 0 (by rfl))
        unfold dr1Val at E9
        have n2 := not_yet hcl hf 2 (by rfl)
        have n3 := not_yet hcl n2 3 (by rfl)
        have n14 := not_yet hcl n3 14 (by rfl)
        have n17 := not_yet hcl n14 17 (by rfl)
        obtain rfl := (hS.1 n17).symm
        obtain ⟨c4, hlk, cg, c0⟩ := HC
        refine g_plain rfl ?_
        exact does_value (w' := w4) (v := .pointer (some ⟨s, 0, none⟩)) (by go_simp) ⟨(), .inr rfl, ⟨fun _ => rfl, fun e => by rw [upd_ne (by decide), n17] at e; cases e⟩⟩
      · have E10 := hval 1 _ 10 rfl rfl (dep_of hdep 1 (by rfl))
        unfold dr1Val at E10
        have n3 := not_yet hcl hf 3 (by rfl)
        have n14 := not_yet hcl n3 14 (by rfl)
        have n17 := not_yet hcl n14 17 (by rfl)
        obtain rfl := (hS.1 n17).symm
        refine g_plain rfl ?_
        exact does_value (w' := w4) (v := .pointer (some ⟨s, 3, none⟩)) (by go_simp) ⟨(), .inr rfl, ⟨fun _ => rfl, fun e => by rw [upd_ne (by decide), n17] at e; cases e⟩⟩
      · have E11 := hval 2 _ 11 rfl rfl (dep_of hdep 2 (by rfl))
        unfold dr1Val at E11
        have n14 := not_yet hcl hf 14 (by rfl)
        have n17 := not_yet hcl n14 17 (by rfl)
        obtain rfl := (hS.1 n17).symm
        have c3 := C3.out
        refine g_plain rfl ?_
        exact does_value (w' := w4) (v := .int .i64 (us : Int)) (by go_simp) ⟨(), .inr rfl, ⟨fun _ => rfl, fun e => by rw [upd_ne (by decide), n17] at e; cases e⟩⟩
      · have E0 : a.tmps[0]? = some (.pointer (some ⟨s, 0, none⟩)) := (same_of hsame 0 (by rfl)).trans rfl
        have n5 := not_yet hcl hf 5 (by rfl)
        have n6 := not_yet hcl n5 6 (by rfl)
        have n7 := not_yet hcl n6 7 (by rfl)
        have n9 := not_yet hcl n7 9 (by rfl)
        have n10 := not_yet hcl n9 10 (by rfl)
        have n11 := not_yet hcl n10 11 (by rfl)
        have n12 := not_yet hcl n11 12 (by rfl)
        have n13 := not_yet hcl n12 13 (by rfl)
        have n14 := not_yet hcl n13 14 (by rfl)
        have n17 := not_yet hcl n14 17 (by rfl)
        obtain rfl := (hS.1 n17).symm
        refine g_plain rfl ?_
        exact does_value (w' := w4) (v := .pointer (some ⟨s, 0, none⟩)) (by go_simp) ⟨(), .inr rfl, ⟨fun _ => rfl, fun e => by rw [upd_ne (by decide), n17] at e; cases e⟩⟩
      · have E13 := hval 4 _ 13 rfl rfl (dep_of hdep 4 (by rfl))
        unfold dr1Val at E13
        have n6 := not_yet hcl hf 6 (by rfl)
        have n7 := not_yet hcl n6 7 (by rfl)
        have n9 := not_yet hcl n7 9 (by rfl)
        have n10 := not_yet hcl n9 10 (by rfl)
        have n11 := not_yet hcl n10 11 (by rfl)
        have n12 := not_yet hcl n11 12 (by rfl)
        have n13 := not_yet hcl n12 13 (by rfl)
        have n14 := not_yet hcl n13 14 (by rfl)
        have n17 := not_yet hcl n14 17 (by rfl)
        obtain rfl := (hS.1 n17).symm
        obtain ⟨c4, hlk, cg, c0⟩ := HC
        refine g_plain rfl ?_
        exact does_value (w' := w4) (v := .pointer (some ⟨s, 0, none⟩)) (by go_simp) ⟨(), .inr rfl, ⟨fun _ => rfl, fun e => by rw [upd_ne (by decide), n17] at e; cases e⟩⟩
      · have E14 := hval 5 _ 14 rfl rfl (dep_of hdep 5 (by rfl))
        unfold dr1Val at E14
        have n7 := not_yet hcl hf 7 (by rfl)
        have n9 := not_yet hcl n7 9 (by rfl)
        have n10 := not_yet hcl n9 10 (by rfl)
        have n11 := not_yet hcl n10 11 (by rfl)
        have n12 := not_yet hcl n11 12 (by rfl)
        have n13 := not_yet hcl n12 13 (by rfl)
        have n14 := not_yet hcl n13 14 (by rfl)
        have n17 := not_yet hcl n14 17 (by rfl)
        obtain rfl := (hS.1 n17).symm
        refine g_plain rfl ?_
        exact does_value (w' := w4) (v := .pointer (some ⟨s, 4, none⟩)) (by go_simp) ⟨(), .inr rfl, ⟨fun _ => rfl, fun e => by rw [upd_ne (by decide), n17] at e; cases e⟩⟩
      · have E15 := hval 6 _ 15 rfl rfl (dep_of hdep 6 (by rfl))
        unfold dr1Val at E15
        have n9 := not_yet hcl hf 9 (by rfl)
        have n10 := not_yet hcl n9 10 (by rfl)
        have n11 := not_yet hcl n10 11 (by rfl)
        have n12 := not_yet hcl n11 12 (by rfl)
        have n13 := not_yet hcl n12 13 (by rfl)
        have n14 := not_yet hcl n13 14 (by rfl)
        have n17 := not_yet hcl n14 17 (by rfl)
        obtain rfl := (hS.1 n17).symm
        obtain ⟨c4, hlk, cg, c0⟩ := HC
        refine g_plain rfl ?_
        exact does_value (w' := w4) (v := .map (some m)) (by go_simp) ⟨(), .inr rfl, ⟨fun _ => rfl, fun e => by rw [upd_ne (by decide), n17] at e; cases e⟩⟩
      · have E3 : a.tmps[3]? = some (.pointer (some ⟨q, 0, none⟩)) := (same_of hsame 3 (by rfl)).trans rfl
        have n9 := not_yet hcl hf 9 (by rfl)
        have n10 := not_yet hcl n9 10 (by rfl)
        have n11 := not_yet hcl n10 11 (by rfl)
        have n12 := not_yet hcl n11 12 (by rfl)
        have n13 := not_yet hcl n12 13 (by rfl)
        have n14 := not_yet hcl n13 14 (by rfl)
        have n17 := not_yet hcl n14 17 (by rfl)
        obtain rfl := (hS.1 n17).symm
        refine g_plain rfl ?_
        exact does_load _ _ rfl q (by rw [eval_getD, E3]; rfl) _ HK.out _ Tryd.underlying32 rfl HSZ.out ⟨(), .inr rfl, ⟨fun _ => rfl, fun e => by rw [upd_ne (by decide), n17] at e; cases e⟩⟩
      · have E16 := hval 7 _ 16 rfl rfl (dep_of hdep 7 (by rfl))
        have E17 := hval 8 _ 17 rfl rfl (dep_of hdep 8 (by rfl))
        unfold dr1Val at E16 E17
        have n10 := not_yet hcl hf 10 (by rfl)
        have n11 := not_yet hcl n10 11 (by rfl)
        have n12 := not_yet hcl n11 12 (by rfl)
        have n13 := not_yet hcl n12 13 (by rfl)
        have n14 := not_yet hcl n13 14 (by rfl)
        have n17 := not_yet hcl n14 17 (by rfl)
        obtain rfl := (hS.1 n17).symm
        obtain ⟨c4, hlk, cg, c0⟩ := HC
        refine g_plain rfl ?_
        exact does_value (w' := w4) (v := .pointer (some ⟨g, 0, none⟩)) (by go_simp) ⟨(), .inr rfl, ⟨fun _ => rfl, fun e => by rw [upd_ne (by decide), n17] at e; cases e⟩⟩
      · have E18 := hval 9 _ 18 rfl rfl (dep_of hdep 9 (by rfl))
        unfold dr1Val at E18
        have n11 := not_yet hcl hf 11 (by rfl)
        have n12 := not_yet hcl n11 12 (by rfl)
        have n13 := not_yet hcl n12 13 (by rfl)
        have n14 := not_yet hcl n13 14 (by rfl)
        have n17 := not_yet hcl n14 17 (by rfl)
        obtain rfl := (hS.1 n17).symm
        obtain ⟨c4, hlk, cg, c0⟩ := HC
        refine g_plain rfl ?_
        exact does_value (w' := w4) (v := .pointer (some ⟨g, 0, none⟩)) (by go_simp) ⟨(), .inr rfl, ⟨fun _ => rfl, fun e => by rw [upd_ne (by decide), n17] at e; cases e⟩⟩
      · have E19 := hval 10 _ 19 rfl rfl (dep_of hdep 10 (by rfl))
        unfold dr1Val at E19
        have n12 := not_yet hcl hf 12 (by rfl)
        have n13 := not_yet hcl n12 13 (by rfl)
        have n14 := not_yet hcl n13 14 (by rfl)
        have n17 := not_yet hcl n14 17 (by rfl)
        obtain rfl := (hS.1 n17).symm
        obtain ⟨c4, hlk, cg, c0⟩ := HC
        refine g_plain rfl ?_
        exact does_value (w' := w4) (v := .pointer (some ⟨g, 0, none⟩)) (by go_simp) ⟨(), .inr rfl, ⟨fun _ => rfl, fun e => by rw [upd_ne (by decide), n17] at e; cases e⟩⟩
      · have E20 := hval 11 _ 20 rfl rfl (dep_of hdep 11 (by rfl))
        unfold dr1Val at E20
        have n13 := not_yet hcl hf 13 (by rfl)
        have n14 := not_yet hcl n13 14 (by rfl)
        have n17 := not_yet hcl n14 17 (by rfl)
        obtain rfl := (hS.1 n17).symm
        obtain ⟨c4, hlk, cg, c0⟩ := HC
        refine g_plain rfl ?_
        exact does_value (w' := w4) (v := .slice Ax x.length cx) (by go_simp) ⟨(), .inr rfl, ⟨fun _ => rfl, fun e => by rw [upd_ne (by decide), n17] at e; cases e⟩⟩
      · have E21 := hval 12 _ 21 rfl rfl (dep_of hdep 12 (by rfl))
        unfold dr1Val at E21
        have n14 := not_yet hcl hf 14 (by rfl)
        have n17 := not_yet hcl n14 17 (by rfl)
        obtain rfl := (hS.1 n17).symm
        refine g_plain rfl ?_
        exact does_value (w' := w4) (v := .int .i64 (x.length : Int)) (by go_simp) ⟨(), .inr rfl, ⟨fun _ => rfl, fun e => by rw [upd_ne (by decide), n17] at e; cases e⟩⟩
      · have E12 := hval 3 _ 12 rfl rfl (dep_of hdep 3 (by rfl))
        have E22 := hval 13 _ 22 rfl rfl (dep_of hdep 13 (by rfl))
        unfold dr1Val at E12 E22
        have n17 := not_yet hcl hf 17 (by rfl)
        obtain rfl := (hS.1 n17).symm
        have hw := HW.out
        refine g_plain rfl ?_
        exact does_value (w' := w4) (v := .int .i64 ((us : Int) - (x.length : Int))) (by go_simp) ⟨(), .inr rfl, ⟨fun _ => rfl, fun e => by rw [upd_ne (by decide), n17] at e; cases e⟩⟩
      · have E9 := hval 0 _ 9 rfl rfl (dep_of hdep 0 (by rfl))
        unfold dr1Val at E9
        have n16 := not_yet hcl hf 16 (by rfl)
        have n17 := not_yet hcl n16 17 (by rfl)
        obtain rfl := (hS.1 n17).symm
        obtain ⟨c4, hlk, cg, c0⟩ := HC
        refine g_plain rfl ?_
        exact does_value (w' := w4) (v := .pointer (some ⟨s, 0, none⟩)) (by go_simp) ⟨(), .inr rfl, ⟨fun _ => rfl, fun e => by rw [upd_ne (by decide), n17] at e; cases e⟩⟩
      · have E24 := hval 15 _ 24 rfl rfl (dep_of hdep 15 (by rfl))
        unfold dr1Val at E24
        have n17 := not_yet hcl hf 17 (by rfl)
        obtain rfl := (hS.1 n17).symm
        refine g_plain rfl ?_
        exact does_value (w' := w4) (v := .pointer (some ⟨s, 3, none⟩)) (by go_simp) ⟨(), .inr rfl, ⟨fun _ => rfl, fun e => by rw [upd_ne (by decide), n17] at e; cases e⟩⟩
      · have E23 := hval 14 _ 23 rfl rfl (dep_of hdep 14 (by rfl))
        have E25 := hval 16 _ 25 rfl rfl (dep_of hdep 16 (by rfl))
        unfold dr1Val at E23 E25
        obtain rfl := (hS.1 hf).symm
        have c3 := C3.out
        have z3 := Z3.out
        refine g_plain rfl ?_
        exact does_skip (w' := w4.setCell ⟨s, 3, none⟩ (.int .i64 ((us : Int) - (x.length : Int)))) (by go_simp) ⟨(), .inl rfl, ⟨fun e => (by rw [upd_eq] at e; cases e), fun _ => rfl⟩⟩
    · intro gh W hS
      have hw5 := hS.2 rfl
      have hset := HS4.out.hd.set_ 3 (.int .i64 ((us : Int) - (x.length : Int)))
      have hgr := grown_setCell w4 s 3 (.int .i64 ((us : Int) - (x.length : Int)))
      have hm5 := HS4.out.mp.grown hgr (by simpa using HS4.out.ne)
      have hk5 := HK4.out.grown hgr (by simpa using HSQ.out)
      rw [← hw5] at hset hgr hm5 hk5
      have HSET := hid hset.drew; have HGR := hid hgr; have HM := hid hm5.drew; have HKd := hid hk5.drew
      have C0 := hid (show W.drew.cell? ⟨s, 0, none⟩ = some (.pointer (some ⟨s, 0, none⟩)) from hset.cell 0 rfl)
      have C4 := hid (show W.drew.cell? ⟨s, 4, none⟩ = some (.map (some m)) from hset.cell 4 rfl)
      simp only [putAll, dr1Val, Nat.reduceAdd, Nat.zero_add, Act.put, List.setIfInBounds_toArray, List.set_cons_zero, List.set_cons_succ]
      clear hS hw5 hset hgr hm5 hk5 HC C3 Z3 HW HK HWD hwd HK4
      have HK := HKd
      go_wp2_with fail
      have HGD := hid (show w4.grownBy W.drew (some s) from ⟨HGR.out.os, HGR.out.tape, HGR.out.output, HGR.out.size, HGR.out.block⟩)
      clear HGR HKd
      generalize hwd : W.drew = w5 at HSET HM HK C0 C4 HGD
      refine wp_region_invG 31 () (dr2Val s m id) (fun f _ W => (f 5 = false → W = w5) ∧ (f 5 = true → MapP W m k (fun x => if x = id then none else f0 x) ∧ w5.grownBy W (some m))) (by kernel_rfl) (by kernel_rfl) (by exact Nat.le_refl 31) ?_ ?_ ?_
      · exact ⟨fun _ => hwd, fun e => absurd e (by decide)⟩
      · intro i o f gh a W hi hf hdep hsame hcl hval hS
        rcases i with _ | _ | _ | _ | _ | _ | i
        all_goals simp only [List.getElem?_cons_succ, List.getElem?_cons_zero, List.getElem?_nil, Option.some.injEq, reduceCtorEq] at hi
        all_goals subst hi
        · have E0 : a.tmps[0]? = some (.pointer (some ⟨s, 0, none⟩)) := (same_of hsame 0 (by rfl)).trans rfl
          have n1 := not_yet hcl hf 1 (by rfl)
          have n2 := not_yet hcl n1 2 (by rfl)
          have n3 := not_yet hcl n2 3 (by rfl)
          have n5 := not_yet hcl n3 5 (by rfl)
          obtain rfl := (hS.1 n5).symm
          refine g_plain rfl ?_
          exact does_value (w' := w5) (v := .pointer (some ⟨s, 0, none⟩)) (by go_simp) ⟨(), .inr rfl, ⟨fun _ => rfl, fun e => by rw [upd_ne (by decide), n5] at e; cases e⟩⟩
        · have E26 := hval 0 _ 26 rfl rfl (dep_of hdep 0 (by rfl))
          unfold dr2Val at E26
          have n2 := not_yet hcl hf 2 (by rfl)
          have n3 := not_yet hcl n2 3 (by rfl)
          have n5 := not_yet hcl n3 5 (by rfl)
          obtain rfl := (hS.1 n5).symm
          have c0 := C0.out
          refine g_plain rfl ?_
          exact does_value (w' := w5) (v := .pointer (some ⟨s, 0, none⟩)) (by go_simp) ⟨(), .inr rfl, ⟨fun _ => rfl, fun e => by rw [upd_ne (by decide), n5] at e; cases e⟩⟩
        · have E27 := hval 1 _ 27 rfl rfl (dep_of hdep 1 (by rfl))
          unfold dr2Val at E27
          have n3 := not_yet hcl hf 3 (by rfl)
          have n5 := not_yet hcl n3 5 (by rfl)
          obtain rfl := (hS.1 n5).symm
          refine g_plain rfl ?_
          exact does_value (w' := w5) (v := .pointer (some ⟨s, 4, none⟩)) (by go_simp) ⟨(), .inr rfl, ⟨fun _ => rfl, fun e => by rw [upd_ne (by decide), n5] at e; cases e⟩⟩
        · have E28 := hval 2 _ 28 rfl rfl (dep_of hdep 2 (by rfl))
          unfold dr2Val at E28
          have n5 := not_yet hcl hf 5 (by rfl)
          obtain rfl := (hS.1 n5).symm
          have c4 := C4.out
          refine g_plain rfl ?_
          exact does_value (w' := w5) (v := .map (some m)) (by go_simp) ⟨(), .inr rfl, ⟨fun _ => rfl, fun e => by rw [upd_ne (by decide), n5] at e; cases e⟩⟩
        · have E3 : a.tmps[3]? = some (.pointer (some ⟨q, 0, none⟩)) := (same_of hsame 3 (by rfl)).trans rfl
          have n5 := not_yet hcl hf 5 (by rfl)
          obtain rfl := (hS.1 n5).symm
          refine g_plain rfl ?_
          exact does_load _ _ rfl q (by rw [eval_getD, E3]; rfl) _ HK.out _ Tryd.underlying32 rfl HSZ.out ⟨(), .inr rfl, ⟨fun _ => rfl, fun e => by rw [upd_ne (by decide), n5] at e; cases e⟩⟩
        · have E29 := hval 3 _ 29 rfl rfl (dep_of hdep 3 (by rfl))
          have E30 := hval 4 _ 30 rfl rfl (dep_of hdep 4 (by rfl))
          unfold dr2Val at E29 E30
          obtain rfl := (hS.1 hf).symm
          obtain ⟨W', hrun, hm, hg⟩ := HM.out.drop HL.out 0
          refine g_plain rfl ?_
          exact does_value (w' := W') (v := .tuple #[]) (by go_simp) ⟨(), .inl rfl, ⟨fun e => (by rw [upd_eq] at e; cases e), fun _ => ⟨hm, hg⟩⟩⟩
      · intro gh W6 hS
        obtain ⟨hm6, hg6⟩ := hS.2 rfl
        have HEnd := hid (drop_end HS4.out (id := id) HXX.out HGD.out (HUE.out ▸ HSET.out) hg6 hm6)
        simp only [putAll, dr2Val, Nat.reduceAdd, Nat.zero_add, Act.put, List.setIfInBounds_toArray, List.set_cons_zero, List.set_cons_succ]
        clear hS hm6 hg6 HSET HM HK C0 C4 HGD hwd
        go_wp2_with fail
        go_ret
        exact ⟨rfl, ⟨_, HEnd.out.1⟩, (Chg.of_below (L := F) (hq ▸ HB4.out)).trans HEnd.out.2 (fun x hx => .inl hx)⟩
end
end Go.Proofs.YtoogaapjdlhpbaaDoor
/- Contracts of package blob: New, Used, Width, Room, IDs of a store without blobs. -/
namespace Go.Proofs.YtoogaapjdlhpbaaDoor
open Go.RowKit Crc

set_option maxRecDepth 20000 in
theorem new_bad (wd rm : Int) (w : World) (h : wd < 1 ∨ 32 < wd ∨ rm < 0 ∨ 67108864 < rm) :
    Calls Tryd.prog 8 #[.int .i64 wd, .int .i64 rm] w fun e w' => e = .returned (.tuple #[.pointer none, .int .i64 3]) ∧ w = w' := by
  by_cases h1 : wd < 1
  · clear h
    go_enter Tryd.func8, Tryd.ntmps8
    go_wp2_with fail
    go_ret2
    exact ⟨rfl, rfl⟩
  · by_cases h2 : 32 < wd
    · clear h
      go_enter Tryd.func8, Tryd.ntmps8
      go_wp2_with fail
      go_ret2
      exact ⟨rfl, rfl⟩
    · by_cases h3 : rm < 0
      · clear h
        go_enter Tryd.func8, Tryd.ntmps8
        go_wp2_with fail
        go_ret2
        exact ⟨rfl, rfl⟩
      · have h4 : 67108864 < rm := by omega
        clear h
        go_enter Tryd.func8, Tryd.ntmps8
        go_wp2_with fail
        go_ret2
        exact ⟨rfl, rfl⟩
theorem new_two (w : World) (cs : Array Value) : ∃ W, (w.alloc (.map #[] 0)).alloc (.cells cs 54) = W ∧ MapP W w.heap.size 0 (fun _ => none) ∧ Blk W (w.heap.size + 1) 54 cs ∧ Below w.heap.size w W := by
  have a1 := MapP.new w
  have z1 := size_new w (.map #[] 0)
  have q1 := below_new w (.map #[] 0)
  generalize w.alloc (.map #[] 0) = w1 at a1 z1 q1 ⊢
  have a2 := Blk.new w1 54 cs
  have q2 := below_new w1 (.cells cs 54)
  rw [z1] at a2
  have a3 := a1.keep q2
  have b2 := q1.trans (q2.mono q1.size)
  exact ⟨_, rfl, a3, a2, b2⟩
def NewP (w : World) (wd rm : Nat) (e : Ending) (w' : World) : Prop := ∃ s m F, e = .returned (.tuple #[.pointer (some ⟨s, 0, none⟩), .int .i64 0]) ∧ StB w' F s m 0 ⟨wd, rm, []⟩ (fun _ => none) ∧ Below w.heap.size w w' ∧ ∀ x ∈ F, w.heap.size ≤ x
set_option maxRecDepth 20000 in
set_option maxHeartbeats 1000000 in
theorem new_calls (wd rm : Nat) (w : World) (h1 : 1 ≤ wd) (h2 : wd ≤ 32) (h3 : rm ≤ 67108864) :
    Calls Tryd.prog 8 #[.int .i64 (wd : Int), .int .i64 (rm : Int)] w (NewP w wd rm) := by
  obtain ⟨W, hW, hm, hb, hbb⟩ := new_two w #[.pointer (some ⟨w.heap.size + 1, 0, none⟩), .int .i64 (wd : Int), .int .i64 (rm : Int), .int .i64 0, .map (some w.heap.size)]
  have HEnd := hid (show StB W [w.heap.size + 1, w.heap.size] (w.heap.size + 1) w.heap.size 0 ⟨wd, rm, []⟩ (fun _ => none) ∧ Below w.heap.size w W from
    ⟨⟨⟨h1, h2, h3, fun p hp => (by cases hp), fun p hp => (by cases hp), Nat.zero_le _, List.nodup_nil⟩, hb, hm, by simp, by simp, by omega, fun _ _ => trivial, fun x hx => by have h1 := hb.lt; have h2 := hm.lt; simp at hx; omega⟩, hbb⟩)
  rw [← hW] at HEnd
  clear hW hm hb hbb
  have p1 : ¬ (wd : Int) < 1 := by omega
  have p2 : ¬ 32 < (wd : Int) := by omega
  have p3 : ¬ (rm : Int) < 0 := by omega
  have p4 : ¬ 67108864 < (rm : Int) := by omega
  have p5 : ¬ wd < 1 := by omega
  have p6 : ¬ 32 < wd := by omega
  have p7 : ¬ wd = 0 := by omega
  have hmm := @run_makeMap Tryd.prog
  clear h1 h2 h3
  go_enter Tryd.func8, Tryd.ntmps8
  go_wp2_with fail
  go_ret2
  unfold NewP
  exact ⟨w.heap.size + 1, w.heap.size, [w.heap.size + 1, w.heap.size], rfl, HEnd.out.1, HEnd.out.2, fun x hx => by simp at hx; omega⟩
section
variable {w : World} {F : List Nat} {s m k : Nat} {b : BS} {f0 : List UInt8 → Option Nat}
theorem used_calls (hs : StB w F s m k b f0) : Calls Tryd.prog 23 #[.pointer (some ⟨s, 0, none⟩)] w fun e w' => e = .returned (.int .i64 (usedB b.l : Int)) ∧ w = w' := by
  have HV := hid (bvalid_calls s _ _ _ _ w hs.hd)
  have c3 : w.cell? ⟨s, 3, none⟩ = some (.int .i64 (usedB b.l : Int)) := hs.hd.cell 3 rfl
  clear hs
  go_enter Tryd.func23, Tryd.ntmps23
  go_wp2_with fail
  refine HV.out.mono ?_
  rintro _ _ ⟨rfl, rfl⟩
  go_wp2_with fail
  go_ret
  exact ⟨rfl, rfl⟩
theorem width_calls (hs : StB w F s m k b f0) : Calls Tryd.prog 25 #[.pointer (some ⟨s, 0, none⟩)] w fun e w' => e = .returned (.int .i64 (b.width : Int)) ∧ w = w' := by
  have HV := hid (bvalid_calls s _ _ _ _ w hs.hd)
  have c3 : w.cell? ⟨s, 1, none⟩ = some (.int .i64 (b.width : Int)) := hs.hd.cell 1 rfl
  clear hs
  go_enter Tryd.func25, Tryd.ntmps25
  go_wp2_with fail
  refine HV.out.mono ?_
  rintro _ _ ⟨rfl, rfl⟩
  go_wp2_with fail
  go_ret
  exact ⟨rfl, rfl⟩
theorem room_calls (hs : StB w F s m k b f0) : Calls Tryd.prog 26 #[.pointer (some ⟨s, 0, none⟩)] w fun e w' => e = .returned (.int .i64 (b.room : Int)) ∧ w = w' := by
  have HV := hid (bvalid_calls s _ _ _ _ w hs.hd)
  have c3 : w.cell? ⟨s, 2, none⟩ = some (.int .i64 (b.room : Int)) := hs.hd.cell 2 rfl
  clear hs
  go_enter Tryd.func26, Tryd.ntmps26
  go_wp2_with fail
  refine HV.out.mono ?_
  rintro _ _ ⟨rfl, rfl⟩
  go_wp2_with fail
  go_ret
  exact ⟨rfl, rfl⟩
end
end Go.Proofs.YtoogaapjdlhpbaaDoor
