/- Links sorted: slices.SortFunc by the library's contract. Written by tools/mkqt.py and mkqtsort.py out of XQtSort.tpl. -/
import Derived.Test.YtjgnbmkhibdcfaaQtCmp
import Derived.Shelf.SlSortCmp.WholeK
import Derived.Shelf.SlSortCmp.NoneTotal
namespace Go.Proofs.Ytjgnbmkhibdcfaa
open Go.RowKit Go.Shelf
open Go.Sort

def cmpVal (p : Nat) (p2 : Nat) (r1 : List UInt8) (r2 : List UInt8) (id1 : List UInt8) (id2 : List UInt8) (cb : Int) (cl : Int) (res : Int) : Nat → Value → Value
  | 0, _ => .pointer (some ⟨p, 0, none⟩)
  | 1, _ => .string (strB r1)
  | 2, _ => .pointer (some ⟨p2, 0, none⟩)
  | 3, _ => .string (strB r2)
  | 4, _ => .int .i64 cb
  | 5, _ => .pointer (some ⟨p, 1, none⟩)
  | 6, _ => .agg (bcells id1)
  | 7, _ => .pointer (some ⟨p2, 1, none⟩)
  | 8, _ => .agg (bcells id2)
  | 9, _ => .int .i64 cl
  | 10, k => k
  | 11, _ => .int .i64 res
  | 12, _ => .int .i64 res
  | _, _ => undef
/-- on the way through a comparison -/
structure CmpS (w : World) (x y : Int) (f : Nat → Bool) (gh : Nat → Value) (W : World) : Prop where
  g : Grown w W
  sl : f 10 = true → ∃ b, gh 10 = .slice (some ⟨b, 0, none⟩) 2 2 ∧ Blk W b 3 #[.int .i64 x, .int .i64 y]
theorem CmpS.step {w W W' : World} {x y : Int} {f : Nat → Bool} {gh : Nat → Value} (h : CmpS w x y f gh W) (hb : Grown W W') (i : Nat) (k : Value) (hi : 10 ≠ i) : CmpS w x y (upd f i) (updN gh i k) W' where
  g := h.g.trans hb
  sl := by
    rw [upd_other hi]
    intro e
    obtain ⟨b, h1, h2⟩ := h.sl e
    exact ⟨b, by unfold updN; rw [if_neg hi]; exact h1, h2.keep hb.below⟩
set_option maxRecDepth 20000 in
set_option maxHeartbeats 2000000 in
theorem qlink_compare (r1 id1 r2 id2 : List UInt8) (h1 : id1.length = 32) (h2 : id2.length = 32) (w : World) :
    Calls Try.prog 60 #[kval (r1, id1), kval (r2, id2)] w fun e w' => e = .returned (.int .i64 (cmpK (r1, id1) (r2, id2))) ∧ Grown w w' := by
  have g1 := ((Grown.refl w).alloc (.cells (kcells (r1, id1)) 71)).alloc (.cells (kcells (r2, id2)) 71)
  have k1 := (Blk.new w 71 (kcells (r1, id1))).keep (below_new _ (.cells (kcells (r2, id2)) 71))
  have k2 := Blk.new (w.alloc (.cells (kcells (r1, id1)) 71)) 71 (kcells (r2, id2))
  rw [size_new] at k2
  have HSH := hid (fun W => qsha_compare id1 id2 W h1 h2)
  have HST := hid (fun W => qstr_compare r1 r2 W)
  have HL1 := hid (show (Try.prog.info? 32).map (·.size) = some (id1.map bv).length from by rw [List.length_map, h1]; kernel_rfl)
  have HL2 := hid (show (Try.prog.info? 32).map (·.size) = some (id2.map bv).length from by rw [List.length_map, h2]; kernel_rfl)
  have HR := hid (show cmpK (r1, id1) (r2, id2) = if Lib.compareBytes r1 r2 = 0 then cmpL id1 id2 else Lib.compareBytes r1 r2 from rfl)
  generalize cmpK (r1, id1) (r2, id2) = res at HR ⊢
  generalize Lib.compareBytes r1 r2 = cb at HST HR
  generalize cmpL id1 id2 = cl at HSH HR
  unfold kval
  go_enter Try.func60, Try.ntmps60
  go_wp2_with fail
  generalize (w.alloc (.cells (kcells (r1, id1)) 71)).alloc (.cells (kcells (r2, id2)) 71) = w2 at g1 k1 k2 ⊢
  generalize w.heap.size = p at k1 k2 ⊢
  obtain ⟨p2, hp2⟩ : ∃ p2, p + 1 = p2 := ⟨_, rfl⟩
  rw [hp2] at k2 ⊢
  have K1 := hid k1; have K2 := hid k2; have G1 := hid g1
  have HC := hid (fun W (hb : Grown w2 W) => (⟨(K1.out.keep hb.below).cell 0 rfl, (K2.out.keep hb.below).cell 0 rfl⟩ : W.cell? ⟨p, 0, none⟩ = some (.string (strB r1)) ∧ W.cell? ⟨p2, 0, none⟩ = some (.string (strB r2))))
  clear k1 k2 g1 hp2 h1 h2
  refine wp_region_invG 17 (.pointer none) (cmpVal p p2 r1 r2 id1 id2 cb cl res) (CmpS w2 cb cl) (by kernel_rfl) (by kernel_rfl) (by exact Nat.le_refl 17) ?_ ?_ ?_
  · exact ⟨(Grown.refl _).drew, fun e => by simp at e⟩
  · intro i o f gh a W hi hf hdep hsame hcl hval hS
    rcases i with _ | _ | _ | _ | _ | _ | _ | _ | _ | _ | _ | _ | _ | i
    all_goals simp only [List.getElem?_cons_succ, List.getElem?_cons_zero, List.getElem?_nil, Option.some.injEq, reduceCtorEq] at hi
    all_goals subst hi
    · have E2 : a.tmps[2]? = some (.pointer (some ⟨p, 0, none⟩)) := (same_of hsame 2 (by rfl)).trans rfl
      refine g_plain rfl ?_
      exact does_value (w' := W) (v := .pointer (some ⟨p, 0, none⟩)) (by go_simp) ⟨.pointer none, .inr rfl, hS.step (Grown.refl _) 0 (.pointer none) (by decide)⟩
    · have E5 := hval 0 _ 5 rfl rfl (dep_of hdep 0 (by rfl))
      unfold cmpVal at E5
      obtain ⟨cp, cp2⟩ := HC.out W hS.g
      refine g_plain rfl ?_
      exact does_value (w' := W) (v := .string (strB r1)) (by go_simp) ⟨.pointer none, .inr rfl, hS.step (Grown.refl _) 1 (.pointer none) (by decide)⟩
    · have E3 : a.tmps[3]? = some (.pointer (some ⟨p2, 0, none⟩)) := (same_of hsame 3 (by rfl)).trans rfl
      refine g_plain rfl ?_
      exact does_value (w' := W) (v := .pointer (some ⟨p2, 0, none⟩)) (by go_simp) ⟨.pointer none, .inr rfl, hS.step (Grown.refl _) 2 (.pointer none) (by decide)⟩
    · have E7 := hval 2 _ 7 rfl rfl (dep_of hdep 2 (by rfl))
      unfold cmpVal at E7
      obtain ⟨cp, cp2⟩ := HC.out W hS.g
      refine g_plain rfl ?_
      exact does_value (w' := W) (v := .string (strB r2)) (by go_simp) ⟨.pointer none, .inr rfl, hS.step (Grown.refl _) 3 (.pointer none) (by decide)⟩
    · have E6 := hval 1 _ 6 rfl rfl (dep_of hdep 1 (by rfl))
      have E8 := hval 3 _ 8 rfl rfl (dep_of hdep 3 (by rfl))
      unfold cmpVal at E6 E8
      refine g_plain rfl ?_
      refine does_call 72 #[.string (strB r1), .string (strB r2)] (by go_simp) ((HST.out W).mono ?_)
      rintro _ W' ⟨rfl, rfl⟩
      exact ⟨_, rfl, .pointer none, .inr rfl, hS.step (Grown.refl _) 4 (.pointer none) (by decide)⟩
    · have E2 : a.tmps[2]? = some (.pointer (some ⟨p, 0, none⟩)) := (same_of hsame 2 (by rfl)).trans rfl
      refine g_plain rfl ?_
      exact does_value (w' := W) (v := .pointer (some ⟨p, 1, none⟩)) (by go_simp) ⟨.pointer none, .inr rfl, hS.step (Grown.refl _) 5 (.pointer none) (by decide)⟩
    · have E10 := hval 5 _ 10 rfl rfl (dep_of hdep 5 (by rfl))
      unfold cmpVal at E10
      refine g_plain rfl ?_
      refine does_load_part 32 _ rfl p 1 (by rw [eval_getD, E10]; rfl) (pre := [.string (strB r1)]) (mid := id1.map bv) (post := []) (by have := K1.out.keep hS.g.below; simpa [kcells, part] using this) rfl Try.underlying32 rfl HL1.out ⟨.pointer none, .inr rfl, hS.step (Grown.refl _) 6 (.pointer none) (by decide)⟩
    · have E3 : a.tmps[3]? = some (.pointer (some ⟨p2, 0, none⟩)) := (same_of hsame 3 (by rfl)).trans rfl
      refine g_plain rfl ?_
      exact does_value (w' := W) (v := .pointer (some ⟨p2, 1, none⟩)) (by go_simp) ⟨.pointer none, .inr rfl, hS.step (Grown.refl _) 7 (.pointer none) (by decide)⟩
    · have E12 := hval 7 _ 12 rfl rfl (dep_of hdep 7 (by rfl))
      unfold cmpVal at E12
      refine g_plain rfl ?_
      refine does_load_part 32 _ rfl p2 1 (by rw [eval_getD, E12]; rfl) (pre := [.string (strB r2)]) (mid := id2.map bv) (post := []) (by have := K2.out.keep hS.g.below; simpa [kcells, part] using this) rfl Try.underlying32 rfl HL2.out ⟨.pointer none, .inr rfl, hS.step (Grown.refl _) 8 (.pointer none) (by decide)⟩
    · have E11 := hval 6 _ 11 rfl rfl (dep_of hdep 6 (by rfl))
      have E13 := hval 8 _ 13 rfl rfl (dep_of hdep 8 (by rfl))
      unfold cmpVal at E11 E13
      refine g_plain rfl ?_
      refine does_call 37 #[.agg (bcells id1), .agg (bcells id2)] (by go_simp) ((HSH.out W).mono ?_)
      rintro _ W' ⟨rfl, hg⟩
      exact ⟨_, rfl, .pointer none, .inr rfl, hS.step hg 9 (.pointer none) (by decide)⟩
    · have E9 := hval 4 _ 9 rfl rfl (dep_of hdep 4 (by rfl))
      have E14 := hval 9 _ 14 rfl rfl (dep_of hdep 9 (by rfl))
      unfold cmpVal at E9 E14
      refine g_plain rfl ?_
      have hrun := run_slice2 cb cl W
      exact does_value (w' := W.alloc (.cells #[.int .i64 cb, .int .i64 cl] 3)) (v := .slice (some ⟨W.heap.size, 0, none⟩) 2 2) (by go_simp) ⟨.slice (some ⟨W.heap.size, 0, none⟩) 2 2, .inr rfl, hS.g.alloc _, fun _ => ⟨W.heap.size, by simp [updN], Blk.new W _ _⟩⟩
    · have E15 := hval 10 _ 15 rfl rfl (dep_of hdep 10 (by rfl))
      unfold cmpVal at E15
      refine g_plain rfl ?_
      obtain ⟨b, eb, hb⟩ := hS.sl (dep_of hdep 10 (by rfl))
      rw [eb] at E15
      refine does_call 71 #[.slice (some ⟨b, 0, none⟩) 2 2] (by go_simp) ((qcmp_or b cb cl res HR.out W hb).mono ?_)
      rintro _ W' ⟨rfl, rfl⟩
      exact ⟨_, rfl, .pointer none, .inr rfl, hS.step (Grown.refl _) 11 (.pointer none) (by decide)⟩
    · have E16 := hval 11 _ 16 rfl rfl (dep_of hdep 11 (by rfl))
      unfold cmpVal at E16
      refine g_plain rfl ?_
      exact does_value (w' := W) (v := .int .i64 res) (by go_simp) ⟨.pointer none, .inr rfl, hS.step (Grown.refl _) 12 (.pointer none) (by decide)⟩
  · intro gh W hS
    have HG := hid (G1.out.trans hS.g)
    simp only [putAll, cmpVal, Nat.reduceAdd, Nat.zero_add, Act.put, List.setIfInBounds_toArray, List.set_cons_zero, List.set_cons_succ]
    clear hS HC HSH HST
    go_wp2_with fail
    go_ret
    exact ⟨rfl, HG.out⟩
theorem sc_isAgg {t : TypeId} (h : (match Try.prog.underlying t with | some (.struct _) => true | some (.array _ _) => true | _ => false) = true) (w : World) : (isAgg t).run Try.prog w = .ok true w := by
  unfold isAgg
  cases hu : Try.prog.underlying t with
  | none => rw [hu] at h; exact absurd h (by decide)
  | some d =>
    rw [hu] at h
    rw [Sem.run_bind, run_underlying hu w]
    cases d <;> first | (simp; done) | cases h
def soRen : Ren where
  f := fun k => if k = 6 then 59 else if k = 14 then 69 else if k = 15 then 70 else if k = 20 then 79 else if k = 21 then 80 else if k = 22 then 81 else if k = 23 then 82 else if k = 24 then 83 else if k = 25 then 84 else if k = 26 then 85 else if k = 27 then 86 else if k = 28 then 87 else if k = 29 then 88 else if k = 46 then 95 else if k = 47 then 96 else if k = 48 then 97 else if k = 49 then 98 else if k = 50 then 99 else if k = 57 then 103 else 0
  t := fun k => if k = 0 then 0 else if k = 3 then 3 else if k = 4 then 4 else if k = 5 then 5 else if k = 9 then 9 else if k = 22 then 84 else if k = 24 then 71 else if k = 25 then 100 else if k = 39 then 118 else if k = 45 then 126 else if k = 46 then 127 else if k = 50 then 75 else if k = 53 then 133 else if k = 55 then 135 else if k = 66 then 139 else if k = 70 then 143 else if k = 76 then 145 else if k = 77 then 146 else 0
  g := fun _ => 0
theorem so_lays : SlLaysF0.n6 Try.prog soRen where
  mixed := by kernel_rfl
  f6 := ⟨ "slices.SortFunc[[]entrepot/quota.link,entrepot/quota.link]", by kernel_rfl, by kernel_rfl⟩
  f14 := ⟨ "slices.pdqsortCmpFunc[entrepot/quota.link]", by kernel_rfl, by kernel_rfl⟩
  f15 := by kernel_rfl
  f20 := ⟨ "slices.insertionSortCmpFunc[entrepot/quota.link]", by kernel_rfl, by kernel_rfl⟩
  f21 := ⟨ "slices.heapSortCmpFunc[entrepot/quota.link]", by kernel_rfl, by kernel_rfl⟩
  f22 := ⟨ "slices.breakPatternsCmpFunc[entrepot/quota.link]", by kernel_rfl, by kernel_rfl⟩
  f23 := ⟨ "slices.choosePivotCmpFunc[entrepot/quota.link]", by kernel_rfl, by kernel_rfl⟩
  f24 := ⟨ "slices.reverseRangeCmpFunc[entrepot/quota.link]", by kernel_rfl, by kernel_rfl⟩
  f25 := ⟨ "slices.partialInsertionSortCmpFunc[entrepot/quota.link]", by kernel_rfl, by kernel_rfl⟩
  f26 := ⟨ "slices.partitionEqualCmpFunc[entrepot/quota.link]", by kernel_rfl, by kernel_rfl⟩
  f27 := ⟨ "slices.partitionCmpFunc[entrepot/quota.link]", by kernel_rfl, by kernel_rfl⟩
  f28 := by kernel_rfl
  f29 := by kernel_rfl
  f46 := ⟨ "slices.siftDownCmpFunc[entrepot/quota.link]", by kernel_rfl, by kernel_rfl⟩
  f47 := by kernel_rfl
  f48 := by kernel_rfl
  f49 := ⟨ "slices.medianAdjacentCmpFunc[entrepot/quota.link]", by kernel_rfl, by kernel_rfl⟩
  f50 := ⟨ "slices.medianCmpFunc[entrepot/quota.link]", by kernel_rfl, by kernel_rfl⟩
  f57 := ⟨ "slices.order2CmpFunc[entrepot/quota.link]", by kernel_rfl, by kernel_rfl⟩
  t0 := by kernel_rfl
  a0 := sc_agg (by kernel_rfl)
  z0 := sc_size (by kernel_rfl)
  v0 := sc_zero (by kernel_rfl)
  t3 := by kernel_rfl
  a3 := sc_agg (by kernel_rfl)
  z3 := sc_size (by kernel_rfl)
  v3 := sc_zero (by kernel_rfl)
  t4 := by kernel_rfl
  a4 := sc_agg (by kernel_rfl)
  z4 := sc_size (by kernel_rfl)
  v4 := sc_zero (by kernel_rfl)
  t5 := by kernel_rfl
  a5 := sc_agg (by kernel_rfl)
  z5 := sc_size (by kernel_rfl)
  v5 := sc_zero (by kernel_rfl)
  t9 := by kernel_rfl
  a9 := sc_agg (by kernel_rfl)
  z9 := sc_size (by kernel_rfl)
  v9 := sc_zero (by kernel_rfl)
  t22 := by kernel_rfl
  a22 := sc_agg (by kernel_rfl)
  z22 := sc_size (by kernel_rfl)
  v22 := sc_zero (by kernel_rfl)
  t25 := by kernel_rfl
  a25 := sc_agg (by kernel_rfl)
  z25 := sc_size (by kernel_rfl)
  v25 := sc_zero (by kernel_rfl)
  t39 := by kernel_rfl
  a39 := sc_agg (by kernel_rfl)
  z39 := sc_size (by kernel_rfl)
  v39 := sc_zero (by kernel_rfl)
  t45 := by kernel_rfl
  a45 := sc_agg (by kernel_rfl)
  z45 := sc_size (by kernel_rfl)
  v45 := sc_zero (by kernel_rfl)
  t46 := by kernel_rfl
  a46 := sc_agg (by kernel_rfl)
  z46 := sc_size (by kernel_rfl)
  v46 := sc_zero (by kernel_rfl)
  t50 := by kernel_rfl
  a50 := sc_agg (by kernel_rfl)
  z50 := sc_size (by kernel_rfl)
  v50 := sc_zero (by kernel_rfl)
  t53 := by kernel_rfl
  a53 := sc_agg (by kernel_rfl)
  z53 := sc_size (by kernel_rfl)
  v53 := sc_zero (by kernel_rfl)
  t55 := by kernel_rfl
  a55 := sc_agg (by kernel_rfl)
  z55 := sc_size (by kernel_rfl)
  v55 := sc_zero (by kernel_rfl)
  t66 := by kernel_rfl
  a66 := sc_agg (by kernel_rfl)
  z66 := sc_size (by kernel_rfl)
  v66 := sc_zero (by kernel_rfl)
  t70 := by kernel_rfl
  a70 := sc_agg (by kernel_rfl)
  z70 := sc_size (by kernel_rfl)
  v70 := sc_zero (by kernel_rfl)
  t76 := by kernel_rfl
  a76 := sc_agg (by kernel_rfl)
  z76 := sc_size (by kernel_rfl)
  v76 := sc_zero (by kernel_rfl)
  t77 := by kernel_rfl
  a77 := sc_agg (by kernel_rfl)
  z77 := sc_size (by kernel_rfl)
  v77 := sc_zero (by kernel_rfl)
/-- links that are keys -/
abbrev SK : Type := { k : LKey // k.2.length = 32 }
def skOf (k : LKey) (h : kok k) : SK := ⟨k, h.2⟩
theorem skOf_val (k : LKey) (h : kok k) : (skOf k h).1 = k := rfl
theorem sk_ext {x y : SK} (h : x.1 = y.1) : x = y := Subtype.ext h
instance : Inhabited SK := ⟨⟨([], List.replicate 32 0), by simp⟩⟩
def skEnc (x : SK) : List Value := (kcells x.1).toList
theorem skEnc_length (x : SK) : (skEnc x).length = 33 := by
  have := kcells_size x.2
  simpa [skEnc] using this
theorem kcells_one (k : LKey) : ∀ v ∈ (kcells k).toList, v.oneCell' = true := fun v hv => by
  simp only [kcells, List.mem_cons, List.mem_map] at hv
  rcases hv with rfl | ⟨x, _, rfl⟩ <;> rfl
def skCmp (x y : SK) : Int := cmpK x.1 y.1
theorem sk_swo : SWO (ltOf skCmp) where
  irrefl x := by unfold ltOf skCmp; rw [cmpK_refl]; rfl
  trans x y z h1 h2 := by
    unfold ltOf skCmp at *
    simp only [decide_eq_true_eq] at *
    exact cmpK_trans x.2 y.2 z.2 h1 h2
  ntrans x y z h1 h2 := by
    unfold ltOf skCmp at *
    simp only [decide_eq_false_iff_not] at *
    intro h3
    have s1 := cmpK_swap x.2 y.2
    have s2 := cmpK_swap y.2 z.2
    by_cases e1 : cmpK x.1 y.1 = 0
    · have := cmpK_zero x.2 y.2 e1
      rw [this] at h3
      exact h2 h3
    · by_cases e2 : cmpK y.1 z.1 = 0
      · have := cmpK_zero y.2 z.2 e2
        rw [← this] at h3
        exact h1 h3
      · have h4 : cmpK y.1 x.1 < 0 := by omega
        exact h2 (cmpK_trans y.2 x.2 z.2 h4 h3)
theorem sk_lays (blk off size : Nat) (w : World) : CmpLays Try.prog 60 #[] skEnc 33 skCmp blk off size w :=
  fun _ _ _ _ x y => (qlink_compare x.1.1 x.1.2 y.1.1 y.1.2 x.2 y.2 _).mono fun _ _ ⟨h1, q, os, h2⟩ => ⟨h1, q, os, h2⟩
theorem qsort_calls (g cap : Nat) (d : Array SK) (w : World) (hH : HoldsK skEnc 33 w g 0 d) (hblk : g < w.heap.size) (hsz : d.size < 4611686018427387904) :
    Calls Try.prog 59 #[.slice (some ⟨g, 0, none⟩) d.size cap, .func (.func 60) #[] #[]] w fun e w' =>
      e = .returned (.tuple #[]) ∧ ∃ d' n os, PermIn 0 d.size d d' ∧ SortedIn (ltOf skCmp) 0 d.size d' ∧ w' = sortWorldK skEnc 33 w g 0 n d' os :=
  AnyQ.slices_SortFunc so_lays 33 (sc_isAgg (by kernel_rfl)) (sc_size (by kernel_rfl)) skEnc skEnc_length (fun x => kcells_one x.1) skCmp sk_swo 60 #[] g 0 cap d w (enters_of Try.func60 (by kernel_rfl) rfl) (sk_lays g 0 d.size w) hH hblk hsz
end Go.Proofs.Ytjgnbmkhibdcfaa
