/- A row of digests in memory, element by element. -/
import Derived.Test.YtoogaapjdlhpbaaDoorBlNew
import Derived.Test.YtoogaapjdlhpbaaDoorOwnCmp
import Derived.Maps.AppendAt
import Derived.Great.Walk
namespace Go.Proofs.YtoogaapjdlhpbaaDoor
open Go.RowKit Crc

def flatI (ids : List (List UInt8)) : List Value := ids.flatMap (fun l => l.map bv)
theorem flatI_length {ids : List (List UInt8)} (h : ∀ y ∈ ids, y.length = 32) : (flatI ids).length = 32 * ids.length := by
  unfold flatI
  induction ids with
  | nil => rfl
  | cons a l ih =>
    have h1 := h a (by simp)
    have h2 := ih (fun y hy => h y (by simp [hy]))
    rw [List.flatMap_cons, List.length_append, h2, List.length_map, h1, List.length_cons]
    omega
theorem flatI_append (a b : List (List UInt8)) : flatI (a ++ b) = flatI a ++ flatI b := by unfold flatI; simp
theorem flatI_split {ids : List (List UInt8)} {j : Nat} {x : List UInt8} (h : ids[j]? = some x) : flatI ids = flatI (ids.take j) ++ x.map bv ++ flatI (ids.drop (j + 1)) := by
  obtain ⟨hlt, rfl⟩ := List.getElem?_eq_some_iff.1 h
  have e : ids = ids.take j ++ ([ids[j]] ++ ids.drop (j + 1)) := by
    rw [List.singleton_append, ← List.drop_eq_getElem_cons hlt, List.take_append_drop]
  have h2 : flatI ids = flatI (ids.take j ++ ([ids[j]] ++ ids.drop (j + 1))) := congrArg flatI e
  rw [h2, flatI_append, flatI_append, ← List.append_assoc]
  congr 1
  simp [flatI]
theorem take_set_lt {α : Type} (l : List α) (j : Nat) (y : α) : (l.set j y).take j = l.take j := by
  rw [List.take_set, List.set_eq_of_length_le (by simp; omega)]
theorem flatI_set {ids : List (List UInt8)} {j : Nat} {y : List UInt8} (h : j < ids.length) : flatI (ids.set j y) = flatI (ids.take j) ++ y.map bv ++ flatI (ids.drop (j + 1)) := by
  have h1 : (ids.set j y)[j]? = some y := by simp [h]
  rw [flatI_split h1, take_set_lt]
  congr 2
  rw [List.drop_set_of_lt (by omega)]
/-- a row of digests: the block, what it has, how much it could hold -/
def RowH (w : World) (base g cap : Nat) (ids : List (List UInt8)) : Prop :=
  ∃ rest, Blk w g 32 (flatI ids ++ rest).toArray ∧ base ≤ g ∧ ids.length ≤ cap ∧ cap ≤ maxLen ∧ (flatI ids ++ rest).length = cap * 32 ∧ ∀ y ∈ ids, y.length = 32
section
variable {w w' : World} {base g cap : Nat} {ids : List (List UInt8)}
theorem RowH.lt (h : RowH w base g cap ids) : g < w.heap.size := by obtain ⟨rest, hb, -⟩ := h; exact hb.lt
theorem RowH.keep (h : RowH w base g cap ids) (hb : Below w.heap.size w w') : RowH w' base g cap ids := by obtain ⟨rest, h1, h2⟩ := h; exact ⟨rest, h1.keep hb, h2⟩
theorem RowH.grown {row : Option Nat} (h : RowH w base g cap ids) (hg : w.grownBy w' row) (hne : row ≠ some g) : RowH w' base g cap ids := by obtain ⟨rest, h1, h2⟩ := h; exact ⟨rest, h1.grown hg hne, h2⟩
theorem RowH.get (h : RowH w base g cap ids) {j : Nat} {x : List UInt8} (hx : ids[j]? = some x) : ∃ pre post, Blk w g 32 (part pre (x.map bv) post) ∧ pre.length = 32 * j ∧ x.length = 32 ∧ ∀ (y : List UInt8), y.length = 32 → ∀ w', Blk w' g 32 (part pre (y.map bv) post) → RowH w' base g cap (ids.set j y) := by
  obtain ⟨rest, hb, h1, h2, h3, h4, h5⟩ := h
  have hlt : j < ids.length := (List.getElem?_eq_some_iff.1 hx).1
  have hx32 := h5 x (List.mem_of_getElem? hx)
  refine ⟨flatI (ids.take j), flatI (ids.drop (j + 1)) ++ rest, ?_, ?_, hx32, fun y hy w' hb' => ⟨rest, ?_, h1, by simpa using h2, h3, ?_, fun z hz => ?_⟩⟩
  · unfold part
    rw [flatI_split hx] at hb
    simpa using hb
  · rw [flatI_length (fun y hy => h5 y (List.mem_of_mem_take hy)), List.length_take]
    omega
  · rw [flatI_set hlt]
    unfold part at hb'
    simpa using hb'
  · rw [← h4, List.length_append, List.length_append, flatI_set hlt, flatI_split hx]
    simp [hy, hx32]
  · rcases List.mem_or_eq_of_mem_set hz with hz | rfl
    · exact h5 z hz
    · exact hy
theorem RowH.of_own {n : Nat} (h : w.ownsRow base 32 32 (.slice (some ⟨g, 0, none⟩) n cap) n (flatI ids)) (h5 : ∀ y ∈ ids, y.length = 32) : RowH w base g cap ids := by
  have hl := flatI_length h5
  have hn : ids.length = n := by have := h.1; omega
  rcases h.2 with ⟨h', _⟩ | ⟨g', cap', cur, h', hb, hg, hnc, hcm, hcs, htake⟩
  · simp at h'
  · simp only [Value.slice.injEq, Option.some.injEq, Addr.mk.injEq, and_true, true_and] at h'
    obtain ⟨rfl, rfl⟩ := h'
    have e : cur.toList = flatI ids ++ cur.toList.drop (n * 32) := by rw [← htake, List.take_append_drop]
    refine ⟨cur.toList.drop (n * 32), ?_, hb, by omega, hcm, ?_, h5⟩
    · rw [← e]; exact hg
    · rw [← e]; simpa using hcs
theorem RowH.own (h : RowH w base g cap ids) : w.ownsRow base 32 32 (.slice (some ⟨g, 0, none⟩) ids.length cap) ids.length (flatI ids) := by
  obtain ⟨rest, hb, h1, h2, h3, h4, h5⟩ := h
  have hl := flatI_length h5
  refine ⟨by rw [hl]; omega, .inr ⟨g, cap, _, rfl, h1, hb, h2, h3, by simpa using h4, ?_⟩⟩
  simp only
  rw [show ids.length * 32 = (flatI ids).length by omega, List.take_left]
theorem RowH.shrink (h : RowH w base g cap ids) (k : Nat) : RowH w base g cap (ids.take k) := by
  obtain ⟨rest, hb, h1, h2, h3, h4, h5⟩ := h
  have e : flatI ids = flatI (ids.take k) ++ flatI (ids.drop k) := by rw [← flatI_append, List.take_append_drop]
  refine ⟨flatI (ids.drop k) ++ rest, ?_, h1, by simp; omega, h3, ?_, fun y hy => h5 y (List.mem_of_mem_take hy)⟩
  · rw [← List.append_assoc, ← e]; exact hb
  · rw [← List.append_assoc, ← e]; exact h4
end
section
variable {P : Program} {o : Oper} {a : Act} {w : World} {T : Value → World → Prop}
theorem does_load_part (t : TypeId) (x : Operand) (ho : o.op = .load t x) (g off : Nat) (hx : a.eval x = .pointer (some ⟨g, off, none⟩)) {t' : TypeId} {pre mid post : List Value} (hb : Blk w g t' (part pre mid post)) (hoff : pre.length = off)
    {d : TypeDesc} (hu : P.underlying t = some d) (hd : (match d with | .struct _ => true | .array _ _ => true | _ => false) = true) (hi : (P.info? t).map (·.size) = some mid.length) (h : T (.agg mid.toArray) w) : OpDoes P o a w T := by
  refine does_value (w' := w) (v := .agg mid.toArray) ?_ h
  unfold execOp
  simp only [ho, hx, Instr.loadAt, Instr.sureAddr, Sem.run_bind, Sem.run_pure, Result.andThen_ok, part_load hb t hoff hu hd hi]
theorem does_store_part (t : TypeId) (x y : Operand) (ho : o.op = .store t x y) (g off : Nat) (cs : List Value) (hx : a.eval x = .pointer (some ⟨g, off, none⟩)) (hy : a.eval y = .agg cs.toArray)
    {t' : TypeId} {pre mid post : List Value} (hb : Blk w g t' (part pre mid post)) (hoff : pre.length = off) (hi : (P.info? t).map (·.size) = some cs.length) (hc : cs.length = mid.length) (h1 : ∀ v ∈ cs, v.oneCell' = true)
    (h : T undef (w.setRow g (part pre cs post))) : OpDoes P o a w T := by
  refine does_skip (w' := w.setRow g (part pre cs post)) ?_ h
  unfold execOp
  simp only [ho, hx, hy, Instr.storeAt, Instr.sureAddr, Sem.run_bind, Sem.run_pure, Result.andThen_ok, part_store hb t hoff hi hc h1]
end
end Go.Proofs.YtoogaapjdlhpbaaDoor
/- Contracts of blob's heap: Less, Swap. Written by tools/mkheap.py. -/
namespace Go.Proofs.YtoogaapjdlhpbaaDoor
open Go.RowKit Crc

def lessVal (g n c i j : Nat) (x y : List UInt8) : Nat → Unit → Value
  | 0, _ => .slice (some ⟨g, 0, none⟩) n c
  | 1, _ => .int .i64 (i : Int)
  | 2, _ => .pointer (some ⟨g, i * 32, none⟩)
  | 3, _ => .agg (bcells x)
  | 4, _ => .slice (some ⟨g, 0, none⟩) n c
  | 5, _ => .int .i64 (j : Int)
  | 6, _ => .pointer (some ⟨g, j * 32, none⟩)
  | 7, _ => .agg (bcells y)
  | 8, _ => .int .i64 (cmpL x y)
  | 9, _ => .bool (decide (cmpL x y < 0))
  | 10, _ => .bool (decide (cmpL x y < 0))
  | _, _ => undef
set_option maxRecDepth 20000 in
set_option maxHeartbeats 2000000 in
theorem less_calls {w : World} {base g c : Nat} {ids : List (List UInt8)} (h : RowH w base g c ids) {i j : Nat} {x y : List UInt8} (hi : ids[i]? = some x) (hj : ids[j]? = some y) (n : Nat) (hn : ids.length = n) (_hn2 : n ≤ 1000000) :
    Calls Tryd.prog 98 #[.slice (some ⟨g, 0, none⟩) n c, .int .i64 (i : Int), .int .i64 (j : Int)] w fun e w' => e = .returned (.bool (decide (cmpL x y < 0))) ∧ Below w.heap.size w w' := by
  obtain ⟨prex, postx, hbx, hpx, hxl, -⟩ := h.get hi
  obtain ⟨prey, posty, hby, hpy, hyl, -⟩ := h.get hj
  have hli : i < n := by rw [← hn]; exact (List.getElem?_eq_some_iff.1 hi).1
  have hlj : j < n := by rw [← hn]; exact (List.getElem?_eq_some_iff.1 hj).1
  have HBx := hid hbx; have HBy := hid hby; have HXL := hid hxl; have HYL := hid hyl
  have HPx := hid (show prex.length = i * 32 by omega); have HPy := hid (show prey.length = j * 32 by omega)
  have HLTi := hid (⟨by omega, hli⟩ : (i : Int) < (n : Int) ∧ i < n)
  have HLTj := hid (⟨by omega, hlj⟩ : (j : Int) < (n : Int) ∧ j < n)
  have HCM := hid (fun W => own_compare_calls x y W hxl hyl)
  clear h hbx hby hxl hyl hpx hpy hli hlj hi hj hn
  go_enter Tryd.func98, Tryd.ntmps98
  go_wp2_with fail
  refine wp_region_invG 17 () (lessVal g n c i j x y) (fun _ _ W => Below w.heap.size w W) (by kernel_rfl) (by kernel_rfl) (by exact Nat.le_refl 17) ?_ ?_ ?_
  · exact (Below.refl _ _).drew
  · intro i o f gh a W hi hf hdep hsame hcl hval hS
    rcases i with _ | _ | _ | _ | _ | _ | _ | _ | _ | _ | _ | i
    all_goals simp only [List.getElem?_cons_succ, List.getElem?_cons_zero, List.getElem?_nil, Option.some.injEq, reduceCtorEq] at hi
    all_goals subst hi
    · have E0 : a.tmps[0]? = some (.slice (some ⟨g, 0, none⟩) n c) := (same_of hsame 0 (by rfl)).trans rfl
      refine g_plain rfl ?_
      exact does_value (w' := W) (v := .slice (some ⟨g, 0, none⟩) n c) (by go_simp) ⟨(), .inr rfl, hS⟩
    · have E1 : a.tmps[1]? = some (.int .i64 (i : Int)) := (same_of hsame 1 (by rfl)).trans rfl
      refine g_plain rfl ?_
      exact does_value (w' := W) (v := .int .i64 (i : Int)) (by go_simp) ⟨(), .inr rfl, hS⟩
    · have E7 := hval 0 _ 7 rfl rfl (dep_of hdep 0 (by rfl))
      have E8 := hval 1 _ 8 rfl rfl (dep_of hdep 1 (by rfl))
      unfold lessVal at E7 E8
      have hlt1 := HLTi.out.1; have hlt2 := HLTi.out.2
      refine g_plain rfl ?_
      exact does_value (w' := W) (v := .pointer (some ⟨g, i * 32, none⟩)) (by go_simp) ⟨(), .inr rfl, hS⟩
    · have E9 := hval 2 _ 9 rfl rfl (dep_of hdep 2 (by rfl))
      unfold lessVal at E9
      refine g_plain rfl ?_
      exact does_load_part _ _ rfl g (i * 32) (by rw [eval_getD, E9]; rfl) (HBx.out.keep hS) HPx.out Tryd.underlying32 rfl (by rw [List.length_map, HXL.out]; kernel_rfl) ⟨(), .inr rfl, hS⟩
    · have E0 : a.tmps[0]? = some (.slice (some ⟨g, 0, none⟩) n c) := (same_of hsame 0 (by rfl)).trans rfl
      refine g_plain rfl ?_
      exact does_value (w' := W) (v := .slice (some ⟨g, 0, none⟩) n c) (by go_simp) ⟨(), .inr rfl, hS⟩
    · have E2 : a.tmps[2]? = some (.int .i64 (j : Int)) := (same_of hsame 2 (by rfl)).trans rfl
      refine g_plain rfl ?_
      exact does_value (w' := W) (v := .int .i64 (j : Int)) (by go_simp) ⟨(), .inr rfl, hS⟩
    · have E11 := hval 4 _ 11 rfl rfl (dep_of hdep 4 (by rfl))
      have E12 := hval 5 _ 12 rfl rfl (dep_of hdep 5 (by rfl))
      unfold lessVal at E11 E12
      have hlt1 := HLTj.out.1; have hlt2 := HLTj.out.2
      refine g_plain rfl ?_
      exact does_value (w' := W) (v := .pointer (some ⟨g, j * 32, none⟩)) (by go_simp) ⟨(), .inr rfl, hS⟩
    · have E13 := hval 6 _ 13 rfl rfl (dep_of hdep 6 (by rfl))
      unfold lessVal at E13
      refine g_plain rfl ?_
      exact does_load_part _ _ rfl g (j * 32) (by rw [eval_getD, E13]; rfl) (HBy.out.keep hS) HPy.out Tryd.underlying32 rfl (by rw [List.length_map, HYL.out]; kernel_rfl) ⟨(), .inr rfl, hS⟩
    · have E10 := hval 3 _ 10 rfl rfl (dep_of hdep 3 (by rfl))
      have E14 := hval 7 _ 14 rfl rfl (dep_of hdep 7 (by rfl))
      unfold lessVal at E10 E14
      refine g_plain rfl ?_
      refine does_call 53 #[.agg (bcells x), .agg (bcells y)] (by go_simp) ((HCM.out W).mono ?_)
      rintro _ W' ⟨rfl, hb⟩
      exact ⟨_, rfl, (), .inr rfl, hS.trans (hb.mono hS.size)⟩
    · have E15 := hval 8 _ 15 rfl rfl (dep_of hdep 8 (by rfl))
      unfold lessVal at E15
      refine g_plain rfl ?_
      exact does_value (w' := W) (v := .bool (decide (cmpL x y < 0))) (by go_simp) ⟨(), .inr rfl, hS⟩
    · have E16 := hval 9 _ 16 rfl rfl (dep_of hdep 9 (by rfl))
      unfold lessVal at E16
      refine g_plain rfl ?_
      exact does_value (w' := W) (v := .bool (decide (cmpL x y < 0))) (by go_simp) ⟨(), .inr rfl, hS⟩
  · intro gh W hS
    have HB2 := hid hS
    simp only [putAll, lessVal, Nat.reduceAdd, Nat.zero_add, Act.put, List.setIfInBounds_toArray, List.set_cons_zero, List.set_cons_succ]
    clear hS HBx HBy HPx HPy HLTi HLTj HCM
    go_wp2_with fail
    go_ret
    exact ⟨rfl, HB2.out⟩
/-- where two elements are exchanged: which stores are done -/
structure SwS (w0 w1 w2 : World) (f : Nat → Bool) (W : World) : Prop where
  a : f 13 = false → W = w0
  b : f 13 = true → f 15 = false → W = w1
  c : f 15 = true → f 13 = true ∧ W = w2
section
variable {w0 w1 w2 W : World} {f : Nat → Bool}
theorem SwS.start {w : World} (h : w.drew = w0) : SwS w0 w1 w2 (fun j => decide (16 ≤ j)) w.drew := ⟨fun _ => h, fun e => absurd e (by decide), fun e => absurd e (by decide)⟩
theorem SwS.step (h : SwS w0 w1 w2 f W) (i : Nat) (h1 : 13 ≠ i) (h2 : 15 ≠ i) : SwS w0 w1 w2 (upd f i) W := ⟨fun e => h.a (by rwa [upd_ne h1] at e), fun e e2 => h.b (by rwa [upd_ne h1] at e) (by rwa [upd_ne h2] at e2), fun e => by rw [upd_ne h2] at e; rw [upd_ne h1]; exact h.c e⟩
theorem SwS.first {W' : World} (h : SwS w0 W' w2 f W) (hf : f 13 = false) : SwS w0 W' w2 (upd f 13) W' :=
  ⟨fun e => (by rw [upd_eq] at e; cases e), fun _ _ => rfl, fun e => by rw [upd_ne (by decide)] at e; have := (h.c e).1; rw [hf] at this; cases this⟩
theorem SwS.second {W' : World} (_h : SwS w0 w1 W' f W) (h13 : f 13 = true) : SwS w0 w1 W' (upd f 15) W' :=
  ⟨fun e => (by rw [upd_ne (by decide), h13] at e; cases e), fun _ e => (by rw [upd_eq] at e; cases e), fun _ => ⟨by rw [upd_ne (by decide)]; exact h13, rfl⟩⟩
end
def swapVal (g n c i j : Nat) (x y : List UInt8) : Nat → Unit → Value
  | 0, _ => .slice (some ⟨g, 0, none⟩) n c
  | 1, _ => .int .i64 (i : Int)
  | 2, _ => .slice (some ⟨g, 0, none⟩) n c
  | 3, _ => .int .i64 (j : Int)
  | 4, _ => .slice (some ⟨g, 0, none⟩) n c
  | 5, _ => .int .i64 (j : Int)
  | 6, _ => .pointer (some ⟨g, j * 32, none⟩)
  | 7, _ => .agg (bcells y)
  | 8, _ => .slice (some ⟨g, 0, none⟩) n c
  | 9, _ => .int .i64 (i : Int)
  | 10, _ => .pointer (some ⟨g, i * 32, none⟩)
  | 11, _ => .agg (bcells x)
  | 12, _ => .pointer (some ⟨g, i * 32, none⟩)
  | 14, _ => .pointer (some ⟨g, j * 32, none⟩)
  | _, _ => undef
def swapL (ids : List (List UInt8)) (i j : Nat) (x y : List UInt8) : List (List UInt8) := (ids.set i y).set j x
set_option maxRecDepth 20000 in
set_option maxHeartbeats 2000000 in
theorem swap_calls {w : World} {base g c : Nat} {ids : List (List UInt8)} (h : RowH w base g c ids) {i j : Nat} {x y : List UInt8} (hi : ids[i]? = some x) (hj : ids[j]? = some y) (n : Nat) (hn : ids.length = n) (_hn2 : n ≤ 1000000) :
    Calls Tryd.prog 101 #[.slice (some ⟨g, 0, none⟩) n c, .int .i64 (i : Int), .int .i64 (j : Int)] w fun e w' => e = .returned (.tuple #[]) ∧ RowH w' base g c (swapL ids i j x y) ∧ w.grownBy w' (some g) := by
  obtain ⟨w0, hwd⟩ : ∃ w0, w.drew = w0 := ⟨_, rfl⟩
  have h0 : RowH w0 base g c ids := by rw [← hwd]; exact h.keep (Below.refl _ _).drew
  obtain ⟨prex, postx, hbx, hpx, hxl, hsx⟩ := h0.get hi
  obtain ⟨prey, posty, hby, hpy, hyl, -⟩ := h0.get hj
  have hli : i < n := by rw [← hn]; exact (List.getElem?_eq_some_iff.1 hi).1
  have hlj : j < n := by rw [← hn]; exact (List.getElem?_eq_some_iff.1 hj).1
  obtain ⟨w1, hw1⟩ : ∃ w1, w0.setRow g (part prex (y.map bv) postx) = w1 := ⟨_, rfl⟩
  have hb1 : Blk w1 g 32 (part prex (y.map bv) postx) := by rw [← hw1]; exact hbx.setRow _
  have hg1 : w0.grownBy w1 (some g) := by rw [← hw1]; exact grown_setRow _ _ _
  have h1 := hsx y hyl w1 hb1
  obtain ⟨z, hz⟩ : ∃ z, (ids.set i y)[j]? = some z := ⟨_, List.getElem?_eq_getElem (by rw [List.length_set]; omega)⟩
  obtain ⟨pre2, post2, hb2, hp2, hm2, hs2⟩ := h1.get hz
  obtain ⟨w2, hw2⟩ : ∃ w2, w1.setRow g (part pre2 (x.map bv) post2) = w2 := ⟨_, rfl⟩
  have hb3 : Blk w2 g 32 (part pre2 (x.map bv) post2) := by rw [← hw2]; exact hb2.setRow _
  have hg2 : w1.grownBy w2 (some g) := by rw [← hw2]; exact grown_setRow _ _ _
  have h2 := hs2 x hxl w2 hb3
  have HEnd := hid (show RowH w2 base g c (swapL ids i j x y) ∧ w.grownBy w2 (some g) from ⟨h2, by
    have e : w.grownBy w0 (some g) := by rw [← hwd]; exact grown_of_below (Below.refl _ _).drew _
    exact (World.grownBy.trans e hg1).trans hg2⟩)
  have HBx := hid hbx; have HBy := hid hby; have HXL := hid hxl; have HYL := hid hyl; have HB2 := hid hb2
  have HPx := hid (show prex.length = i * 32 by omega); have HPy := hid (show prey.length = j * 32 by omega); have HP2 := hid (show pre2.length = j * 32 by omega)
  have HM2 := hid (show (z.map bv).length = 32 by rw [List.length_map]; exact hm2)
  have HLTi := hid (⟨by omega, hli⟩ : (i : Int) < (n : Int) ∧ i < n)
  have HLTj := hid (⟨by omega, hlj⟩ : (j : Int) < (n : Int) ∧ j < n)
  have HW1 := hid hw1; have HW2 := hid hw2
  clear h h0 hbx hby hxl hyl hpx hpy hli hlj hi hj hn hsx h1 hb1 hg1 hb2 hp2 hm2 hs2 hb3 hg2 h2 hz hw1 hw2
  go_enter Tryd.func101, Tryd.ntmps101
  go_wp2_with fail
  refine wp_region_invG 20 () (swapVal g n c i j x y) (fun f _ W => SwS w0 w1 w2 f W) (by kernel_rfl) (by kernel_rfl) (by exact Nat.le_refl 20) ?_ ?_ ?_
  · exact SwS.start hwd
  · intro i o f gh a W hi hf hdep hsame hcl hval hS
    rcases i with _ | _ | _ | _ | _ | _ | _ | _ | _ | _ | _ | _ | _ | _ | _ | _ | i
    all_goals simp only [List.getElem?_cons_succ, List.getElem?_cons_zero, List.getElem?_nil, Option.some.injEq, reduceCtorEq] at hi
    all_goals subst hi
    · have E0 : a.tmps[0]? = some (.slice (some ⟨g, 0, none⟩) n c) := (same_of hsame 0 (by rfl)).trans rfl
      refine g_plain rfl ?_
      exact does_value (w' := W) (v := .slice (some ⟨g, 0, none⟩) n c) (by go_simp) ⟨(), .inr rfl, hS.step 0 (by decide) (by decide)⟩
    · have E1 : a.tmps[1]? = some (.int .i64 (i : Int)) := (same_of hsame 1 (by rfl)).trans rfl
      refine g_plain rfl ?_
      exact does_value (w' := W) (v := .int .i64 (i : Int)) (by go_simp) ⟨(), .inr rfl, hS.step 1 (by decide) (by decide)⟩
    · have E0 : a.tmps[0]? = some (.slice (some ⟨g, 0, none⟩) n c) := (same_of hsame 0 (by rfl)).trans rfl
      refine g_plain rfl ?_
      exact does_value (w' := W) (v := .slice (some ⟨g, 0, none⟩) n c) (by go_simp) ⟨(), .inr rfl, hS.step 2 (by decide) (by decide)⟩
    · have E2 : a.tmps[2]? = some (.int .i64 (j : Int)) := (same_of hsame 2 (by rfl)).trans rfl
      refine g_plain rfl ?_
      exact does_value (w' := W) (v := .int .i64 (j : Int)) (by go_simp) ⟨(), .inr rfl, hS.step 3 (by decide) (by decide)⟩
    · have E0 : a.tmps[0]? = some (.slice (some ⟨g, 0, none⟩) n c) := (same_of hsame 0 (by rfl)).trans rfl
      refine g_plain rfl ?_
      exact does_value (w' := W) (v := .slice (some ⟨g, 0, none⟩) n c) (by go_simp) ⟨(), .inr rfl, hS.step 4 (by decide) (by decide)⟩
    · have E2 : a.tmps[2]? = some (.int .i64 (j : Int)) := (same_of hsame 2 (by rfl)).trans rfl
      refine g_plain rfl ?_
      exact does_value (w' := W) (v := .int .i64 (j : Int)) (by go_simp) ⟨(), .inr rfl, hS.step 5 (by decide) (by decide)⟩
    · have E10 := hval 4 _ 10 rfl rfl (dep_of hdep 4 (by rfl))
      have E11 := hval 5 _ 11 rfl rfl (dep_of hdep 5 (by rfl))
      unfold swapVal at E10 E11
      have hlt1 := HLTj.out.1; have hlt2 := HLTj.out.2
      refine g_plain rfl ?_
      exact does_value (w' := W) (v := .pointer (some ⟨g, j * 32, none⟩)) (by go_simp) ⟨(), .inr rfl, hS.step 6 (by decide) (by decide)⟩
    · have E12 := hval 6 _ 12 rfl rfl (dep_of hdep 6 (by rfl))
      unfold swapVal at E12
      have n13 := not_yet hcl hf 13 (by rfl)
      obtain rfl := (hS.a n13).symm
      refine g_plain rfl ?_
      exact does_load_part _ _ rfl g (j * 32) (by rw [eval_getD, E12]; rfl) (HBy.out) HPy.out Tryd.underlying32 rfl (by rw [List.length_map, HYL.out]; kernel_rfl) ⟨(), .inr rfl, hS.step 7 (by decide) (by decide)⟩
    · have E0 : a.tmps[0]? = some (.slice (some ⟨g, 0, none⟩) n c) := (same_of hsame 0 (by rfl)).trans rfl
      refine g_plain rfl ?_
      exact does_value (w' := W) (v := .slice (some ⟨g, 0, none⟩) n c) (by go_simp) ⟨(), .inr rfl, hS.step 8 (by decide) (by decide)⟩
    · have E1 : a.tmps[1]? = some (.int .i64 (i : Int)) := (same_of hsame 1 (by rfl)).trans rfl
      refine g_plain rfl ?_
      exact does_value (w' := W) (v := .int .i64 (i : Int)) (by go_simp) ⟨(), .inr rfl, hS.step 9 (by decide) (by decide)⟩
    · have E14 := hval 8 _ 14 rfl rfl (dep_of hdep 8 (by rfl))
      have E15 := hval 9 _ 15 rfl rfl (dep_of hdep 9 (by rfl))
      unfold swapVal at E14 E15
      have hlt1 := HLTi.out.1; have hlt2 := HLTi.out.2
      refine g_plain rfl ?_
      exact does_value (w' := W) (v := .pointer (some ⟨g, i * 32, none⟩)) (by go_simp) ⟨(), .inr rfl, hS.step 10 (by decide) (by decide)⟩
    · have E16 := hval 10 _ 16 rfl rfl (dep_of hdep 10 (by rfl))
      unfold swapVal at E16
      have n13 := not_yet hcl hf 13 (by rfl)
      obtain rfl := (hS.a n13).symm
      refine g_plain rfl ?_
      exact does_load_part _ _ rfl g (i * 32) (by rw [eval_getD, E16]; rfl) (HBx.out) HPx.out Tryd.underlying32 rfl (by rw [List.length_map, HXL.out]; kernel_rfl) ⟨(), .inr rfl, hS.step 11 (by decide) (by decide)⟩
    · have E6 := hval 0 _ 6 rfl rfl (dep_of hdep 0 (by rfl))
      have E7 := hval 1 _ 7 rfl rfl (dep_of hdep 1 (by rfl))
      unfold swapVal at E6 E7
      have hlt1 := HLTi.out.1; have hlt2 := HLTi.out.2
      refine g_plain rfl ?_
      exact does_value (w' := W) (v := .pointer (some ⟨g, i * 32, none⟩)) (by go_simp) ⟨(), .inr rfl, hS.step 12 (by decide) (by decide)⟩
    · have E18 := hval 12 _ 18 rfl rfl (dep_of hdep 12 (by rfl))
      have E13 := hval 7 _ 13 rfl rfl (dep_of hdep 7 (by rfl))
      unfold swapVal at E18 E13
      obtain rfl := (hS.a hf).symm
      refine g_plain rfl ?_
      exact does_store_part _ _ _ rfl g (i * 32) (y.map bv) (by rw [eval_getD, E18]; rfl) (by rw [eval_getD, E13]; rfl) HBx.out HPx.out (by rw [List.length_map, HYL.out]; kernel_rfl) (by rw [List.length_map, List.length_map, HXL.out, HYL.out]) (oneCell_bytes y) ⟨(), .inl rfl, (by rw [HW1.out]; exact hS.first hf)⟩
    · have E8 := hval 2 _ 8 rfl rfl (dep_of hdep 2 (by rfl))
      have E9 := hval 3 _ 9 rfl rfl (dep_of hdep 3 (by rfl))
      unfold swapVal at E8 E9
      have hlt1 := HLTj.out.1; have hlt2 := HLTj.out.2
      refine g_plain rfl ?_
      exact does_value (w' := W) (v := .pointer (some ⟨g, j * 32, none⟩)) (by go_simp) ⟨(), .inr rfl, hS.step 14 (by decide) (by decide)⟩
    · have E19 := hval 14 _ 19 rfl rfl (dep_of hdep 14 (by rfl))
      have E17 := hval 11 _ 17 rfl rfl (dep_of hdep 11 (by rfl))
      unfold swapVal at E19 E17
      have h13 := dep_of hdep 13 (by rfl)
      obtain rfl := (hS.b h13 hf).symm
      refine g_plain rfl ?_
      exact does_store_part _ _ _ rfl g (j * 32) (x.map bv) (by rw [eval_getD, E19]; rfl) (by rw [eval_getD, E17]; rfl) HB2.out HP2.out (by rw [List.length_map, HXL.out]; kernel_rfl) (by rw [List.length_map, HXL.out, HM2.out]) (oneCell_bytes x) ⟨(), .inl rfl, (by rw [HW2.out]; exact hS.second h13)⟩
  · intro gh W hS
    obtain rfl := (hS.c rfl).2.symm
    simp only [putAll, swapVal, Nat.reduceAdd, Nat.zero_add, Act.put, List.setIfInBounds_toArray, List.set_cons_zero, List.set_cons_succ]
    clear hS
    go_wp2_with fail
    go_end0
    exact ⟨rfl, HEnd.out⟩
end Go.Proofs.YtoogaapjdlhpbaaDoor
/- Contracts of blob's heap: Push, Pop, Len of the row. Written by tools/mkheap.py. -/
namespace Go.Proofs.YtoogaapjdlhpbaaDoor
open Go.RowKit Crc

theorem infoIDp : (Tryd.prog.info? 32).map (fun i => (i.zero, i.size, i.bytes)) = some (some (.agg (bcells (zeroB 32))), 32, 32) := by kernel_rfl
/-- a row that a pointer leads to -/
structure HpB (w : World) (base T g cap : Nat) (ids : List (List UInt8)) : Prop where
  top : Blk w T 98 #[.slice (some ⟨g, 0, none⟩) ids.length cap]
  row : RowH w base g cap ids
  ne : T ≠ g
  tb : base ≤ T
theorem HpB.keep {w w' : World} {base T g cap : Nat} {ids : List (List UInt8)} (h : HpB w base T g cap ids) (hb : Below w.heap.size w w') : HpB w' base T g cap ids := ⟨h.top.keep hb, h.row.keep hb, h.ne, h.tb⟩
theorem does_append {P : Program} {o : Oper} {a : Act} {w w' : World} {T : Value → World → Prop} (s x : Operand) (t : TypeId) (ho : o.op = .call { callee := .builtin .append, args := #[s, x], argTypes := #[t, t] }) {v u v' : Value} (hv : a.eval s = v) (hx : a.eval x = u)
    (hr : (Builtin.append_ #[t, t] o.type #[v, u]).run P w = .ok v' w') (h : T v' w') : OpDoes P o a w T := by
  refine does_value (w' := w') (v := v') ?_ h
  unfold execOp
  simp only [ho, resolve, invoke, builtin, Sem.run_bind, Sem.run_pure, Result.andThen_ok, List.map_toArray, List.map_cons, List.map_nil, hv, hx, hr]
theorem slice_id (x : List UInt8) (h : x.length = 32) (W : World) : (Instr.buildSlice 98 1 #[(0, .agg (bcells x))]).run Tryd.prog W = .ok (.slice (some ⟨W.heap.size, 0, none⟩) 1 1) (W.alloc (.cells (bcells x) 32)) := by
  obtain ⟨i, hi, hz, hs, hb⟩ := info_parts infoIDp
  have hl : (bcells x).size = 32 := by rw [bcells_size, h]
  refine run_buildSlice (P := Tryd.prog) W _ _ 1 _ _ i _ (by kernel_rfl) hi hz (by rw [hs]; omega) (by rw [hs]; omega) ?_
  rw [hs]
  have hz32 : (bcells (zeroB 32)).size = 32 := by rw [bcells_size]; rfl
  have := Great.fill_whole (s := 32) (by omega) [.agg (bcells x)] ((Array.range (1 * 32)).map ((Value.agg (bcells (zeroB 32))).cells[· % (Value.agg (bcells (zeroB 32))).cells.size]!)) (by simp [Value.cells, hl]) (by simp)
  simpa [Value.cells] using this
theorem does_slice1 {P : Program} {o : Oper} {a : Act} {w w' : World} {T : Value → World → Prop} (t : TypeId) (len i : Nat) (x : Operand) (ho : o.op = .buildSlice t len #[(i, x)]) {u v : Value} (hx : a.eval x = u) (hr : (Instr.buildSlice t len #[(i, u)]).run P w = .ok v w') (h : T v w') : OpDoes P o a w T := by
  refine does_value (w' := w') (v := v) ?_ h
  unfold execOp
  simp only [ho, List.map_toArray, List.map_cons, List.map_nil, hx, Sem.run_bind, Sem.run_pure, Result.andThen_ok, hr]
structure PuS (w1 : World) (base T g c : Nat) (ids : List (List UInt8)) (n : Nat) (x : List UInt8) (f : Nat → Bool) (gh : Nat → Value) (W : World) : Prop where
  h0 : HpB w1 base T g c ids ∧ ids.length = n ∧ base ≤ w1.heap.size
  chg : Chg [T, g] w1 W
  topb : f 9 = false → Blk W T 98 #[.slice (some ⟨g, 0, none⟩) n c]
  row : f 7 = false → RowH W base g c ids
  li : f 6 = true → ∃ q, gh 6 = .slice (some ⟨q, 0, none⟩) 1 1 ∧ w1.heap.size ≤ q ∧ Blk W q 32 (bcells x)
  ap : f 7 = true → ∃ g2 c2, gh 7 = .slice (some ⟨g2, 0, none⟩) (n + 1) c2 ∧ RowH W base g2 c2 (ids ++ [x]) ∧ (g2 = g ∨ w1.heap.size ≤ g2)
  up : f 9 = true → f 7 = true ∧ ∃ g2 c2, gh 7 = .slice (some ⟨g2, 0, none⟩) (n + 1) c2 ∧ Blk W T 98 #[.slice (some ⟨g2, 0, none⟩) (n + 1) c2]
section
variable {w1 W W' : World} {base T g c n : Nat} {ids : List (List UInt8)} {x : List UInt8} {f : Nat → Bool} {gh : Nat → Value}
theorem PuS.start (h : HpB w1 base T g c ids ∧ ids.length = n ∧ base ≤ w1.heap.size) : PuS w1 base T g c ids n x (fun j => decide (10 ≤ j)) (fun _ => .pointer none) w1.drew :=
  ⟨h, (Chg.refl _ _).drew, fun _ => by rw [← h.2.1]; exact h.1.top.drew, fun _ => h.1.row.keep (Below.refl _ _).drew, fun e => absurd e (by decide), fun e => absurd e (by decide), fun e => absurd e (by decide)⟩
theorem PuS.step (h : PuS w1 base T g c ids n x f gh W) (hb : Below W.heap.size W W') (i : Nat) (v : Value) (h6 : 6 ≠ i) (h7 : 7 ≠ i) (h9 : 9 ≠ i) : PuS w1 base T g c ids n x (upd f i) (updN gh i v) W' where
  h0 := h.h0
  chg := h.chg.trans (Chg.of_below (L := []) hb) (fun _ hn => by cases hn)
  topb := fun e => by rw [upd_ne h9] at e; exact (h.topb e).keep hb
  row := fun e => by rw [upd_ne h7] at e; exact (h.row e).keep hb
  li := fun e => by rw [upd_ne h6] at e; rw [updN_ne h6]; obtain ⟨q, k1, k2, k3⟩ := h.li e; exact ⟨q, k1, k2, k3.keep hb⟩
  ap := fun e => by rw [upd_ne h7] at e; rw [updN_ne h7]; obtain ⟨g2, c2, k1, k2, k3⟩ := h.ap e; exact ⟨g2, c2, k1, k2.keep hb, k3⟩
  up := fun e => by rw [upd_ne h9] at e; rw [upd_ne h7, updN_ne h7]; obtain ⟨k0, g2, c2, k1, k2⟩ := h.up e; exact ⟨k0, g2, c2, k1, k2.keep hb⟩
theorem PuS.topc (h : PuS w1 base T g c ids n x f gh W) (e : f 9 = false) : W.cell? ⟨T, 0, none⟩ = some (.slice (some ⟨g, 0, none⟩) n c) := (h.topb e).cell 0 rfl
theorem PuS.topz (h : PuS w1 base T g c ids n x f gh W) (e : f 9 = false) : W.frozen? ⟨T, 0, none⟩ = false := (h.topb e).frozen 0
theorem PuS.form (h : PuS w1 base T g c ids n x f gh W) (e : f 7 = true) : ∃ g2 c2, gh 7 = .slice (some ⟨g2, 0, none⟩) (n + 1) c2 := by obtain ⟨g2, c2, k1, -⟩ := h.ap e; exact ⟨g2, c2, k1⟩
theorem PuS.lit (h : PuS w1 base T g c ids n x f gh W) (_hf : f 6 = false) : PuS w1 base T g c ids n x (upd f 6) (updN gh 6 (.slice (some ⟨W.heap.size, 0, none⟩) 1 1)) (W.alloc (.cells (bcells x) 32)) where
  h0 := h.h0
  chg := h.chg.trans (Chg.of_below (L := []) (below_new W _)) (fun _ hn => by cases hn)
  topb := fun e => by rw [upd_ne (by decide)] at e; exact (h.topb e).keep (below_new W _)
  row := fun e => by rw [upd_ne (by decide)] at e; exact (h.row e).keep (below_new W _)
  li := fun _ => by rw [updN_eq]; exact ⟨_, rfl, h.chg.size, Blk.new W _ _⟩
  ap := fun e => by rw [upd_ne (by decide)] at e; rw [updN_ne (by decide)]; obtain ⟨g2, c2, k1, k2, k3⟩ := h.ap e; exact ⟨g2, c2, k1, k2.keep (below_new W _), k3⟩
  up := fun e => by rw [upd_ne (by decide)] at e; rw [upd_ne (by decide), updN_ne (by decide)]; obtain ⟨k0, g2, c2, k1, k2⟩ := h.up e; exact ⟨k0, g2, c2, k1, k2.keep (below_new W _)⟩
theorem PuS.app (h : PuS w1 base T g c ids n x f gh W) (h6 : f 6 = true) (hf : f 7 = false) (hn : n ≤ 1000000) (hx : x.length = 32) (ty : TypeId) : ∃ q v' W', gh 6 = .slice (some ⟨q, 0, none⟩) 1 1 ∧ (Builtin.append_ #[98, 98] ty #[.slice (some ⟨g, 0, none⟩) n c, .slice (some ⟨q, 0, none⟩) 1 1]).run Tryd.prog W = .ok v' W' ∧ PuS w1 base T g c ids n x (upd f 7) (updN gh 7 v') W' := by
  obtain ⟨q, e6, hq, hbq⟩ := h.li h6
  obtain ⟨i, hi, hz, hsz, hby⟩ := info_parts infoIDp
  obtain ⟨hh, hn1, hbs⟩ := h.h0
  have hrow := h.row hf
  have hown := hrow.own
  rw [hn1] at hown
  have hgl : g < w1.heap.size := hh.row.lt
  obtain ⟨v', W', hr, h2, h3, -, h5⟩ := run_append_own_at (P := Tryd.prog) W base 98 ty 32 i _ 32 32 Tryd.underlying98 hi hz hsz hby (by simp [Value.cells, bcells_size, zeroB_length]) (by omega) _ n (flatI ids) hown ⟨q, 0, none⟩ 1 1 (x.map bv) (by simp [hx]) (fun j u hu => by
    rw [Addr.add_lit, Nat.zero_add]
    exact hbq.cell j (by simpa [bcells] using hu)) (oneCell_bytes x) (by simp [maxLen]; omega) (by omega) (Nat.le_trans hbs h.chg.size)
  have e2 : flatI ids ++ x.map bv = flatI (ids ++ [x]) := by rw [flatI_append]; simp [flatI]
  rw [e2] at h2
  have h32 : ∀ y ∈ ids ++ [x], y.length = 32 := fun y hy => by
    obtain ⟨_, _, _, _, _, _, h9⟩ := hrow
    rcases List.mem_append.1 hy with hy | hy
    · exact h9 y hy
    · rw [List.mem_singleton.1 hy]; exact hx
  refine ⟨q, v', W', e6, hr, ?_⟩
  have hv : ∃ g2 c2, v' = .slice (some ⟨g2, 0, none⟩) (n + 1) c2 := by
    rcases h2.2 with ⟨_, h0⟩ | ⟨g2, c2, _, e, _⟩
    · omega
    · exact ⟨g2, c2, e⟩
  obtain ⟨g2, c2, rfl⟩ := hv
  have hg2 : g2 = g ∨ w1.heap.size ≤ g2 := by
    rcases h5 with h5 | h5
    · exact .inl (by simpa [Value.ownBlock] using h5)
    · have := h.chg.size
      exact .inr (by simp [Value.ownBlock] at h5; omega)
  have h3' : W.grownBy W' (some g) := h3
  refine ⟨h.h0, h.chg.trans (Chg.of_grown (L := [g]) h3' (fun g' e => by cases e; simp)) (fun b hb => .inl (by simp at hb; simp [hb])), fun e => ?_, fun e => ?_, fun e => ?_, fun _ => ?_, fun e => ?_⟩
  · rw [upd_ne (by decide)] at e; exact (h.topb e).grown h3' (by simpa using Ne.symm hh.ne)
  · rw [upd_eq] at e; cases e
  · rw [upd_ne (by decide)] at e; rw [updN_ne (by decide)]
    exact ⟨q, e6, hq, hbq.grown h3' (by intro e2; cases e2; omega)⟩
  · rw [updN_eq]; exact ⟨g2, c2, rfl, RowH.of_own h2 h32, hg2⟩
  · rw [upd_ne (by decide)] at e; have := (h.up e).1; rw [hf] at this; cases this
theorem PuS.put (h : PuS w1 base T g c ids n x f gh W) (h7 : f 7 = true) (hf : f 9 = false) {g2 c2 : Nat} (e7 : gh 7 = .slice (some ⟨g2, 0, none⟩) (n + 1) c2) : PuS w1 base T g c ids n x (upd f 9) (updN gh 9 (.pointer none)) (W.setCell ⟨T, 0, none⟩ (.slice (some ⟨g2, 0, none⟩) (n + 1) c2)) := by
  have hg := grown_setCell W T 0 (.slice (some ⟨g2, 0, none⟩) (n + 1) c2)
  have hb := (h.topb hf).set_ 0 (.slice (some ⟨g2, 0, none⟩) (n + 1) c2)
  obtain ⟨hh, hn1, hbs⟩ := h.h0
  have hTl := hh.top.lt
  refine ⟨h.h0, h.chg.trans (Chg.of_grown (L := [T]) hg (fun g' e => by cases e; simp)) (fun b hb => .inl (by simp at hb; simp [hb])), fun e => ?_, fun e => ?_, fun e => ?_, fun e => ?_, fun _ => ?_⟩
  · rw [upd_eq] at e; cases e
  · rw [upd_ne (by decide), h7] at e; cases e
  · rw [upd_ne (by decide)] at e; rw [updN_ne (by decide)]
    obtain ⟨q, k1, k2, k3⟩ := h.li e
    exact ⟨q, k1, k2, k3.grown hg (by intro e2; cases e2; omega)⟩
  · rw [updN_ne (by decide)]
    obtain ⟨g3, c3, k1, k2, k3⟩ := h.ap h7
    exact ⟨g3, c3, k1, k2.grown hg (by
      intro e2
      cases e2
      rcases k3 with k3 | k3
      · exact hh.ne k3
      · omega), k3⟩
  · rw [upd_ne (by decide), updN_ne (by decide)]
    exact ⟨h7, g2, c2, e7, hb⟩
end
def pushVal (T g n c : Nat) (x : List UInt8) : Nat → Value → Value
  | 0, _ => .pointer (some ⟨T, 0, none⟩)
  | 1, _ => .pointer (some ⟨T, 0, none⟩)
  | 2, _ => .pointer (some ⟨T, 0, none⟩)
  | 3, _ => .slice (some ⟨g, 0, none⟩) n c
  | 4, _ => .iface 32 (.agg (bcells x))
  | 5, _ => .agg (bcells x)
  | 6, k => k
  | 7, k => k
  | 8, _ => .pointer (some ⟨T, 0, none⟩)
  | _, _ => undef
set_option maxRecDepth 20000 in
set_option maxHeartbeats 2000000 in
theorem hpush_calls {w : World} {base T g c : Nat} {ids : List (List UInt8)} (h : HpB w base T g c ids) (hbs : base ≤ w.heap.size) (x : List UInt8) (hx : x.length = 32) (n : Nat) (hn : ids.length = n) (hn2 : n ≤ 1000000) :
    Calls Tryd.prog 100 #[.pointer (some ⟨T, 0, none⟩), .iface 32 (.agg (bcells x))] w fun e w' => e = .returned (.tuple #[]) ∧ ∃ g' c', HpB w' base T g' c' (ids ++ [x]) ∧ Chg [T, g] w w' ∧ (g' = g ∨ w.heap.size ≤ g') := by
  have HH := hid (⟨h, hn, hbs⟩ : HpB w base T g c ids ∧ ids.length = n ∧ base ≤ w.heap.size)
  have HN := hid hn2; have HX := hid hx
  have hti : ∀ W, (Instr.typeAssert (.iface 32 (.agg (bcells x))) 20 32 false).run Tryd.prog W = .ok (.agg (bcells x)) W := fun W => by kernel_rfl
  clear h hn hbs hn2 hx
  go_enter Tryd.func100, Tryd.ntmps100
  go_wp2_with fail
  refine wp_region_invG 13 (.pointer none) (pushVal T g n c x) (PuS w base T g c ids n x) (by kernel_rfl) (by kernel_rfl) (by exact Nat.le_refl 13) ?_ ?_ ?_
  · exact PuS.start HH.out
  · intro i o f gh a W hi hf hdep hsame hcl hval hS
    rcases i with _ | _ | _ | _ | _ | _ | _ | _ | _ | _ | i
    all_goals simp only [List.getElem?_cons_succ, List.getElem?_cons_zero, List.getElem?_nil, Option.some.injEq, reduceCtorEq] at hi
    all_goals subst hi
    · have E0 : a.tmps[0]? = some (.pointer (some ⟨T, 0, none⟩)) := (same_of hsame 0 (by rfl)).trans rfl
      refine g_plain rfl ?_
      exact does_value (w' := W) (v := .pointer (some ⟨T, 0, none⟩)) (by go_simp) ⟨.pointer none, .inr rfl, hS.step (Below.refl _ _) 0 (.pointer none) (by decide) (by decide) (by decide)⟩
    · have E0 : a.tmps[0]? = some (.pointer (some ⟨T, 0, none⟩)) := (same_of hsame 0 (by rfl)).trans rfl
      refine g_plain rfl ?_
      exact does_value (w' := W) (v := .pointer (some ⟨T, 0, none⟩)) (by go_simp) ⟨.pointer none, .inr rfl, hS.step (Below.refl _ _) 1 (.pointer none) (by decide) (by decide) (by decide)⟩
    · have E5 := hval 1 _ 5 rfl rfl (dep_of hdep 1 (by rfl))
      unfold pushVal at E5
      have n9 := not_yet hcl hf 9 (by rfl)
      have c0 := hS.topc n9
      refine g_plain rfl ?_
      exact does_value (w' := W) (v := .pointer (some ⟨T, 0, none⟩)) (by go_simp) ⟨.pointer none, .inr rfl, hS.step (Below.refl _ _) 2 (.pointer none) (by decide) (by decide) (by decide)⟩
    · have E6 := hval 2 _ 6 rfl rfl (dep_of hdep 2 (by rfl))
      unfold pushVal at E6
      have n9 := not_yet hcl hf 9 (by rfl)
      have c0 := hS.topc n9
      refine g_plain rfl ?_
      exact does_value (w' := W) (v := .slice (some ⟨g, 0, none⟩) n c) (by go_simp) ⟨.pointer none, .inr rfl, hS.step (Below.refl _ _) 3 (.pointer none) (by decide) (by decide) (by decide)⟩
    · have E1 : a.tmps[1]? = some (.iface 32 (.agg (bcells x))) := (same_of hsame 1 (by rfl)).trans rfl
      refine g_plain rfl ?_
      exact does_value (w' := W) (v := .iface 32 (.agg (bcells x))) (by go_simp) ⟨.pointer none, .inr rfl, hS.step (Below.refl _ _) 4 (.pointer none) (by decide) (by decide) (by decide)⟩
    · have E8 := hval 4 _ 8 rfl rfl (dep_of hdep 4 (by rfl))
      unfold pushVal at E8
      refine g_plain rfl ?_
      exact does_value (w' := W) (v := .agg (bcells x)) (by go_simp) ⟨.pointer none, .inr rfl, hS.step (Below.refl _ _) 5 (.pointer none) (by decide) (by decide) (by decide)⟩
    · have E9 := hval 5 _ 9 rfl rfl (dep_of hdep 5 (by rfl))
      unfold pushVal at E9
      refine g_plain rfl ?_
      exact does_slice1 _ _ _ _ rfl (by rw [eval_getD, E9]; rfl) (slice_id x HX.out W) ⟨.slice (some ⟨W.heap.size, 0, none⟩) 1 1, .inr rfl, hS.lit hf⟩
    · have E7 := hval 3 _ 7 rfl rfl (dep_of hdep 3 (by rfl))
      have E10 := hval 6 _ 10 rfl rfl (dep_of hdep 6 (by rfl))
      unfold pushVal at E7 E10
      refine g_plain rfl ?_
      obtain ⟨q, v', W', e6, hr, hS'⟩ := hS.app (dep_of hdep 6 (by rfl)) hf HN.out HX.out 98
      rw [e6] at E10
      exact does_append _ _ _ rfl (by rw [eval_getD, E7]; rfl) (by rw [eval_getD, E10]; rfl) hr ⟨v', .inr rfl, hS'⟩
    · have E4 := hval 0 _ 4 rfl rfl (dep_of hdep 0 (by rfl))
      unfold pushVal at E4
      have n9 := not_yet hcl hf 9 (by rfl)
      have c0 := hS.topc n9
      refine g_plain rfl ?_
      exact does_value (w' := W) (v := .pointer (some ⟨T, 0, none⟩)) (by go_simp) ⟨.pointer none, .inr rfl, hS.step (Below.refl _ _) 8 (.pointer none) (by decide) (by decide) (by decide)⟩
    · have E12 := hval 8 _ 12 rfl rfl (dep_of hdep 8 (by rfl))
      have E11 := hval 7 _ 11 rfl rfl (dep_of hdep 7 (by rfl))
      unfold pushVal at E12 E11
      refine g_plain rfl ?_
      obtain ⟨g2, c2, e7⟩ := hS.form (dep_of hdep 7 (by rfl))
      rw [e7] at E11
      have c0 := hS.topc hf; have z0 := hS.topz hf
      exact does_skip (w' := W.setCell ⟨T, 0, none⟩ (.slice (some ⟨g2, 0, none⟩) (n + 1) c2)) (by go_simp) ⟨.pointer none, .inl rfl, hS.put (dep_of hdep 7 (by rfl)) hf e7⟩
  · intro gh W hS
    obtain ⟨-, g2, c2, e7, hb⟩ := hS.up rfl
    obtain ⟨g3, c3, e7', hr, hor⟩ := hS.ap rfl
    rw [e7] at e7'
    simp only [Value.slice.injEq, Option.some.injEq, Addr.mk.injEq, and_true, true_and] at e7'
    obtain ⟨rfl, rfl⟩ := e7'
    obtain ⟨hh, hn1, hbs⟩ := hS.h0
    have hTl := hh.top.lt
    have HEnd := hid (show HpB W base T g2 c2 (ids ++ [x]) ∧ Chg [T, g] w W ∧ (g2 = g ∨ w.heap.size ≤ g2) from ⟨⟨by simpa [hn1] using hb, hr, fun e => (by
      rcases hor with h | h
      · exact hh.ne (e.trans h)
      · omega), hh.tb⟩, hS.chg, hor⟩)
    simp only [putAll, pushVal, Nat.reduceAdd, Nat.zero_add, Act.put, List.setIfInBounds_toArray, List.set_cons_zero, List.set_cons_succ]
    clear hS e7 hb hr hor hh hTl
    go_wp2_with fail
    go_end0
    exact ⟨rfl, g2, c2, HEnd.out⟩
set_option maxRecDepth 20000 in
set_option maxHeartbeats 2000000 in
theorem hpop_calls {w : World} {base T g c : Nat} {ids : List (List UInt8)} {x : List UInt8} (h : HpB w base T g c (ids ++ [x])) (n : Nat) (hn : ids.length = n) (hn2 : n ≤ 1000000) :
    Calls Tryd.prog 99 #[.pointer (some ⟨T, 0, none⟩)] w fun e w' => e = .returned (.iface 32 (.agg (bcells x))) ∧ HpB w' base T g c ids ∧ Chg [T] w w' := by
  have hz := (zero_of_info info26).1
  have hxn : (ids ++ [x])[n]? = some x := by rw [← hn]; simp
  obtain ⟨pre, post, hb, hp, hx, -⟩ := h.row.get hxn
  have hnc : n ≤ c := by
    obtain ⟨_, _, _, h2, _⟩ := h.row
    simp at h2
    omega
  have HB := hid hb; have HP := hid (show pre.length = n * 32 by omega)
  have HSZ := hid (show (Tryd.prog.info? 32).map (·.size) = some (bcells x).size from by rw [bcells_size, hx]; kernel_rfl)
  have HSP := hid (show (Tryd.prog.info? 32).map (·.size) = some (x.map bv).length from by rw [List.length_map, hx]; kernel_rfl)
  have HZ3 := hid (show (bcells (zeroB 32)).size = (bcells x).size from by rw [bcells_size, bcells_size, hx]; rfl)
  have htop : Blk w T 98 #[.slice (some ⟨g, 0, none⟩) (n + 1) c] := by have := h.top; simpa [hn] using this
  have c0 : w.cell? ⟨T, 0, none⟩ = some (.slice (some ⟨g, 0, none⟩) (n + 1) c) := htop.cell 0 rfl
  have HH := hid h; have HT := hid htop
  have e1 : IntKind.i64.wrap (((n + 1 : Nat) : Int) - 1) = (n : Int) := by rw [IntWalk.i64_in _ (by omega)]; omega
  clear h hb hp hx hxn htop
  obtain ⟨N, hN⟩ : ∃ N, n + 1 = N := ⟨_, rfl⟩
  rw [hN] at c0 e1 HT
  have HNN := hid hN
  have q1 : (n : Int) < (N : Int) := by omega
  have q2 : n < N := by omega
  clear hN
  go_enter Tryd.func99, Tryd.ntmps99
  obtain ⟨r1, r2⟩ := new_set w 32 (bcells (zeroB 32)) (bcells x)
  have K3 := hid (Blk.new w 32 (bcells (zeroB 32)))
  have K4 := hid r2; have HT4 := hid (HT.out.keep r1); have HR4 := hid (HH.out.row.keep r1); have HB4 := hid r1
  have c4 : ((w.alloc (.cells (bcells (zeroB 32)) 32)).setRow w.heap.size (bcells x)).cell? ⟨T, 0, none⟩ = some (.slice (some ⟨g, 0, none⟩) N c) := HT4.out.cell 0 rfl
  have z4 : ((w.alloc (.cells (bcells (zeroB 32)) 32)).setRow w.heap.size (bcells x)).frozen? ⟨T, 0, none⟩ = false := HT4.out.frozen 0
  have hTl := HT.out.lt
  have K5 := hid (K4.out.far (p := ⟨T, 0, none⟩) (by show w.heap.size ≠ T; omega) (.slice (some ⟨g, 0, none⟩) n c))
  have HEnd := hid (show HpB (((w.alloc (.cells (bcells (zeroB 32)) 32)).setRow w.heap.size (bcells x)).setCell ⟨T, 0, none⟩ (.slice (some ⟨g, 0, none⟩) n c)) base T g c ids ∧ Chg [T] w (((w.alloc (.cells (bcells (zeroB 32)) 32)).setRow w.heap.size (bcells x)).setCell ⟨T, 0, none⟩ (.slice (some ⟨g, 0, none⟩) n c)) from
    ⟨⟨by have := HT4.out.set_ 0 (.slice (some ⟨g, 0, none⟩) n c); rw [hn]; exact this, by
        have := (HR4.out.grown (grown_setCell _ T 0 (.slice (some ⟨g, 0, none⟩) n c)) (by simpa using HH.out.ne)).shrink n
        have e : (ids ++ [x]).take n = ids := by rw [← hn, List.take_left]
        rw [e] at this; exact this, HH.out.ne, HH.out.tb⟩,
      (Chg.of_below (L := [T]) HB4.out).trans (Chg.of_grown (L := [T]) (grown_setCell _ T 0 _) (fun g' e => by cases e; simp)) (fun b hb => .inl hb)⟩)
  go_wp2_with (first
    | (refine wpList_load_part rfl 32 _ rfl g (n * 32) rfl HB.out HP.out Tryd.underlying32 rfl HSP.out ?_)
    | (refine wpList_store_blk rfl 32 _ _ rfl w.heap.size (bcells x) rfl rfl 32 _ K3.out HSZ.out HZ3.out (bcells_oneCell _) ?_)
    | (refine wpList_load_blk rfl 32 _ rfl w.heap.size rfl 32 _ K5.out _ _ Tryd.underlying32 HSZ.out ?_))
  go_ret
  exact ⟨rfl, HEnd.out⟩
end Go.Proofs.YtoogaapjdlhpbaaDoor
