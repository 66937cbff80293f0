/- Contracts: what a table of uploads answers. -/
import Derived.Test.YtgacdimjbpkgoaaDoorUpFind
namespace Go.Proofs.YtgacdimjbpkgoaaDoor
open Go.RowKit
attribute [local go_sem] up_mkf

theorem up_two (w : World) (c1 c2 : Array Value) (t1 t2 : TypeId) : ∃ W, W = (w.alloc (.cells c1 t1)).alloc (.cells c2 t2) ∧ Blk W w.heap.size t1 c1 ∧ Blk W (w.heap.size + 1) t2 c2 ∧ Below w.heap.size w W ∧ W.heap.size = w.heap.size + 1 + 1 := by
  have k1 := Blk.new w t1 c1
  have b1 := below_new w (.cells c1 t1)
  have s1 := size_new w (.cells c1 t1)
  have k2 := Blk.new (w.alloc (.cells c1 t1)) t2 c2
  have b2 := below_new (w.alloc (.cells c1 t1)) (.cells c2 t2)
  rw [s1] at k2
  exact ⟨_, rfl, k1.keep b2, k2, b1.trans (b2.mono (by omega)), by simp⟩
theorem up_door {fn : Func} {p q : Tmp} {R : Ending → World → Prop} {k : FuncId} {G : Nat} {a : Act} {w : World} (h : fn.results = #[.tmp p, .cell q 31]) (e z z1 : Int) (v : Value)
    (hd : a.defers = [{ target := .fn (.func k) #[.pointer (some ⟨G + 1, 0, none⟩), .pointer (some ⟨G, 0, none⟩)], args := #[] }])
    (hk : ∀ w, (invoke (.fn (.func k) #[.pointer (some ⟨G + 1, 0, none⟩), .pointer (some ⟨G, 0, none⟩)]) #[]).run Tryd.prog w = .ok (.enter k #[.pointer (some ⟨G + 1, 0, none⟩), .pointer (some ⟨G, 0, none⟩)]) w)
    (hc : ∀ W z, Blk W (G + 1) 65 #[.int .i64 e] → Blk W G 31 #[.int .i64 z] → CallsD Tryd.prog k #[.pointer (some ⟨G + 1, 0, none⟩), .pointer (some ⟨G, 0, none⟩)] .returning W fun en u' w' => u' = .returning ∧ (en = .returned (.tuple #[]) ∧ w' = W.setCell ⟨G, 0, none⟩ (.int .i64 e)))
    (hK : Blk w G 31 #[.int .i64 z]) (hY : Blk w (G + 1) 65 #[.int .i64 e])
    (hp : a.tmps.getD p undef = v) (hq : a.tmps.getD q undef = .pointer (some ⟨G, 0, none⟩)) (hR : ∀ W, Chg [G] w W → R (.returned (.tuple #[v, .int .i64 e])) W) :
    Leaves Tryd.prog fn a.tmps R a.defers .returning (w.setCell ⟨G, 0, none⟩ (.int .i64 z1)) := by
  have k1 : Blk (w.setCell ⟨G, 0, none⟩ (.int .i64 z1)) G 31 #[.int .i64 z1] := by have := hK.set_ 0 (.int .i64 z1); simpa using this
  have y1 : Blk (w.setCell ⟨G, 0, none⟩ (.int .i64 z1)) (G + 1) 65 #[.int .i64 e] := hY.far (p := ⟨G, 0, none⟩) (by simp) _
  refine up_leave h G e z1 v hd (hk _) k1 (hc _ _ y1 k1) hp hq (hR _ ?_)
  exact (Chg.of_grown (L := [G]) (grown_setCell w G 0 _) (fun g e => by cases e; simp)).trans (Chg.of_grown (L := [G]) (grown_setCell _ G 0 _) (fun g e => by cases e; simp)) (fun b hb => .inl hb)
section
variable {w : World} {base t : Nat} {width next : Int} {ss : List US} {sv : Value} {qs : List (Nat × Value × List Value)}
set_option maxHeartbeats 2000000 in
set_option maxRecDepth 20000 in
theorem up_offset_no (h : UpB w base t width next ss sv qs) (hs : (nosOf ss).Pairwise (· < ·)) (hm : ss.length ≤ 1000000) (x : Int) (hno : hasNo ss x = false) :
    Calls Tryd.prog 10 #[.pointer (some ⟨t, 0, none⟩), .int .i64 x] w fun e w' => e = .returned (.tuple #[.int .i64 0, .int .i64 12]) ∧ Below w.heap.size w w' := by
  obtain ⟨W, hW, k0, k1, hB, hZ⟩ := up_two w #[.int .i64 0] #[.int .i64 0] 31 65
  have HF := hid (up_find_no (h.keep hB) hs hm x (w.heap.size + 1) 0 k1 (fun hb => by have := (h.lt _ hb).2; omega) hno)
  have HW := hid hW; have K0 := hid k0; have HB := hid hB; have HZ := hid hZ
  clear h hs hm hno hW k0 k1 hB hZ
  go_enter_defers Tryd.func10, Tryd.ntmps10
  go_wp2_with fail
  rw [← HW.out]
  refine HF.out.mono ?_
  rintro _ w2 ⟨rfl, hc, hz, hb⟩
  have K2 := hid (K0.out.chg hc (by simp)); have Y2 := hid hb
  have HB2 := hid (HB.out.trans (hc.below (B := w.heap.size) (fun b hb => by simp at hb; omega) HB.out.size))
  have c0 : w2.cell? ⟨w.heap.size, 0, none⟩ = some (.int .i64 0) := K2.out.cell 0 rfl
  have z0 := K2.out.frozen 0
  clear hc hz hb HF HW
  go_wp2_with fail
  refine up_door rfl 12 0 0 _ rfl (fun _ => by simp [go_sem]) (fun W z hy hx => up_doorOffset _ _ _ _ _ W hy hx) K2.out Y2.out rfl rfl (fun W hW => ⟨rfl, HB2.out.trans (hW.below (B := w.heap.size) (fun b hb => by simp at hb; omega) HB2.out.size)⟩)
set_option maxHeartbeats 2000000 in
set_option maxRecDepth 20000 in
theorem up_offset_yes (h : UpB w base t width next ss sv qs) (hs : (nosOf ss).Pairwise (· < ·)) (hm : ss.length ≤ 1000000) (x : Int) {s : US} (hss : ss[aheadN (nosOf ss) x]? = some s) (hno : hasNo ss x = true) :
    Calls Tryd.prog 10 #[.pointer (some ⟨t, 0, none⟩), .int .i64 x] w fun e w' => e = .returned (.tuple #[.int .i64 (s.len : Int), .int .i64 0]) ∧ Below w.heap.size w w' := by
  obtain ⟨W, hW, k0, k1, hB, hZ⟩ := up_two w #[.int .i64 0] #[.int .i64 0] 31 65
  have hyf : w.heap.size + 1 ∉ upF t sv qs := fun hb => by have := (h.lt _ hb).2; omega
  have HF := hid (up_find_yes (h.keep hB) hs hm x (w.heap.size + 1) 0 k1 hyf hno)
  have HC := hid (fun q pv us W' (hq : qs[aheadN (nosOf ss) x]? = some (q, pv, us)) (hc : Chg [w.heap.size + 1] W W') => (show W'.cell? ⟨q, 3, none⟩ = some (.int .i64 (s.len : Int)) from
    (((h.keep hB).chg hc (fun b hb hm => hyf (by rw [← List.mem_singleton.1 hm]; exact hb))).each _ s _ hss hq).hd.cell 3 rfl))
  have HW := hid hW; have K0 := hid k0; have HB := hid hB; have HZ := hid hZ
  clear h hs hm hno hW k0 k1 hB hZ hyf
  go_enter_defers Tryd.func10, Tryd.ntmps10
  go_wp2_with fail
  rw [← HW.out]
  refine HF.out.mono ?_
  rintro _ w2 ⟨q, pv, us, hq, rfl, hc, hz, hb⟩
  have cl := HC.out q pv us w2 hq hc
  have K2 := hid (K0.out.chg hc (by simp)); have Y2 := hid hb
  have HB2 := hid (HB.out.trans (hc.below (B := w.heap.size) (fun b hb => by simp at hb; omega) HB.out.size))
  have c0 : w2.cell? ⟨w.heap.size, 0, none⟩ = some (.int .i64 0) := K2.out.cell 0 rfl
  have z0 := K2.out.frozen 0
  clear hc hz hb hq HF HW HC hss
  go_wp2_with fail
  refine up_door rfl 0 0 0 _ rfl (fun _ => by simp [go_sem]) (fun W z hy hx => up_doorOffset _ _ _ _ _ W hy hx) K2.out Y2.out rfl rfl (fun W hW => ⟨rfl, HB2.out.trans (hW.below (B := w.heap.size) (fun b hb => by simp at hb; omega) HB2.out.size)⟩)
end
theorem up_next {w : World} {t : Nat} {width next : Int} {sv : Value} (h : Blk w t 29 (upCells t width next sv)) :
    Calls Tryd.prog 14 #[.pointer (some ⟨t, 0, none⟩)] w fun e w' => e = .returned (.int .i64 next) ∧ w = w' := by
  have HV := hid (up_valid h)
  have c2 : w.cell? ⟨t, 2, none⟩ = some (.int .i64 next) := h.cell 2 rfl
  clear h
  go_enter Tryd.func14, Tryd.ntmps14
  go_wp2_with fail
  refine HV.out.mono ?_
  rintro _ _ ⟨rfl, rfl⟩
  go_wp2_with fail
  go_ret
  exact ⟨rfl, rfl⟩
end Go.Proofs.YtgacdimjbpkgoaaDoor
namespace Go.Proofs.YtgacdimjbpkgoaaDoor
open Go.RowKit
attribute [local go_sem] up_mkf

theorem up_possible_nil (next : Int) (w : World) : Calls Tryd.prog 44 #[.slice none 0 0, .int .i64 next] w fun e w' => e = .returned (.bool true) ∧ w = w' := by
  go_enter Tryd.func44, Tryd.ntmps44
  go_wp2_with fail
  go_loopw [13] (fun i wr => i = .int .i64 0 ∧ wr = w) (fun _ _ => 0)
  case atStart => exact ⟨rfl, rfl⟩
  case round =>
    obtain ⟨rfl, rfl⟩ := hrel
    go_wp2_with fail
    go_ret
    exact ⟨rfl, rfl⟩
set_option maxHeartbeats 4000000 in
set_option maxRecDepth 20000 in
theorem up_load_nil (width next : Int) (h1 : 1 ≤ width) (h2 : width ≤ 32) (h3 : 1 ≤ next) (h4 : next ≤ 1048577) (w : World) :
    Calls Tryd.prog 19 #[.int .i64 width, .int .i64 next, .slice none 0 0] w fun e w' => ∃ t, e = .returned (.tuple #[.pointer (some ⟨t, 0, none⟩), .int .i64 0]) ∧ UpB w' w.heap.size t width next [] (.slice none 0 0) [] ∧ Below w.heap.size w w' := by
  obtain ⟨W, hW, k0, k1, hB, hZ⟩ := up_two w #[.int .i64 0] #[.int .i64 0] 31 65
  have HW := hid hW; have K0 := hid k0; have HB := hid hB; have HZ := hid hZ
  have HU := hid (fun W' (e : Int) (h : Blk W' (w.heap.size + 1) 65 #[.int .i64 0]) => up_unless (w.heap.size + 1) true e 0 W' h)
  have K1 := hid k1
  clear hW k0 k1 hB hZ
  go_enter_defers Tryd.func19, Tryd.ntmps19
  go_wp2_with fail
  rw [← HW.out]
  refine (HU.out W 3 K1.out).mono ?_
  rintro _ w1 ⟨rfl, hc, hz, hb⟩
  have K0 := hid (K0.out.chg hc (by simp)); have K1 := hid (show Blk w1 (w.heap.size + 1) 65 #[.int .i64 0] by simpa using hb)
  have HB := hid (HB.out.trans (hc.below (B := w.heap.size) (fun b hb => by simp at hb; omega) HB.out.size))
  clear hc hz hb HW
  go_wp2_with fail
  refine (HU.out w1 3 K1.out).mono ?_
  rintro _ w2 ⟨rfl, hc, hz, hb⟩
  have K0 := hid (K0.out.chg hc (by simp)); have K1 := hid (show Blk w2 (w.heap.size + 1) 65 #[.int .i64 0] by simpa using hb)
  have HB := hid (HB.out.trans (hc.below (B := w.heap.size) (fun b hb => by simp at hb; omega) HB.out.size))
  clear hc hz hb
  go_wp2_with fail
  refine (up_possible_nil next w2).mono ?_
  rintro _ _ ⟨rfl, rfl⟩
  go_wp2_with fail
  refine (HU.out w2 2 K1.out).mono ?_
  rintro _ w3 ⟨rfl, hc, hz, hb⟩
  have K0 := hid (K0.out.chg hc (by simp)); have K1 := hid (show Blk w3 (w.heap.size + 1) 65 #[.int .i64 0] by simpa using hb)
  have HB := hid (HB.out.trans (hc.below (B := w.heap.size) (fun b hb => by simp at hb; omega) HB.out.size))
  have HLT3 := hid (show w.heap.size < w3.heap.size from K0.out.lt)
  have HT := hid (show Blk (w3.alloc (.cells #[.pointer none, .int .i64 width, .int .i64 next, .slice none 0 0] 29)) w3.heap.size 29 #[.pointer none, .int .i64 width, .int .i64 next, .slice none 0 0] from Blk.new _ _ _)
  have ht0 : (w3.alloc (.cells #[.pointer none, .int .i64 width, .int .i64 next, .slice none 0 0] 29)).cell? ⟨w3.heap.size, 0, none⟩ = some (.pointer none) := HT.out.cell 0 rfl
  clear hc hz hb HU
  go_wp2_with fail
  clear ht0 HT
  have b4 := below_new w3 (.cells #[.pointer (some ⟨w3.heap.size, 0, none⟩), .int .i64 width, .int .i64 next, .slice none 0 0] 29)
  have k4 := Blk.new w3 29 #[.pointer (some ⟨w3.heap.size, 0, none⟩), .int .i64 width, .int .i64 next, .slice none 0 0]
  generalize w3.alloc (.cells #[.pointer (some ⟨w3.heap.size, 0, none⟩), .int .i64 width, .int .i64 next, .slice none 0 0] 29) = w4 at b4 k4 ⊢
  have hw3 := HB.out.size
  have K0 := hid (K0.out.keep b4); have K1 := hid (K1.out.keep b4); have HB := hid (HB.out.trans (b4.mono HB.out.size))
  have KT := hid k4; have HW3 := hid hw3
  have HWT := hid (show w.heap.size < w3.heap.size ∧ w3.heap.size ≠ w.heap.size from ⟨HLT3.out, by have := HLT3.out; omega⟩)
  clear b4 k4 hw3
  generalize w3.heap.size = t at KT HW3 HWT ⊢
  go_loopw [44] (fun i wr => i = .int .i64 0 ∧ wr = w4) (fun _ _ => 0)
  case atStart => exact ⟨rfl, rfl⟩
  case round =>
    obtain ⟨rfl, rfl⟩ := hrel
    have c0 : wr.cell? ⟨w.heap.size, 0, none⟩ = some (.int .i64 0) := K0.out.cell 0 rfl
    have z0 := K0.out.frozen 0
    go_wp2_with fail
    refine up_door rfl 0 0 0 _ rfl (fun _ => by simp [go_sem]) (fun W z hy hx => up_doorLoad _ _ _ _ _ W hy hx) K0.out K1.out rfl rfl (fun W hW => ⟨t, rfl, ?_, HB.out.trans (hW.below (B := w.heap.size) (fun b hb => by simp at hb; omega) HB.out.size)⟩)
    exact ⟨KT.out.chg hW (by simpa using HWT.out.2), World.ownsRow_nil _ _ _ _, fun k s x hs => by simp at hs, fun i j x y _ hx => by simp at hx, Nat.le_of_lt HWT.out.1⟩
theorem up_new_table (width : Int) (h1 : 1 ≤ width) (h2 : width ≤ 32) (w : World) :
    Calls Tryd.prog 18 #[.int .i64 width] w fun e w' => ∃ t, e = .returned (.tuple #[.pointer (some ⟨t, 0, none⟩), .int .i64 0]) ∧ UpB w' w.heap.size t width 1 [] (.slice none 0 0) [] ∧ Below w.heap.size w w' := by
  have HL := hid (up_load_nil width 1 h1 h2 (by omega) (by omega) w)
  clear h1 h2
  go_enter Tryd.func18, Tryd.ntmps18
  go_wp2_with fail
  refine HL.out.mono ?_
  rintro _ w1 ⟨t, rfl, hu, hb⟩
  have HU := hid hu; have HB := hid hb
  clear hu hb HL
  go_wp2_with fail
  go_ret2
  exact ⟨t, rfl, HU.out, HB.out⟩
end Go.Proofs.YtgacdimjbpkgoaaDoor
