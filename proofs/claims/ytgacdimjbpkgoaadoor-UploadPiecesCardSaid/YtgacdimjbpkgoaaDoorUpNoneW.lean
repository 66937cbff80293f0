/- A table that is nil, or that nobody made; the law UploadNone, walked. -/
import Derived.Test.YtgacdimjbpkgoaaDoorUpLaw
import Derived.Test.YtgacdimjbpkgoaaDoorOrders
import Derived.Test.YtgacdimjbpkgoaaDoorShaBytes
namespace Go.Proofs.YtgacdimjbpkgoaaDoor
open Go.RowKit Crc
attribute [local go_sem] up_mkf

theorem un_unless (h : Value) (w : World) (_hn : UpNo w h) (y : Nat) (hy : Blk w y 65 #[.int .i64 0]) :
    Calls Tryd.prog 27 #[.pointer (some ⟨y, 0, none⟩), .bool false, .int .i64 1] w fun en w' => en = .returned (.bool false) ∧ Chg [y] w w' ∧ w'.heap.size = w.heap.size ∧ Blk w' y 65 #[.int .i64 1] :=
  (up_unless y false 1 0 w hy).mono fun e w' ⟨h1, h2, h3, h4⟩ => ⟨h1, h2, h3, by simpa using h4⟩
theorem un_find (h : Value) (x : Int) (w : World) (hn : UpNo w h) (y : Nat) (hy : Blk w y 65 #[.int .i64 0]) :
    Calls Tryd.prog 32 #[h, .int .i64 x, .pointer (some ⟨y, 0, none⟩)] w fun en w' => en = .returned (.pointer none) ∧ Chg [y] w w' ∧ w'.heap.size = w.heap.size ∧ Blk w' y 65 #[.int .i64 1] := by
  have HV := hid (up_invalid h w hn)
  have HU := hid (un_unless h w hn y hy)
  clear hn hy
  go_enter Tryd.func32, Tryd.ntmps32
  go_wp2_with fail
  refine HV.out.mono ?_
  rintro _ _ ⟨rfl, rfl⟩
  go_wp2_with fail
  refine HU.out.mono ?_
  rintro _ w1 ⟨rfl, hc, hz, hb⟩
  have HE := hid (⟨hc, hz, hb⟩ : Chg [y] w w1 ∧ w1.heap.size = w.heap.size ∧ Blk w1 y 65 #[.int .i64 1])
  clear hc hz hb HU HV
  go_wp2_with fail
  go_ret
  exact ⟨rfl, HE.out⟩
set_option maxHeartbeats 2000000 in
set_option maxRecDepth 20000 in
theorem un_start (h : Value) (r : ByteArray) (w : World) (hn : UpNo w h) :
    Calls Tryd.prog 8 #[h, .string r] w fun e w' => e = .returned (.tuple #[.int .i64 0, .int .i64 1]) ∧ Below w.heap.size w w' := by
  obtain ⟨W, hW, k0, k1, hB, hZ⟩ := up_two w #[.int .i64 0] #[.int .i64 0] 31 65
  have HF := hid (un_unless h W (hn.keep hB) (w.heap.size + 1) k1)
  have HV := hid (up_invalid h W (hn.keep hB))
  have HW := hid hW; have K0 := hid k0; have HB := hid hB
  clear hn hW k0 k1 hB hZ
  go_enter_defers Tryd.func8, Tryd.ntmps8
  go_wp2_with fail
  rw [← HW.out]
  refine HV.out.mono ?_
  rintro _ _ ⟨rfl, rfl⟩
  go_wp2_with fail
  refine HF.out.mono ?_
  rintro _ w2 ⟨rfl, hc, hz, hb⟩
  have K2 := hid (K0.out.chg hc (by simp)); have Y2 := hid hb
  have HB2 := hid (HB.out.trans (hc.below (B := w.heap.size) (fun b hb => by simp at hb; omega) HB.out.size))
  have c0 : w2.cell? ⟨w.heap.size, 0, none⟩ = some (.int .i64 0) := K2.out.cell 0 rfl
  have z0 := K2.out.frozen 0
  clear hc hz hb HF HW HV
  go_wp2_with fail
  refine up_door rfl 1 0 0 _ rfl (fun _ => by simp [go_sem]) (fun W z hy hx => up_doorStart _ _ _ _ _ W hy hx) K2.out Y2.out rfl rfl (fun W hW => ⟨rfl, HB2.out.trans (hW.below (B := w.heap.size) (fun b hb => by simp at hb; omega) HB2.out.size)⟩)
set_option maxHeartbeats 2000000 in
set_option maxRecDepth 20000 in
theorem un_write (h : Value) (x off : Int) (A : Option Addr) (n c : Nat) (w : World) (hn : UpNo w h) :
    Calls Tryd.prog 9 #[h, .int .i64 x, .int .i64 off, .slice A n c] w fun e w' => e = .returned (.tuple #[.int .i64 0, .int .i64 1]) ∧ Below w.heap.size w w' := by
  obtain ⟨W, hW, k0, k1, hB, hZ⟩ := up_two w #[.int .i64 0] #[.int .i64 0] 31 65
  have HF := hid (un_find h x W (hn.keep hB) (w.heap.size + 1) k1)
  have HV := hid (up_invalid h W (hn.keep hB))
  have HW := hid hW; have K0 := hid k0; have HB := hid hB
  clear hn hW k0 k1 hB hZ
  go_enter_defers Tryd.func9, Tryd.ntmps9
  go_wp2_with fail
  rw [← HW.out]
  refine HF.out.mono ?_
  rintro _ w2 ⟨rfl, hc, hz, hb⟩
  have K2 := hid (K0.out.chg hc (by simp)); have Y2 := hid hb
  have HB2 := hid (HB.out.trans (hc.below (B := w.heap.size) (fun b hb => by simp at hb; omega) HB.out.size))
  have c0 : w2.cell? ⟨w.heap.size, 0, none⟩ = some (.int .i64 0) := K2.out.cell 0 rfl
  have z0 := K2.out.frozen 0
  clear hc hz hb HF HW HV
  go_wp2_with fail
  refine up_door rfl 1 0 0 _ rfl (fun _ => by simp [go_sem]) (fun W z hy hx => up_doorWrite _ _ _ _ _ W hy hx) K2.out Y2.out rfl rfl (fun W hW => ⟨rfl, HB2.out.trans (hW.below (B := w.heap.size) (fun b hb => by simp at hb; omega) HB2.out.size)⟩)
set_option maxHeartbeats 2000000 in
set_option maxRecDepth 20000 in
theorem un_offset (h : Value) (x : Int) (w : World) (hn : UpNo w h) :
    Calls Tryd.prog 10 #[h, .int .i64 x] w fun e w' => e = .returned (.tuple #[.int .i64 0, .int .i64 1]) ∧ Below w.heap.size w w' := by
  obtain ⟨W, hW, k0, k1, hB, hZ⟩ := up_two w #[.int .i64 0] #[.int .i64 0] 31 65
  have HF := hid (un_find h x W (hn.keep hB) (w.heap.size + 1) k1)
  have HV := hid (up_invalid h W (hn.keep hB))
  have HW := hid hW; have K0 := hid k0; have HB := hid hB
  clear hn hW k0 k1 hB hZ
  go_enter_defers Tryd.func10, Tryd.ntmps10
  go_wp2_with fail
  rw [← HW.out]
  refine HF.out.mono ?_
  rintro _ w2 ⟨rfl, hc, hz, hb⟩
  have K2 := hid (K0.out.chg hc (by simp)); have Y2 := hid hb
  have HB2 := hid (HB.out.trans (hc.below (B := w.heap.size) (fun b hb => by simp at hb; omega) HB.out.size))
  have c0 : w2.cell? ⟨w.heap.size, 0, none⟩ = some (.int .i64 0) := K2.out.cell 0 rfl
  have z0 := K2.out.frozen 0
  clear hc hz hb HF HW HV
  go_wp2_with fail
  refine up_door rfl 1 0 0 _ rfl (fun _ => by simp [go_sem]) (fun W z hy hx => up_doorOffset _ _ _ _ _ W hy hx) K2.out Y2.out rfl rfl (fun W hW => ⟨rfl, HB2.out.trans (hW.below (B := w.heap.size) (fun b hb => by simp at hb; omega) HB2.out.size)⟩)
theorem up_door1 {fn : Func} {q : Tmp} {R : Ending → World → Prop} {k : FuncId} {G : Nat} {a : Act} {w : World} (h : fn.results = #[.cell q 31]) (e z z1 : Int)
    (hd : a.defers = [{ target := .fn (.func k) #[.pointer (some ⟨G + 1, 0, none⟩), .pointer (some ⟨G, 0, none⟩)], args := #[] }])
    (hk : ∀ w, (invoke (.fn (.func k) #[.pointer (some ⟨G + 1, 0, none⟩), .pointer (some ⟨G, 0, none⟩)]) #[]).run Tryd.prog w = .ok (.enter k #[.pointer (some ⟨G + 1, 0, none⟩), .pointer (some ⟨G, 0, none⟩)]) w)
    (hc : ∀ W z, Blk W (G + 1) 65 #[.int .i64 e] → Blk W G 31 #[.int .i64 z] → CallsD Tryd.prog k #[.pointer (some ⟨G + 1, 0, none⟩), .pointer (some ⟨G, 0, none⟩)] .returning W fun en u' w' => u' = .returning ∧ (en = .returned (.tuple #[]) ∧ w' = W.setCell ⟨G, 0, none⟩ (.int .i64 e)))
    (hK : Blk w G 31 #[.int .i64 z]) (hY : Blk w (G + 1) 65 #[.int .i64 e])
    (hq : a.tmps.getD q undef = .pointer (some ⟨G, 0, none⟩)) (hR : ∀ W, Chg [G] w W → R (.returned (.int .i64 e)) W) :
    Leaves Tryd.prog fn a.tmps R a.defers .returning (w.setCell ⟨G, 0, none⟩ (.int .i64 z1)) := by
  have k1 : Blk (w.setCell ⟨G, 0, none⟩ (.int .i64 z1)) G 31 #[.int .i64 z1] := by have := hK.set_ 0 (.int .i64 z1); simpa using this
  have y1 : Blk (w.setCell ⟨G, 0, none⟩ (.int .i64 z1)) (G + 1) 65 #[.int .i64 e] := hY.far (p := ⟨G, 0, none⟩) (by simp) _
  rw [hd]
  refine leaves_cons (f := k) (args := #[.pointer (some ⟨G + 1, 0, none⟩), .pointer (some ⟨G, 0, none⟩)]) (by simp) (hk _) ((hc _ _ y1 k1).mono ?_)
  rintro en u' w' ⟨rfl, rfl, rfl⟩
  have hb := k1.set_ 0 (.int .i64 e)
  have hl := up_load_int Tryd.underlying31 _ ⟨G, 0, none⟩ (.int .i64 e) (hb.cell 0 (by simp))
  refine ⟨.int .i64 e, ?_, hR _ ((Chg.of_grown (L := [G]) (grown_setCell w G 0 _) (fun g e => by cases e; simp)).trans (Chg.of_grown (L := [G]) (grown_setCell _ G 0 _) (fun g e => by cases e; simp)) (fun b hb => .inl hb))⟩
  have hq' : a.tmps[q]?.getD undef = .pointer (some ⟨G, 0, none⟩) := by simpa using hq
  simp [results, h, hq', asAddr, hl]
set_option maxHeartbeats 2000000 in
set_option maxRecDepth 20000 in
theorem un_cancel (h : Value) (x : Int) (w : World) (hn : UpNo w h) :
    Calls Tryd.prog 13 #[h, .int .i64 x] w fun e w' => e = .returned (.int .i64 1) ∧ Below w.heap.size w w' := by
  obtain ⟨W, hW, k0, k1, hB, hZ⟩ := up_two w #[.int .i64 0] #[.int .i64 0] 31 65
  have HF := hid (un_find h x W (hn.keep hB) (w.heap.size + 1) k1)
  have HV := hid (up_invalid h W (hn.keep hB))
  have HW := hid hW; have K0 := hid k0; have HB := hid hB
  clear hn hW k0 k1 hB hZ
  go_enter_defers Tryd.func13, Tryd.ntmps13
  go_wp2_with fail
  rw [← HW.out]
  refine HF.out.mono ?_
  rintro _ w2 ⟨rfl, hc, hz, hb⟩
  have K2 := hid (K0.out.chg hc (by simp)); have Y2 := hid hb
  have HB2 := hid (HB.out.trans (hc.below (B := w.heap.size) (fun b hb => by simp at hb; omega) HB.out.size))
  have c0 : w2.cell? ⟨w.heap.size, 0, none⟩ = some (.int .i64 0) := K2.out.cell 0 rfl
  have z0 := K2.out.frozen 0
  clear hc hz hb HF HW HV
  go_wp2_with fail
  refine up_door1 rfl 1 0 0 rfl (fun _ => by simp [go_sem]) (fun W z hy hx => up_doorCancel _ _ _ _ _ W hy hx) K2.out Y2.out rfl (fun W hW => ⟨rfl, HB2.out.trans (hW.below (B := w.heap.size) (fun b hb => by simp at hb; omega) HB2.out.size)⟩)
theorem un_next (h : Value) (w : World) (hn : UpNo w h) : Calls Tryd.prog 14 #[h] w fun e w' => e = .returned (.int .i64 0) ∧ w = w' := by
  have HV := hid (up_invalid h w hn)
  clear hn
  go_enter Tryd.func14, Tryd.ntmps14
  go_wp2_with fail
  refine HV.out.mono ?_
  rintro _ _ ⟨rfl, rfl⟩
  go_wp2_with fail
  go_ret
  exact ⟨rfl, rfl⟩
theorem un_list (h : Value) (w : World) (hn : UpNo w h) : Calls Tryd.prog 15 #[h] w fun e w' => e = .returned (.slice none 0 0) ∧ w = w' := by
  have HV := hid (up_invalid h w hn)
  clear hn
  go_enter Tryd.func15, Tryd.ntmps15
  go_wp2_with fail
  refine HV.out.mono ?_
  rintro _ _ ⟨rfl, rfl⟩
  go_wp2_with fail
  go_ret
  exact ⟨rfl, rfl⟩
theorem up_four (w : World) (c1 c2 c3 c4 : Array Value) (t1 t2 t3 t4 : TypeId) : ∃ W, W = (((w.alloc (.cells c1 t1)).alloc (.cells c2 t2)).alloc (.cells c3 t3)).alloc (.cells c4 t4) ∧ Blk W w.heap.size t1 c1 ∧ Blk W (w.heap.size + 1) t2 c2 ∧ Blk W (w.heap.size + 1 + 1) t3 c3 ∧ Blk W (w.heap.size + 1 + 1 + 1) t4 c4 ∧ Below w.heap.size w W ∧ W.heap.size = w.heap.size + 1 + 1 + 1 + 1 := by
  obtain ⟨W2, e2, k1, k2, b2, z2⟩ := up_two w c1 c2 t1 t2
  obtain ⟨W4, e4, k3, k4, b4, z4⟩ := up_two W2 c3 c4 t3 t4
  rw [z2] at k3 k4 z4
  exact ⟨W4, by rw [e4, e2], k1.keep b4, k2.keep b4, k3, k4, b2.trans (b4.mono b2.size), z4⟩
def sesZ : Array Value := #[.int .i64 0, .string ⟨#[]⟩, .slice none 0 0]
theorem up_size_ses : (Tryd.prog.info? 37).map (·.size) = some 3 := by kernel_rfl
theorem up_under_ses : (match Tryd.prog.underlying 37 with | some (.struct _) => true | _ => false) = true := by kernel_rfl
theorem up_results2 {fn : Func} {p q : Tmp} (h : fn.results = #[.cell p 37, .cell q 31]) (tmps : Array Value) (w : World) (g1 g2 : Nat) (cs : Array Value) (e : Int) (hp : tmps.getD p undef = .pointer (some ⟨g1, 0, none⟩)) (hq : tmps.getD q undef = .pointer (some ⟨g2, 0, none⟩))
    (h1 : Blk w g1 37 cs) (h3 : cs.size = 3) (h2 : Blk w g2 31 #[.int .i64 e]) : (results fn tmps).run Tryd.prog w = .ok (.tuple #[.agg cs, .int .i64 e]) w := by
  have hp' : tmps[p]?.getD undef = .pointer (some ⟨g1, 0, none⟩) := by simpa using hp
  have hq' : tmps[q]?.getD undef = .pointer (some ⟨g2, 0, none⟩) := by simpa using hq
  obtain ⟨fs, hu⟩ : ∃ fs, Tryd.prog.underlying 37 = some (.struct fs) := by
    have h := up_under_ses
    split at h
    · rename_i fs he
      exact ⟨fs, he⟩
    · cases h
  have hl := run_loadVar_row (P := Tryd.prog) w g1 37 37 cs (0, 0) _ h1 hu rfl (by rw [h3]; exact up_size_ses)
  have hl2 := up_load_int Tryd.underlying31 w ⟨g2, 0, none⟩ (.int .i64 e) (h2.cell 0 rfl)
  simp only [results, h]
  simp [Sem.run_bind, hp', hq', hl, hl2, asAddr]
theorem up_door3 {fn : Func} {p q : Tmp} {R : Ending → World → Prop} {k : FuncId} {G : Nat} {a : Act} {X : World} (h : fn.results = #[.cell p 37, .cell q 31]) (e z : Int) (cs : Array Value) (h3 : cs.size = 3)
    (hd : a.defers = [{ target := .fn (.func k) #[.pointer (some ⟨G + 1 + 1 + 1, 0, none⟩), .pointer (some ⟨G + 1 + 1, 0, none⟩)], args := #[] }])
    (hk : ∀ w, (invoke (.fn (.func k) #[.pointer (some ⟨G + 1 + 1 + 1, 0, none⟩), .pointer (some ⟨G + 1 + 1, 0, none⟩)]) #[]).run Tryd.prog w = .ok (.enter k #[.pointer (some ⟨G + 1 + 1 + 1, 0, none⟩), .pointer (some ⟨G + 1 + 1, 0, none⟩)]) w)
    (hc : ∀ W z, Blk W (G + 1 + 1 + 1) 65 #[.int .i64 e] → Blk W (G + 1 + 1) 31 #[.int .i64 z] → CallsD Tryd.prog k #[.pointer (some ⟨G + 1 + 1 + 1, 0, none⟩), .pointer (some ⟨G + 1 + 1, 0, none⟩)] .returning W fun en u' w' => u' = .returning ∧ (en = .returned (.tuple #[]) ∧ w' = W.setCell ⟨G + 1 + 1, 0, none⟩ (.int .i64 e)))
    (hS : Blk X (G + 1) 37 cs) (hK : Blk X (G + 1 + 1) 31 #[.int .i64 z]) (hY : Blk X (G + 1 + 1 + 1) 65 #[.int .i64 e])
    (hp : a.tmps.getD p undef = .pointer (some ⟨G + 1, 0, none⟩)) (hq : a.tmps.getD q undef = .pointer (some ⟨G + 1 + 1, 0, none⟩)) (hR : ∀ W, Chg [G + 1 + 1] X W → R (.returned (.tuple #[.agg cs, .int .i64 e])) W) :
    Leaves Tryd.prog fn a.tmps R a.defers .returning X := by
  rw [hd]
  refine leaves_cons (f := k) (args := #[.pointer (some ⟨G + 1 + 1 + 1, 0, none⟩), .pointer (some ⟨G + 1 + 1, 0, none⟩)]) (by simp) (hk _) ((hc _ _ hY hK).mono ?_)
  rintro en u' w' ⟨rfl, rfl, rfl⟩
  have hb : Blk (X.setCell ⟨G + 1 + 1, 0, none⟩ (.int .i64 e)) (G + 1 + 1) 31 #[.int .i64 e] := by have := hK.set_ 0 (.int .i64 e); simpa using this
  exact ⟨_, up_results2 h _ _ _ _ cs e hp hq (hS.far (p := ⟨G + 1 + 1, 0, none⟩) (by simp) _) h3 hb, hR _ (Chg.of_grown (L := [G + 1 + 1]) (grown_setCell X (G + 1 + 1) 0 _) (fun g e => by cases e; simp))⟩
set_option maxHeartbeats 2000000 in
set_option maxRecDepth 20000 in
theorem un_finish (h : Value) (x : Int) (d : List UInt8) (w : World) (hn : UpNo w h) :
    Calls Tryd.prog 11 #[h, .int .i64 x, .agg (bcells d)] w fun e w' => e = .returned (.tuple #[.agg sesZ, .int .i64 1]) ∧ Below w.heap.size w w' := by
  obtain ⟨W, hW, k0, k1, k2, k3, hB, hZ⟩ := up_four w (bcells d) #[.int .i64 0, .string ⟨#[]⟩, .slice none 0 0] #[.int .i64 0] #[.int .i64 0] 24 37 31 65
  have HF := hid (un_find h x W (hn.keep hB) (w.heap.size + 1 + 1 + 1) k3)
  have HW := hid hW; have K1 := hid k1; have K2 := hid k2; have HB := hid hB
  clear hn hW k0 k1 k2 k3 hB hZ
  go_enter_defers Tryd.func11, Tryd.ntmps11
  go_wp2_with fail
  rw [← HW.out]
  refine HF.out.mono ?_
  rintro _ w2 ⟨rfl, hc, hz, hb⟩
  have K1 := hid (K1.out.chg hc (by simp)); have K2 := hid (K2.out.chg hc (by simp)); have Y2 := hid hb
  have HB2 := hid (HB.out.trans (hc.below (B := w.heap.size) (fun b hb => by simp at hb; omega) HB.out.size))
  have c0 : w2.cell? ⟨w.heap.size + 1, 0, none⟩ = some (.int .i64 0) := K1.out.cell 0 rfl
  have c1 : w2.cell? ⟨w.heap.size + 1, 1, none⟩ = some (.string ⟨#[]⟩) := K1.out.cell 1 rfl
  have c2 : w2.cell? ⟨w.heap.size + 1, 2, none⟩ = some (.slice none 0 0) := K1.out.cell 2 rfl
  have z0 := K1.out.frozen 0; have z1 := K1.out.frozen 1; have z2 := K1.out.frozen 2
  have d0 : w2.cell? ⟨w.heap.size + 1 + 1, 0, none⟩ = some (.int .i64 0) := K2.out.cell 0 rfl
  have y0 := K2.out.frozen 0
  clear hc hz hb HF HW
  go_wp2_with fail
  have k1 := ((K1.out.set_ 0 (.int .i64 0)).set_ 1 (.string ⟨#[]⟩)).set_ 2 (.slice none 0 0)
  have k2 : Blk (((w2.setCell ⟨w.heap.size + 1, 0, none⟩ (.int .i64 0)).setCell ⟨w.heap.size + 1, 1, none⟩ (.string ⟨#[]⟩)).setCell ⟨w.heap.size + 1, 2, none⟩ (.slice none 0 0)) (w.heap.size + 1 + 1) 31 #[.int .i64 0] := ((K2.out.far (p := ⟨w.heap.size + 1, 0, none⟩) (by simp) _).far (p := ⟨w.heap.size + 1, 1, none⟩) (by simp) _).far (p := ⟨w.heap.size + 1, 2, none⟩) (by simp) _
  have k3 : Blk (((w2.setCell ⟨w.heap.size + 1, 0, none⟩ (.int .i64 0)).setCell ⟨w.heap.size + 1, 1, none⟩ (.string ⟨#[]⟩)).setCell ⟨w.heap.size + 1, 2, none⟩ (.slice none 0 0)) (w.heap.size + 1 + 1 + 1) 65 #[.int .i64 1] := ((Y2.out.far (p := ⟨w.heap.size + 1, 0, none⟩) (by simp; omega) _).far (p := ⟨w.heap.size + 1, 1, none⟩) (by simp; omega) _).far (p := ⟨w.heap.size + 1, 2, none⟩) (by simp; omega) _
  have hch : Chg [w.heap.size + 1] w2 (((w2.setCell ⟨w.heap.size + 1, 0, none⟩ (.int .i64 0)).setCell ⟨w.heap.size + 1, 1, none⟩ (.string ⟨#[]⟩)).setCell ⟨w.heap.size + 1, 2, none⟩ (.slice none 0 0)) :=
    ((Chg.of_grown (L := [w.heap.size + 1]) (grown_setCell w2 (w.heap.size + 1) 0 (.int .i64 0)) (fun g e => by cases e; simp)).trans (Chg.of_grown (L := [w.heap.size + 1]) (grown_setCell _ (w.heap.size + 1) 1 (.string ⟨#[]⟩)) (fun g e => by cases e; simp)) (fun b hb => .inl hb)).trans (Chg.of_grown (L := [w.heap.size + 1]) (grown_setCell _ (w.heap.size + 1) 2 (.slice none 0 0)) (fun g e => by cases e; simp)) (fun b hb => .inl hb)
  generalize ((w2.setCell ⟨w.heap.size + 1, 0, none⟩ (.int .i64 0)).setCell ⟨w.heap.size + 1, 1, none⟩ (.string ⟨#[]⟩)).setCell ⟨w.heap.size + 1, 2, none⟩ (.slice none 0 0) = X at k1 k2 k3 hch ⊢
  have k2' : Blk (X.setCell ⟨w.heap.size + 1 + 1, 0, none⟩ (.int .i64 0)) (w.heap.size + 1 + 1) 31 #[.int .i64 0] := by have := k2.set_ 0 (.int .i64 0); simpa using this
  have HBX := hid (HB2.out.trans (hch.below (B := w.heap.size) (fun b hb => by simp at hb; omega) HB2.out.size))
  have hcx : Chg [w.heap.size + 1 + 1] X (X.setCell ⟨w.heap.size + 1 + 1, 0, none⟩ (.int .i64 0)) := Chg.of_grown (grown_setCell X (w.heap.size + 1 + 1) 0 _) (fun g e => by cases e; simp)
  exact up_door3 (G := w.heap.size) rfl 1 0 sesZ rfl rfl (fun _ => by simp [go_sem]) (fun W z hy hx => up_doorFinish _ _ _ _ _ W hy hx) (by have := k1.far (p := ⟨w.heap.size + 1 + 1, 0, none⟩) (by simp) (.int .i64 0); simpa [sesZ] using this) k2' (k3.far (p := ⟨w.heap.size + 1 + 1, 0, none⟩) (by simp) _) rfl rfl (fun W hW => ⟨rfl, (HBX.out.trans (hcx.below (B := w.heap.size) (fun b hb => by simp at hb; omega) HBX.out.size)).trans (hW.below (B := w.heap.size) (fun b hb => by simp at hb; omega) (by have := HBX.out.size; have := hcx.size; omega))⟩)
end Go.Proofs.YtgacdimjbpkgoaaDoor
/- The law UploadNone, walked. -/
namespace Go.Proofs.YtgacdimjbpkgoaaDoor
open Go.RowKit Crc

theorem up_sameBytes (B n c B' n' c' : Nat) (A A' : Option Addr) (xs bs : List UInt8) (w : World) (ha : SB w B A n xs) (hb : SB w B' A' n' bs) :
    Calls Tryd.prog 39 #[.slice A n c, .slice A' n' c'] w fun e w' => e = .returned (.bool (xs == bs)) ∧ w = w' := by
  have h1 := run_str (P := Tryd.prog) ha c 22 9 5 Tryd.underlying22 Tryd.underlying5 Tryd.underlying9
  have h2 := run_str (P := Tryd.prog) hb c' 22 9 5 Tryd.underlying22 Tryd.underlying5 Tryd.underlying9
  go_enter Tryd.func39, Tryd.ntmps39
  go_wp2_with fail
  go_ret
  exact ⟨ret_bool (strB_eq xs bs), rfl⟩
set_option maxHeartbeats 1000000 in
theorem up_sameSession (z : Int) (r : ByteArray) (A A' : Option Addr) (n c n' c' B B' : Nat) (bs : List UInt8) (w : World) (ha : SB w B A n bs) (hb : SB w B' A' n' bs) :
    Calls Tryd.prog 12 #[.agg #[.int .i64 z, .string r, .slice A n c], .agg #[.int .i64 z, .string r, .slice A' n' c']] w fun e w' => e = .returned (.bool true) ∧ Below w.heap.size w w' := by
  obtain ⟨W, hW, k0, k1, hB, -⟩ := up_two w #[.int .i64 z, .string r, .slice A n c] #[.int .i64 z, .string r, .slice A' n' c'] 37 37
  have HS := hid (up_sameBytes B n c B' n' c' A A' bs bs W (ha.keep hB) (hb.keep hB))
  have HW := hid hW; have HB := hid hB
  have c0 : W.cell? ⟨w.heap.size, 0, none⟩ = some (.int .i64 z) := k0.cell 0 rfl
  have c1 : W.cell? ⟨w.heap.size, 1, none⟩ = some (.string r) := k0.cell 1 rfl
  have c2 : W.cell? ⟨w.heap.size, 2, none⟩ = some (.slice A n c) := k0.cell 2 rfl
  have d0 : W.cell? ⟨w.heap.size + 1, 0, none⟩ = some (.int .i64 z) := k1.cell 0 rfl
  have d1 : W.cell? ⟨w.heap.size + 1, 1, none⟩ = some (.string r) := k1.cell 1 rfl
  have d2 : W.cell? ⟨w.heap.size + 1, 2, none⟩ = some (.slice A' n' c') := k1.cell 2 rfl
  rw [hW] at c0 c1 c2 d0 d1 d2
  rw [show (bs == bs) = true from by simp] at HS
  clear ha hb hW k0 k1 hB
  go_enter Tryd.func12, Tryd.ntmps12
  go_wp2_with fail
  rw [← HW.out]
  refine HS.out.mono ?_
  rintro _ _ ⟨rfl, rfl⟩
  clear c0 c1 c2 d0 d1 d2 HW HS
  go_wp2_with fail
  go_ret
  exact ⟨rfl, HB.out⟩
/-- where the law is: the digest, the row of tables that nobody made -/
structure UnW (w0 w : World) (d : List UInt8) (o r : Nat) (q : Nat) : Prop where
  below : Below w0.heap.size w0 w
  id : Blk w o 24 (bcells d)
  row : Blk w r 26 #[.pointer none, .pointer (some ⟨q, 0, none⟩)]
  zero : w.cell? ⟨q, 0, none⟩ = some (.pointer none)
theorem UnW.keep {w0 w w' : World} {d : List UInt8} {o r q : Nat} (h : UnW w0 w d o r q) (hb : Below w.heap.size w w') : UnW w0 w' d o r q :=
  ⟨h.below.trans (hb.mono h.below.size), h.id.keep hb, h.row.keep hb, (hb.cell (p := ⟨q, 0, none⟩) (lt_of_cell h.zero)).trans h.zero⟩
theorem UnW.obj {w0 w : World} {d : List UInt8} {o r q : Nat} (h : UnW w0 w d o r q) {k : Nat} (hk : k < 2) : ∃ a, w.cell? ⟨r, k, none⟩ = some (.pointer a) ∧ (a = none ∨ a = some ⟨q, 0, none⟩) := by
  rcases k with _ | _ | k
  · exact ⟨none, h.row.cell 0 rfl, .inl rfl⟩
  · exact ⟨_, h.row.cell 1 rfl, .inr rfl⟩
  · omega
theorem UnW.no {w0 w : World} {d : List UInt8} {o r q : Nat} (h : UnW w0 w d o r q) {a : Option Addr} (ha : a = none ∨ a = some ⟨q, 0, none⟩) : UpNo w (.pointer a) := by
  rcases ha with rfl | rfl
  · exact .inl rfl
  · exact .inr ⟨q, rfl, h.zero⟩
set_option maxRecDepth 100000 in
set_option maxHeartbeats 8000000 in
theorem upnone_short (x off : Int) (A : Option Addr) (n c : Nat) (d : List UInt8) (hd : d.length = 32) (w : World) (hn : n ≤ 60) :
    Calls Tryd.prog 3 #[.int .i64 x, .int .i64 off, .slice A n c, .agg (bcells d)] w fun e w' => e = .returned (.bool true) ∧ Below w.heap.size w w' := by
  have HSZ := hid (show (Tryd.prog.info? 24).map (·.size) = some (bcells d).size from by rw [show (bcells d).size = 32 from by simp [bcells, hd]]; kernel_rfl)
  have hn' : ¬ 60 < n := by omega
  have hnd : decide ((60 : Int) < (n : Int)) = false := by simp; omega
  have HN := hid (show ∃ W, ((w.alloc (.cells (bcells d) 24)).alloc (.cells #[.pointer none, .int .i64 0, .int .i64 0, .slice none 0 0] 29)).alloc (.cells #[.pointer none, .pointer (some ⟨w.heap.size + 1, 0, none⟩)] 26) = W ∧ UnW w W d w.heap.size (w.heap.size + 1 + 1) (w.heap.size + 1) from by
    obtain ⟨W2, e2, a1, a2, b2, z2⟩ := up_two w (bcells d) #[.pointer none, .int .i64 0, .int .i64 0, .slice none 0 0] 24 29
    rw [← e2]
    have a3 := Blk.new W2 26 #[.pointer none, .pointer (some ⟨w.heap.size + 1, 0, none⟩)]
    have q3 := below_new W2 (.cells #[.pointer none, .pointer (some ⟨w.heap.size + 1, 0, none⟩)] 26)
    rw [z2] at a3
    exact ⟨_, rfl, b2.trans (q3.mono b2.size), a1.keep q3, a3, (a2.keep q3).cell 0 rfl⟩)
  go_enter Tryd.func3, Tryd.ntmps3
  go_wp2_with fail
  clear hn hn' hnd
  obtain ⟨W, hW, hN⟩ := HN.out
  clear HN
  rw [hW]
  have HN := hid hN
  clear hW hN
  generalize w.heap.size + 1 + 1 = r at HN ⊢
  generalize hq : w.heap.size + 1 = q at HN ⊢
  generalize ho : w.heap.size = o at HN ⊢
  go_loopw [10, 11, 12, 13, 14, 15, 16, 17, 18, 19] (fun v6 _ _ _ _ _ _ _ _ _ wr => ∃ k : Nat, v6 = .int .i64 (k : Int) ∧ k ≤ 2 ∧ Hid (UnW w wr d o r q)) (fun v6 _ _ _ _ _ _ _ _ _ _ => 2 - (intOf v6).toNat)
  case atStart => exact ⟨0, rfl, by omega, HN⟩
  case round =>
    clear HN
    obtain ⟨k, rfl, hk, HW⟩ := hrel
    by_cases hlt : k < 2
    · have hlt' : (k : Int) < 2 := by omega
      have p0 : (0 : Int) ≤ (k : Int) := by omega
      obtain ⟨a, hc, ha⟩ := HW.out.obj hlt
      have HA := hid ha
      clear ha
      go_wp2_with fail
      refine (un_start (.pointer a) _ wr (HW.out.no HA.out)).mono ?_
      rintro _ w1 ⟨rfl, b1⟩
      have HW := hid (HW.out.keep b1)
      clear b1 hc
      go_wp2_with fail
      refine (un_write (.pointer a) x off A n c w1 (HW.out.no HA.out)).mono ?_
      rintro _ w2 ⟨rfl, b1⟩
      have HW := hid (HW.out.keep b1)
      clear b1
      go_wp2_with fail
      refine (un_offset (.pointer a) x w2 (HW.out.no HA.out)).mono ?_
      rintro _ w3 ⟨rfl, b1⟩
      have HW := hid (HW.out.keep b1)
      clear b1
      go_wp2_with (refine wpList_load_blk rfl 24 _ rfl o rfl 24 _ HW.out.id _ _ Tryd.underlying24 HSZ.out ?_)
      refine (un_finish (.pointer a) x d w3 (HW.out.no HA.out)).mono ?_
      rintro _ w4 ⟨rfl, b1⟩
      have HW := hid (HW.out.keep b1)
      unfold sesZ
      clear b1
      go_wp2_with fail
      have b5 := below_new w4 (.cells #[.int .i64 0, .string ⟨#[]⟩, .slice none 0 0] 37)
      have HW := hid (HW.out.keep b5)
      clear b5
      generalize w4.alloc (.cells #[.int .i64 0, .string ⟨#[]⟩, .slice none 0 0] 37) = w5 at HW ⊢
      refine (up_sameSession 0 ⟨#[]⟩ none none 0 0 0 0 0 0 [] w5 (SB.nil _ _ _) (SB.nil _ _ _)).mono ?_
      rintro _ w6 ⟨rfl, b1⟩
      have HW := hid (HW.out.keep b1)
      clear b1
      go_wp2_with fail
      refine (un_cancel (.pointer a) x w6 (HW.out.no HA.out)).mono ?_
      rintro _ w7 ⟨rfl, b1⟩
      have HW := hid (HW.out.keep b1)
      clear b1
      go_wp2_with fail
      refine (un_next (.pointer a) w7 (HW.out.no HA.out)).mono ?_
      rintro _ _ ⟨rfl, rfl⟩
      go_wp2_with fail
      refine (un_list (.pointer a) w7 (HW.out.no HA.out)).mono ?_
      rintro _ _ ⟨rfl, rfl⟩
      go_wp2_with fail
      go_roundw
      case rel => exact ⟨k + 1, by go_num, by omega, HW⟩
      case measure => simp [intOf]; omega
    · obtain rfl : k = 2 := by omega
      go_wp2_with fail
      refine (uawake_calls _).mono ?_
      rintro _ w5 ⟨rfl, b5⟩
      have HW := hid (HW.out.keep b5)
      clear b5
      go_wp2_with fail
      go_ret
      exact ⟨rfl, ho ▸ HW.out.below⟩
theorem upnone_long (x off : Int) (A : Option Addr) (n c : Nat) (d : List UInt8) (w : World) (hn : 60 < n) :
    Calls Tryd.prog 3 #[.int .i64 x, .int .i64 off, .slice A n c, .agg (bcells d)] w fun e w' => e = .returned (.bool true) ∧ Below w.heap.size w w' := by
  have HK := hid (below_new w (.cells (bcells d) 24))
  go_enter Tryd.func3, Tryd.ntmps3
  go_wp2_with fail
  refine (uawake_calls _).mono ?_
  rintro _ w1 ⟨rfl, h1⟩
  have H := hid (HK.out.trans (h1.mono HK.out.size))
  clear h1
  go_wp2_with fail
  go_ret
  exact ⟨rfl, H.out⟩
theorem upnone_calls (x off : Int) (A : Option Addr) (n c : Nat) (d : List UInt8) (hd : d.length = 32) (w : World) :
    Calls Tryd.prog 3 #[.int .i64 x, .int .i64 off, .slice A n c, .agg (bcells d)] w fun e w' => e = .returned (.bool true) ∧ Below w.heap.size w w' := by
  by_cases h : 60 < n
  · exact upnone_long x off A n c d w h
  · exact upnone_short x off A n c d hd w (by omega)
end Go.Proofs.YtgacdimjbpkgoaaDoor
