/- Contracts: writers and readers that nobody made. -/
import Derived.Test.YtmlahlnjfoapaaaWrKnown
namespace Go.Proofs.Ytmlahlnjfoapaaa
open Go.RowKit

/-- An object that nobody made: nil, or one that does not know itself. -/
def NoObj (w : World) (h : Value) : Prop := h = .pointer none ∨ ∃ g, h = .pointer (some ⟨g, 0, none⟩) ∧ w.cell? ⟨g, 0, none⟩ = some (.pointer none)
theorem NoObj.keep {w w' : World} {h : Value} (hn : NoObj w h) (hb : Below w.heap.size w w') : NoObj w' h := by
  rcases hn with rfl | ⟨g, rfl, hc⟩
  · exact .inl rfl
  · exact .inr ⟨g, rfl, (hb.cell (p := ⟨g, 0, none⟩) (lt_of_cell hc)).trans hc⟩
theorem eql_none_ptr {P : Program} (w : World) (t e : TypeId) (b : Option Addr) (h : P.underlying t = some (.pointer e)) :
    (binOp .eql t (.pointer none) (.pointer b)).run P w = .ok (.bool b.isNone) w := by
  have hq : ∀ d : Nat, (Op.equalIn (d + 1) t (.pointer none) (.pointer b)).run P w = .ok b.isNone w := fun d => by
    simp [Op.equalIn, run_underlying h]
  simp only [binOp]
  simp [Op.equal, Op.maxDepth, hq 9999]
theorem wvalid_none (h : Value) (w : World) (hn : NoObj w h) : Calls Try.prog 62 #[h] w fun e w' => e = .returned (.bool false) ∧ w = w' := by
  rcases hn with rfl | ⟨g, rfl, hc⟩
  · go_enter Try.func62, Try.ntmps62
    go_wp2_with fail
    go_ret
    exact ⟨rfl, rfl⟩
  · have he := fun W => eql_none_ptr (P := Try.prog) W 23 74 (some ⟨g, 0, none⟩) Try.underlying23
    go_enter Try.func62, Try.ntmps62
    go_wp2_with fail
    go_ret
    exact ⟨rfl, rfl⟩
theorem rvalid_none (h : Value) (w : World) (hn : NoObj w h) : Calls Try.prog 70 #[h] w fun e w' => e = .returned (.bool false) ∧ w = w' := by
  rcases hn with rfl | ⟨g, rfl, hc⟩
  · go_enter Try.func70, Try.ntmps70
    go_wp2_with fail
    go_ret
    exact ⟨rfl, rfl⟩
  · have he := fun W => eql_none_ptr (P := Try.prog) W 57 77 (some ⟨g, 0, none⟩) Try.underlying57
    go_enter Try.func70, Try.ntmps70
    go_wp2_with fail
    go_ret
    exact ⟨rfl, rfl⟩
theorem write_none (h : Value) (X : Value) (w : World) (hn : NoObj w h) : Calls Try.prog 60 #[h, X] w fun e w' => e = .returned (.int .i64 1) ∧ w = w' := by
  have HN := hid hn
  clear hn
  go_enter Try.func60, Try.ntmps60
  go_wp2_with fail
  refine (wvalid_none h w HN.out).mono ?_
  rintro _ _ ⟨rfl, rfl⟩
  go_wp2_with fail
  go_ret
  exact ⟨rfl, rfl⟩
theorem wNum_none (h : Value) (n : Int) (w : World) (hn : NoObj w h) : Calls Try.prog 12 #[h, .int .i64 n] w fun e w' => e = .returned (.int .i64 1) ∧ w = w' := by
  have HN := hid hn
  clear hn
  go_enter Try.func12, Try.ntmps12
  go_wp2_with fail
  refine (write_none h _ w HN.out).mono ?_
  rintro _ _ ⟨rfl, rfl⟩
  go_wp2_with fail
  go_ret
  exact ⟨rfl, rfl⟩
theorem wText_none (h : Value) (t : ByteArray) (w : World) (hn : NoObj w h) : Calls Try.prog 14 #[h, .string t] w fun e w' => e = .returned (.int .i64 1) ∧ w = w' := by
  have HN := hid hn
  clear hn
  go_enter Try.func14, Try.ntmps14
  go_wp2_with fail
  refine (write_none h _ w HN.out).mono ?_
  rintro _ _ ⟨rfl, rfl⟩
  go_wp2_with fail
  go_ret
  exact ⟨rfl, rfl⟩
theorem wBytes_none (h : Value) (w : World) (hn : NoObj w h) : Calls Try.prog 17 #[h, .slice none 0 0] w fun e w' => e = .returned (.int .i64 1) ∧ w = w' := by
  have HN := hid hn
  clear hn
  go_enter Try.func17, Try.ntmps17
  go_wp2_with fail
  refine (write_none h _ w HN.out).mono ?_
  rintro _ _ ⟨rfl, rfl⟩
  go_wp2_with fail
  go_ret
  exact ⟨rfl, rfl⟩
theorem wVec_none (h : Value) (w : World) (hn : NoObj w h) : Calls Try.prog 25 #[h, .slice none 0 0] w fun e w' => e = .returned (.int .i64 1) ∧ w = w' := by
  have HN := hid hn
  clear hn
  go_enter Try.func25, Try.ntmps25
  go_wp2_with fail
  refine (write_none h _ w HN.out).mono ?_
  rintro _ _ ⟨rfl, rfl⟩
  go_wp2_with fail
  go_ret
  exact ⟨rfl, rfl⟩
theorem wBool_none (h : Value) (b : Bool) (w : World) (hn : NoObj w h) : Calls Try.prog 27 #[h, .bool b] w fun e w' => e = .returned (.int .i64 1) ∧ w = w' := by
  have HN := hid hn
  clear hn
  go_enter Try.func27, Try.ntmps27
  go_wp2_with fail
  refine (write_none h _ w HN.out).mono ?_
  rintro _ _ ⟨rfl, rfl⟩
  go_wp2_with fail
  go_ret
  exact ⟨rfl, rfl⟩
theorem wLen_none (h : Value) (w : World) (hn : NoObj w h) : Calls Try.prog 32 #[h] w fun e w' => e = .returned (.int .i64 0) ∧ w = w' := by
  have HN := hid hn
  clear hn
  go_enter Try.func32, Try.ntmps32
  go_wp2_with fail
  refine (wvalid_none h w HN.out).mono ?_
  rintro _ _ ⟨rfl, rfl⟩
  go_wp2_with fail
  go_ret
  exact ⟨rfl, rfl⟩
theorem wDone_none (h : Value) (w : World) (hn : NoObj w h) : Calls Try.prog 29 #[h] w fun e w' => e = .returned (.tuple #[.slice none 0 0, .int .i64 1]) ∧ w = w' := by
  have HN := hid hn
  clear hn
  go_enter Try.func29, Try.ntmps29
  go_wp2_with fail
  refine (wvalid_none h w HN.out).mono ?_
  rintro _ _ ⟨rfl, rfl⟩
  go_wp2_with fail
  go_ret2
  exact ⟨rfl, rfl⟩
theorem wDot_none (h : Value) (x y : Int) (w : World) (hn : NoObj w h) : Calls Try.prog 23 #[h, .agg #[.int .i64 x, .int .i64 y]] w fun e w' => e = .returned (.int .i64 1) ∧ Below w.heap.size w w' := by
  have B1 := hid (below_new w (.cells #[.int .i64 x, .int .i64 y] 35))
  have HN := hid hn
  clear hn
  go_enter Try.func23, Try.ntmps23
  go_wp2_with fail
  refine (write_none h _ _ (HN.out.keep B1.out)).mono ?_
  rintro _ _ ⟨rfl, rfl⟩
  go_wp2_with fail
  go_ret
  exact ⟨rfl, B1.out⟩
theorem wID_none (h : Value) (w : World) (hn : NoObj w h) : Calls Try.prog 21 #[h, .agg (bcells (zeroB 32))] w fun e w' => e = .returned (.int .i64 1) ∧ Below w.heap.size w w' := by
  have B1 := hid (below_new w (.cells (bcells (zeroB 32)) 33))
  have K1 := hid (Blk.new w 33 (bcells (zeroB 32)))
  have EI := hid info26b
  have HN := hid hn
  clear hn
  generalize bcells (zeroB 32) = z at B1 K1 EI ⊢
  go_enter Try.func21, Try.ntmps21
  go_wp2_with (refine wpList_load_blk rfl 33 _ rfl w.heap.size rfl 33 _ K1.out _ _ Try.underlying33 EI.out ?_)
  refine (write_none h _ _ (HN.out.keep B1.out)).mono ?_
  rintro _ _ ⟨rfl, rfl⟩
  go_wp2_with fail
  go_ret
  exact ⟨rfl, B1.out⟩
theorem reads_none (h : Value) (w : World) (hn : NoObj w h) : Calls Try.prog 68 #[h] w fun e w' => e = .returned (.bool false) ∧ w = w' := by
  have HN := hid hn
  clear hn
  go_enter Try.func68, Try.ntmps68
  go_wp2_with fail
  refine (rvalid_none h w HN.out).mono ?_
  rintro _ _ ⟨rfl, rfl⟩
  go_wp2_with fail
  go_ret
  exact ⟨rfl, rfl⟩
theorem rest_none (h : Value) (w : World) (hn : NoObj w h) : Calls Try.prog 51 #[h] w fun e w' => e = .returned (.int .i64 0) ∧ w = w' := by
  have HN := hid hn
  clear hn
  go_enter Try.func51, Try.ntmps51
  go_wp2_with fail
  refine (reads_none h w HN.out).mono ?_
  rintro _ _ ⟨rfl, rfl⟩
  go_wp2_with fail
  go_ret
  exact ⟨rfl, rfl⟩
theorem number_none (h : Value) (most above : Int) (w : World) (hn : NoObj w h) : Calls Try.prog 65 #[h, .int .i64 most, .int .i64 above] w fun e w' => e = .returned (.int .i64 0) ∧ w = w' := by
  have HN := hid hn
  clear hn
  go_enter Try.func65, Try.ntmps65
  go_wp2_with fail
  refine (reads_none h w HN.out).mono ?_
  rintro _ _ ⟨rfl, rfl⟩
  go_wp2_with fail
  go_ret
  exact ⟨rfl, rfl⟩
theorem sized_none (h : Value) (most : Int) (w : World) (hn : NoObj w h) : Calls Try.prog 67 #[h, .int .i64 most] w fun e w' => e = .returned (.slice none 0 0) ∧ w = w' := by
  have HN := hid hn
  clear hn
  go_enter Try.func67, Try.ntmps67
  go_wp2_with fail
  refine (reads_none h w HN.out).mono ?_
  rintro _ _ ⟨rfl, rfl⟩
  go_wp2_with fail
  go_ret
  exact ⟨rfl, rfl⟩
theorem rNum_none (h : Value) (w : World) (hn : NoObj w h) : Calls Try.prog 36 #[h] w fun e w' => e = .returned (.int .i64 0) ∧ w = w' := by
  have HN := hid hn
  clear hn
  go_enter Try.func36, Try.ntmps36
  go_wp2_with fail
  refine (number_none h _ _ w HN.out).mono ?_
  rintro _ _ ⟨rfl, rfl⟩
  go_wp2_with fail
  go_ret
  exact ⟨rfl, rfl⟩
theorem rBool_none (h : Value) (w : World) (hn : NoObj w h) : Calls Try.prog 49 #[h] w fun e w' => e = .returned (.bool false) ∧ w = w' := by
  have HN := hid hn
  clear hn
  go_enter Try.func49, Try.ntmps49
  go_wp2_with fail
  refine (number_none h _ _ w HN.out).mono ?_
  rintro _ _ ⟨rfl, rfl⟩
  go_wp2_with fail
  go_ret
  exact ⟨rfl, rfl⟩
theorem rText_none (h : Value) (most : Int) (w : World) (hn : NoObj w h) : Calls Try.prog 38 #[h, .int .i64 most] w fun e w' => e = .returned (.string ⟨#[]⟩) ∧ w = w' := by
  have HN := hid hn
  clear hn
  go_enter Try.func38, Try.ntmps38
  go_wp2_with fail
  refine (sized_none h _ w HN.out).mono ?_
  rintro _ _ ⟨rfl, rfl⟩
  have hc := run_str (P := Try.prog) (SB.nil w 0 none) 0 31 9 5 Try.underlying31 Try.underlying5 Try.underlying9
  go_wp2_with fail
  go_ret
  exact ⟨rfl, rfl⟩
theorem clone_nil (w : World) : Calls Try.prog 64 #[.slice none 0 0] w fun e w' => e = .returned (.slice none 0 0) ∧ w = w' := by
  have hq := fun w => eql_nil (P := Try.prog) w 31 5 none 0 0 Try.underlying31
  go_enter Try.func64, Try.ntmps64
  go_wp2_with fail
  go_ret
  exact ⟨rfl, rfl⟩
theorem rBytes_none (h : Value) (most : Int) (w : World) (hn : NoObj w h) : Calls Try.prog 40 #[h, .int .i64 most] w fun e w' => e = .returned (.slice none 0 0) ∧ w = w' := by
  have HN := hid hn
  clear hn
  go_enter Try.func40, Try.ntmps40
  go_wp2_with fail
  refine (sized_none h _ w HN.out).mono ?_
  rintro _ _ ⟨rfl, rfl⟩
  go_wp2_with fail
  refine (clone_nil w).mono ?_
  rintro _ _ ⟨rfl, rfl⟩
  go_wp2_with fail
  go_ret
  exact ⟨rfl, rfl⟩
theorem rVec_none (h : Value) (most : Int) (w : World) (hn : NoObj w h) : Calls Try.prog 47 #[h, .int .i64 most] w fun e w' => e = .returned (.slice none 0 0) ∧ w = w' := by
  have HN := hid hn
  clear hn
  go_enter Try.func47, Try.ntmps47
  go_wp2_with fail
  refine (number_none h _ _ w HN.out).mono ?_
  rintro _ _ ⟨rfl, rfl⟩
  go_wp2_with fail
  go_loopw [5, 9] (fun v i wr => v = .slice none 0 0 ∧ i = .int .i64 0 ∧ wr = w) (fun _ _ _ => 0)
  case atStart => exact ⟨rfl, rfl, rfl⟩
  obtain ⟨rfl, rfl, rfl⟩ := hrel
  go_wp2_with fail
  go_ret
  exact ⟨rfl, rfl⟩
set_option maxRecDepth 20000 in
set_option maxHeartbeats 1000000 in
theorem rID_none (h : Value) (w : World) (hn : NoObj w h) :
    Calls Try.prog 42 #[h] w fun e' w' => e' = .returned (.agg (bcells (zeroB 32))) ∧ Below w.heap.size w w' := by
  have hz := (zero_of_info info26).1
  have b1 := (below_new w (.cells (bcells (zeroB 32)) 33)).alloc (by rw [size_new]; omega) (.cells (bcells (zeroB 32)) 33)
  have k1 := (Blk.new w 33 (bcells (zeroB 32))).alloc (.cells (bcells (zeroB 32)) 33)
  have k2 := Blk.new (w.alloc (.cells (bcells (zeroB 32)) 33)) 33 (bcells (zeroB 32))
  rw [size_new] at k2
  have HN := hid hn
  clear hn
  go_enter Try.func42, Try.ntmps42
  go_wp2_with fail
  generalize (w.alloc (.cells (bcells (zeroB 32)) 33)).alloc (.cells (bcells (zeroB 32)) 33) = w2 at b1 k1 k2 ⊢
  generalize w.heap.size + 1 = I at k2 ⊢
  have B1 := hid b1; have K1 := hid k1; have K2 := hid k2
  clear b1 k1 k2 hz
  refine (reads_none h w2 (HN.out.keep B1.out)).mono ?_
  rintro _ _ ⟨rfl, rfl⟩
  have H5 := hid (B1.out.trans (below_of_grown (grown_setRow w2 w.heap.size (bcells (zeroB 32))) B1.out.size (fun g e => by cases e; exact Nat.le_refl _)))
  have EI := hid info26b
  have HO1 := hid (bcells_oneCell (zeroB 32))
  generalize hcs : bcells (zeroB 32) = z at EI K1 K2 H5 HO1
  have HCS := hid hcs
  clear hcs
  go_wp2_with (first | (refine wpList_load_blk rfl 33 _ rfl I rfl 33 _ K2.out _ _ Try.underlying33 EI.out ?_) | (refine wpList_store_blk rfl 33 _ _ rfl w.heap.size _ rfl rfl 33 _ K1.out EI.out rfl HO1.out ?_))
  refine bodyPost_ret (v := .agg z) (results_cell_row rfl _ _ w.heap.size 33 _ (0, 0) _ rfl (K1.out.setRow _) Try.underlying33 rfl EI.out) rfl ⟨by rw [HCS.out], H5.out⟩
theorem rEnd_none (h : Value) (w : World) (hn : NoObj w h) :
    Calls Try.prog 53 #[h] w fun e' w' => e' = .returned (.agg #[.int .i64 1, .int .i64 0]) ∧ Below w.heap.size w w' := by
  have b1 := below_new w (.cells #[.int .i64 0, .int .i64 0] 61)
  have k1 := Blk.new w 61 #[.int .i64 0, .int .i64 0]
  have HN := hid hn
  clear hn
  go_enter Try.func53, Try.ntmps53
  go_wp2_with fail
  generalize w.alloc (.cells #[.int .i64 0, .int .i64 0] 61) = w1 at b1 k1 ⊢
  have B1 := hid b1; have K1 := hid k1
  have g0 := k1.cell 0 rfl
  have g1 := k1.cell 1 rfl
  have f0 := k1.frozen 0
  have f1 := k1.frozen 1
  clear b1 k1
  refine (rvalid_none h w1 (HN.out.keep B1.out)).mono ?_
  rintro _ _ ⟨rfl, rfl⟩
  have FIN := hid (show Blk ((w1.setCell ⟨w.heap.size, 0, none⟩ (.int .i64 1)).setCell ⟨w.heap.size, 1, none⟩ (.int .i64 0)) w.heap.size 61 #[.int .i64 1, .int .i64 0] ∧ Below w.heap.size w ((w1.setCell ⟨w.heap.size, 0, none⟩ (.int .i64 1)).setCell ⟨w.heap.size, 1, none⟩ (.int .i64 0)) from
    ⟨(K1.out.set_ 0 _).set_ 1 _, B1.out.trans ((below_of_grown (grown_setCell w1 w.heap.size 0 _) B1.out.size (fun g e => by cases e; exact Nat.le_refl _)).trans (below_of_grown (grown_setCell _ w.heap.size 1 _) (by simpa using B1.out.size) (fun g e => by cases e; exact Nat.le_refl _)))⟩)
  go_wp2_with fail
  refine bodyPost_ret (v := .agg #[.int .i64 1, .int .i64 0]) (results_cell_row rfl _ _ w.heap.size 61 _ (0, 0) _ rfl FIN.out.1 Try.underlying61 rfl (size_fault _ rfl)) rfl ⟨rfl, FIN.out.2⟩
theorem rDot_none (h : Value) (w : World) (hn : NoObj w h) :
    Calls Try.prog 44 #[h] w fun e' w' => e' = .returned (.agg #[.int .i64 0, .int .i64 0]) ∧ Below w.heap.size w w' := by
  have b1 := below_new w (.cells #[.int .i64 0, .int .i64 0] 35)
  have k1 := Blk.new w 35 #[.int .i64 0, .int .i64 0]
  have hs1 := size_new w (.cells #[.int .i64 0, .int .i64 0] 35)
  have HN := hid hn
  clear hn
  go_enter Try.func44, Try.ntmps44
  go_wp2_with fail
  generalize w.alloc (.cells #[.int .i64 0, .int .i64 0] 35) = w1 at b1 k1 hs1 ⊢
  have B1 := hid b1; have K1 := hid k1; have HS1 := hid hs1
  clear b1 k1 hs1
  refine (rNum_none h w1 (HN.out.keep B1.out)).mono ?_
  rintro _ _ ⟨rfl, rfl⟩
  have b3 := below_new w1 (.cells #[.int .i64 0, .int .i64 0] 35)
  have k3 := Blk.new w1 35 #[.int .i64 0, .int .i64 0]
  go_wp2_with fail
  generalize w1.alloc (.cells #[.int .i64 0, .int .i64 0] 35) = w3 at b3 k3 ⊢
  have K13 := hid (K1.out.keep b3)
  have B3 := hid (B1.out.trans (b3.mono B1.out.size))
  have d1 := k3.cell 1 rfl
  have f1 := k3.frozen 1
  have K3 := hid k3
  clear b3 k3
  refine (rNum_none h w3 (HN.out.keep B3.out)).mono ?_
  rintro _ _ ⟨rfl, rfl⟩
  go_wp2_with fail
  have B5 := hid (B3.out.trans (below_of_grown (grown_setCell w3 w1.heap.size 1 (.int .i64 0)) B3.out.size (fun g e => by cases e; have := HS1.out; omega)))
  have K5 := hid (K13.out.far (p := ⟨w1.heap.size, 1, none⟩) (show w.heap.size ≠ w1.heap.size from by have := HS1.out; omega) (.int .i64 0))
  generalize w3.setCell ⟨w1.heap.size, 1, none⟩ (.int .i64 0) = w5 at B5 K5 ⊢
  clear d1 f1
  have g0 := K5.out.cell 0 rfl
  have g1 := K5.out.cell 1 rfl
  have f0 := K5.out.frozen 0
  have f1 := K5.out.frozen 1
  refine (reads_none h w5 (HN.out.keep B5.out)).mono ?_
  rintro _ _ ⟨rfl, rfl⟩
  have FIN := hid (show Blk ((w5.setCell ⟨w.heap.size, 0, none⟩ (.int .i64 0)).setCell ⟨w.heap.size, 1, none⟩ (.int .i64 0)) w.heap.size 35 #[.int .i64 0, .int .i64 0] ∧ Below w.heap.size w ((w5.setCell ⟨w.heap.size, 0, none⟩ (.int .i64 0)).setCell ⟨w.heap.size, 1, none⟩ (.int .i64 0)) from
    ⟨(K5.out.set_ 0 _).set_ 1 _, B5.out.trans ((below_of_grown (grown_setCell w5 w.heap.size 0 _) B5.out.size (fun g e => by cases e; exact Nat.le_refl _)).trans (below_of_grown (grown_setCell _ w.heap.size 1 _) (by simpa using B5.out.size) (fun g e => by cases e; exact Nat.le_refl _)))⟩)
  go_wp2_with fail
  refine bodyPost_ret (v := .agg #[.int .i64 0, .int .i64 0]) (results_cell_row rfl _ _ w.heap.size 35 _ (0, 0) _ rfl FIN.out.1 Try.underlying35 rfl (size_dot _ rfl)) rfl ⟨rfl, FIN.out.2⟩
end Go.Proofs.Ytmlahlnjfoapaaa
