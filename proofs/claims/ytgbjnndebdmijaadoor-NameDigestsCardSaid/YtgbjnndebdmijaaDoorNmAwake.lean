/- What the law asks each time: awake. -/
import Derived.Test.YtgbjnndebdmijaaDoorNmTitle2
import Derived.Test.YtgbjnndebdmijaaDoorNmOwnId
import Derived.Test.YtgbjnndebdmijaaDoorNmText
import Derived.Test.YtgbjnndebdmijaaDoorQuietC
import Derived.Laws.StructEq
namespace Go.Proofs.YtgbjnndebdmijaaDoor
open Go.RowKit Crc
attribute [local irreducible] wpQuiet

theorem quiet_loadD {P : Program} {ops : Array Oper} {S : Type} {at_ : S → World} {o : Oper} {a : Act} {K : Act → Prop} (hgd : Region.wanted o (yielded ops a.tmps) = true) (t : TypeId) (x : Operand) (ho : o.op = .load t x) (g : Nat) (hx : a.eval x = .pointer (some ⟨g, 0, none⟩)) (t' : TypeId) (cs : Array Value) (hb : ∀ x, Blk (at_ x) g t' cs)
    (d : TypeDesc) (hu : P.underlying t = some d) (hd : (match d with | .struct _ => true | .array _ _ => true | _ => false) = true) (hi : (P.info? t).map (·.size) = some cs.size)
    (h : K (a.put o.dst (.agg cs))) : if Region.wanted o (yielded ops a.tmps) then o.quiet P a (fun w' => ∃ x : S, w' = at_ x) K else K (a.put o.dst undef) := by
  rw [if_pos hgd]
  refine ⟨.agg cs, ?_, h⟩
  rintro w ⟨y, rfl⟩
  unfold Oper.quietAt execOp
  simp only [ho, hx, Instr.loadAt, Instr.sureAddr, Sem.run_bind, Sem.run_pure, Result.andThen_ok, run_loadVar_row (at_ y) g t' t cs (0, 0) _ (hb y) hu hd hi]
  exact ⟨rfl, rfl⟩
def l7 : List UInt8 := List.replicate 31 0 ++ [7]
theorem l7_length : l7.length = 32 := rfl
theorem id_l7 : idRes (textH l7) = (l7, 0, 0) := by decide +kernel
theorem size_l7 : (strB (textH l7)).size = 71 := rfl
set_option maxHeartbeats 4000000 in
set_option maxRecDepth 100000 in
theorem awake_calls (w : World) (hG : NGlob w) : Calls Tryd.prog 4 #[] w fun e w' => e = .returned (.bool true) ∧ Below w.heap.size w w' := by
  have HG := hid hG
  clear hG
  go_enter Tryd.func4, Tryd.ntmps4
  go_wp2_with fail
  refine (text_calls l7 l7_length w).mono ?_
  rintro _ w1 ⟨rfl, b1⟩
  have B := hid b1
  clear b1
  go_wp2_with fail
  refine (own_id (strB (textH l7)) (by rw [size_l7]; omega) w1).mono ?_
  rintro _ w2 ⟨rfl, b2⟩
  rw [show (strB (textH l7)).data.toList = textH l7 from rfl, id_l7]
  have B := hid (B.out.trans (b2.mono B.out.size))
  clear b2
  have K1 := hid (Blk.new w2 23 (bcells (zeroB 32)))
  have hz1 := (zero_of_info info26).1
  have hz2 := (zero_of_info infoFault).1
  have EF : Hid ((Tryd.prog.info? 27).map (·.size) = some 2) := (zero_of_info infoFault).2
  have EI : Hid ((Tryd.prog.info? 23).map (·.size) = some (bcells l7).size) := (zero_of_info info26).2
  have k1 := (Blk.new w2 23 (bcells (zeroB 32))).alloc (.cells #[.int .i64 0, .int .i64 0] 27)
  have k2 := Blk.new (w2.alloc (.cells (bcells (zeroB 32)) 23)) 27 #[.int .i64 0, .int .i64 0]
  rw [size_new] at k2
  have b3 := (B.out.alloc B.out.size (.cells (bcells (zeroB 32)) 23)).alloc (by have := B.out.size; simp; omega) (.cells #[.int .i64 0, .int .i64 0] 27)
  have K1 := hid k1; have K2 := hid k2; have B3 := hid b3
  clear k1 k2 b3
  have hle := B.out.size
  go_wp2_with (first
    | ((refine wpList_store_blk rfl 23 _ _ rfl w2.heap.size (bcells l7) rfl rfl 23 _ K1.out EI.out rfl (bcells_oneCell _) ?_); refine Held.go ?_))
  have g4 := grown_setRow ((w2.alloc (.cells (bcells (zeroB 32)) 23)).alloc (.cells #[.int .i64 0, .int .i64 0] 27)) w2.heap.size (bcells l7)
  have K14 := hid (K1.out.setRow (bcells l7))
  have K24 := hid (K2.out.grown g4 (by simp))
  have B4 := hid (B3.out.trans (below_of_grown g4 (by simp; omega) (fun g' e => by cases e; exact hle)))
  generalize ((w2.alloc (.cells (bcells (zeroB 32)) 23)).alloc (.cells #[.int .i64 0, .int .i64 0] 27)).setRow w2.heap.size (bcells l7) = w4 at K14 K24 B4 ⊢
  generalize w2.heap.size = g1 at K14 K24 hle K1 K2 ⊢
  clear g4 K1 K2 B3 B hz1 hz2
  unfold Held
  refine wpList_store_blk rfl 27 _ _ rfl (g1 + 1) #[.int .i64 0, .int .i64 0] rfl rfl 27 _ K24.out EF.out rfl (by rfl) ?_
  have g5 := grown_setRow w4 (g1 + 1) #[.int .i64 0, .int .i64 0]
  have K15 := hid (K14.out.grown g5 (by simp))
  have K25 := hid (K24.out.setRow #[.int .i64 0, .int .i64 0])
  have B5 := hid (B4.out.trans (below_of_grown g5 (Nat.le_of_lt (Nat.lt_of_le_of_lt hle K14.out.lt)) (fun g' e => by cases e; omega)))
  generalize w4.setRow (g1 + 1) #[.int .i64 0, .int .i64 0] = w5 at K15 K25 B5 ⊢
  have G5 := hid (HG.out.keep B5.out)
  clear g5 K14 K24 B4 hle HG
  have heq : ∀ W, (Op.equalIn 10000 23 (.agg (bcells l7)) (.agg (bcells l7))).run Tryd.prog W = .ok true W := fun W => by
    have := run_equal_arr (P := Tryd.prog) 23 5 32 Tryd.underlying23 Tryd.underlying5 (by kernel_rfl) l7 l7 rfl rfl W
    rw [beq_self_eq_true] at this
    exact this
  have HEQ : Hid (∀ W, (Op.equalIn 10000 23 (.agg (bcells l7)) (.agg #[.int .u8 0, .int .u8 0, .int .u8 0, .int .u8 0, .int .u8 0, .int .u8 0, .int .u8 0, .int .u8 0, .int .u8 0, .int .u8 0, .int .u8 0, .int .u8 0, .int .u8 0, .int .u8 0, .int .u8 0, .int .u8 0, .int .u8 0, .int .u8 0, .int .u8 0, .int .u8 0, .int .u8 0, .int .u8 0, .int .u8 0, .int .u8 0, .int .u8 0, .int .u8 0, .int .u8 0, .int .u8 0, .int .u8 0, .int .u8 0, .int .u8 0, .int .u8 7])).run Tryd.prog W = .ok true W) := heq
  clear heq
  go_wp2_with fail
  refine wp_region_class (fun w' => Below w.heap.size w w' ∧ NGlob w' ∧ Blk w' g1 23 (bcells l7) ∧ Blk w' (g1 + 1) 27 #[.int .i64 0, .int .i64 0]) (by kernel_rfl) (by kernel_rfl) ⟨B5.out.drew, G5.out, K15.out.drew, K25.out.drew⟩ ?_
  intro S _ at_ hS hin
  have keep : ∀ (v : Value) (f : FuncId) (args : Array Value) (x : S), (Calls Tryd.prog f args (at_ x) fun e w' => e = .returned v ∧ Below (at_ x).heap.size (at_ x) w') → Calls Tryd.prog f args (at_ x) fun e w' => e = .returned v ∧ ∃ y, w' = at_ y := by
    intro v f args x h
    obtain ⟨B, HG, K1, K2⟩ := hS x
    exact h.mono fun e w' ⟨he, bx⟩ => ⟨he, hin _ ⟨B.trans (bx.mono B.size), HG.keep bx, K1.keep bx, K2.keep bx⟩⟩
  have Hkeep := hid keep; have HhS := hid hS
  clear keep hS hin B5 G5 K15 K25
  (refine wpQuiet_step (fun K hK => ?_); (refine quiet_callK rfl 9 #[.string ⟨#[108, 105, 98, 114, 97, 114, 121, 47, 103, 111, 95, 49, 46, 50, 45, 45, 120]⟩] (fun w => by go_simp) (.agg #[.int .i64 0, .int .i64 0]) (fun x => Hkeep.out _ _ _ x (repo_lib _)) ?_); go_simp; refine hK _ ?_; clear hK K)
  (refine wpQuiet_step (fun K hK => ?_); (refine quiet_callK rfl 10 #[] (fun w => by go_simp) (.agg #[.int .i64 0, .int .i64 0]) (fun x => Hkeep.out _ _ _ x (fine_calls _)) ?_); go_simp; refine hK _ ?_; clear hK K)
  iterate 2 (refine wpQuiet_step (fun K hK => ?_); go_simp; refine hK _ ?_; clear hK K)
  (refine wpQuiet_step (fun K hK => ?_); (refine quiet_callK rfl 9 #[.string ⟨#[97, 95, 95, 95, 98]⟩] (fun w => by go_simp) (.agg #[.int .i64 7, .int .i64 3]) (fun x => Hkeep.out _ _ _ x (repo_a _)) ?_); go_simp; refine hK _ ?_; clear hK K)
  (refine wpQuiet_step (fun K hK => ?_); (refine quiet_callK rfl 11 #[.int .i64 3] (fun w => by go_simp) (.agg #[.int .i64 7, .int .i64 3]) (fun x => Hkeep.out _ _ _ x (wrong_calls 3 _)) ?_); go_simp; refine hK _ ?_; clear hK K)
  iterate 3 (refine wpQuiet_step (fun K hK => ?_); go_simp; refine hK _ ?_; clear hK K)
  (refine wpQuiet_step (fun K hK => ?_); (refine quiet_callK rfl 12 #[.string ⟨#[118, 49, 46, 48, 45, 66, 95]⟩] (fun w => by go_simp) (.agg #[.int .i64 0, .int .i64 0]) (fun x => Hkeep.out _ _ _ x (tag_calls _)) ?_); go_simp; refine hK _ ?_; clear hK K)
  (refine wpQuiet_step (fun K hK => ?_); (refine quiet_callK rfl 10 #[] (fun w => by go_simp) (.agg #[.int .i64 0, .int .i64 0]) (fun x => Hkeep.out _ _ _ x (fine_calls _)) ?_); go_simp; refine hK _ ?_; clear hK K)
  iterate 3 (refine wpQuiet_step (fun K hK => ?_); go_simp; refine hK _ ?_; clear hK K)
  (refine wpQuiet_step (fun K hK => ?_); (refine quiet_callK rfl 13 #[.string ⟨#[76, 195, 164, 100, 101, 110, 32, 55]⟩] (fun w => by go_simp) (.agg #[.int .i64 0, .int .i64 0]) (fun x => Hkeep.out _ _ _ x (title_calls _ (HhS.out x).2.1)) ?_); go_simp; refine hK _ ?_; clear hK K)
  (refine wpQuiet_step (fun K hK => ?_); (refine quiet_callK rfl 10 #[] (fun w => by go_simp) (.agg #[.int .i64 0, .int .i64 0]) (fun x => Hkeep.out _ _ _ x (fine_calls _)) ?_); go_simp; refine hK _ ?_; clear hK K)
  iterate 3 (refine wpQuiet_step (fun K hK => ?_); go_simp; refine hK _ ?_; clear hK K)
  (refine wpQuiet_step (fun K hK => ?_); (refine quiet_loadK rfl _ _ rfl g1 rfl _ _ (fun x => (HhS.out x).2.2.1) _ _ Tryd.underlying23 EI.out ?_); go_simp; refine hK _ ?_; clear hK K)
  iterate 1 (refine wpQuiet_step (fun K hK => ?_); go_simp; refine hK _ ?_; clear hK K)
  have heq := HEQ.out
  iterate 1 (refine wpQuiet_step (fun K hK => ?_); go_simp; refine hK _ ?_; clear hK K)
  clear heq
  iterate 2 (refine wpQuiet_step (fun K hK => ?_); go_simp; refine hK _ ?_; clear hK K)
  (refine wpQuiet_step (fun K hK => ?_); (refine quiet_loadD rfl _ _ rfl (g1 + 1) rfl _ _ (fun x => (HhS.out x).2.2.2) _ Tryd.underlying27 rfl EF.out ?_); go_simp; refine hK _ ?_; clear hK K)
  (refine wpQuiet_step (fun K hK => ?_); (refine quiet_callK rfl 10 #[] (fun w => by go_simp) (.agg #[.int .i64 0, .int .i64 0]) (fun x => Hkeep.out _ _ _ x (fine_calls _)) ?_); go_simp; refine hK _ ?_; clear hK K)
  iterate 3 (refine wpQuiet_step (fun K hK => ?_); go_simp; refine hK _ ?_; clear hK K)
  refine wpQuiet_nil ?_
  rintro w' ⟨B, -⟩
  go_wp2_with fail
  go_ret
  exact ⟨rfl, B⟩
end Go.Proofs.YtgbjnndebdmijaaDoor
