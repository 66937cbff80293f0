/- The walk of the law on digests. -/
import Derived.Test.YtgbjnndebdmijaaDoorNmAwake
import Derived.Test.YtgbjnndebdmijaaDoorNmRefId2
import Derived.Test.YtgbjnndebdmijaaDoorNmRefText
namespace Go.Proofs.YtgbjnndebdmijaaDoor
open Go.RowKit Crc
attribute [local irreducible] wpQuiet

theorem digests_long (s : ByteArray) (l : List UInt8) (hn : 200 < s.size) (w : World) (hG : NGlob w) :
    Calls Tryd.prog 3 #[.string s, .agg (bcells l)] w fun e w' => e = .returned (.bool true) ∧ Below w.heap.size w w' := by
  have hn' : (200 : Int) < (s.size : Int) := by omega
  have B1 := hid (below_new w (.cells (bcells l) 23))
  have HG := hid (hG.keep B1.out)
  clear hG
  go_enter Tryd.func3, Tryd.ntmps3
  go_wp2_with fail
  generalize w.alloc (.cells (bcells l) 23) = wA at B1 HG ⊢
  refine (awake_calls wA HG.out).mono ?_
  rintro _ w1 ⟨rfl, b1⟩
  go_wp2_with fail
  go_ret
  exact ⟨rfl, B1.out.trans (b1.mono B1.out.size)⟩

set_option maxHeartbeats 8000000 in
set_option maxRecDepth 100000 in
theorem digests_short (s : ByteArray) (l : List UInt8) (hl : l.length = 32) (hn : s.size ≤ 200) (w : World) (hG : NGlob w) :
    Calls Tryd.prog 3 #[.string s, .agg (bcells l)] w fun e w' => e = .returned (.bool true) ∧ Below w.heap.size w w' := by
  have hn' : ¬ (200 : Int) < (s.size : Int) := by omega
  have hz1 := (zero_of_info info26).1
  have hz2 := (zero_of_info infoFault).1
  have EF : Hid ((Tryd.prog.info? 27).map (·.size) = some 2) := (zero_of_info infoFault).2
  have hrl : (idRes s.data.toList).1.length = 32 := by
    unfold idRes
    split
    · exact idAt_length _ _
    · rfl
  obtain ⟨R, E1, E2, hR⟩ : ∃ R E1 E2, idRes s.data.toList = (R, E1, E2) := ⟨_, _, _, rfl⟩
  have HO := hid (fun w => own_id s (by omega) w)
  have HR := hid (fun w => ref_id s s.data.toList rfl (by omega) w)
  rw [hR] at HO HR hrl
  simp only at HO HR hrl
  have EI : Hid ((Tryd.prog.info? 23).map (·.size) = some (bcells R).size) := by rw [Hid, bcells_size, hrl]; exact (zero_of_info info26).2
  have Hsz : Hid ((bcells (zeroB 32)).size = (bcells R).size) := by rw [Hid, bcells_size, bcells_size, hrl]; rfl
  have EL : Hid ((Tryd.prog.info? 23).map (·.size) = some (bcells l).size) := by rw [Hid, bcells_size, hl]; exact (zero_of_info info26).2
  have heq : ∀ W, (Op.equalIn 10000 23 (.agg (bcells R)) (.agg (bcells R))).run Tryd.prog W = .ok true W := fun W => by
    have := run_equal_arr (P := Tryd.prog) 23 5 32 Tryd.underlying23 Tryd.underlying5 (by kernel_rfl) R R hrl hrl W
    rw [beq_self_eq_true] at this
    exact this
  have HEQ := hid heq; have HTO := hid (fun w => text_calls l hl w); have HTR := hid (fun w => refText_calls l hl w)
  have k0 := Blk.new w 23 (bcells l)
  have b0 := below_new w (.cells (bcells l) 23)
  have K0 := hid k0; have B := hid b0; have HG := hid (hG.keep b0); have HG0 := hid hG
  clear heq hR k0 b0 hG hrl hl
  go_enter Tryd.func3, Tryd.ntmps3
  go_wp2_with fail
  generalize w.alloc (.cells (bcells l) 23) = wA at K0 B HG ⊢
  generalize hgw : w.heap.size = G at K0 B ⊢
  have HGW := hid hgw; clear hgw
  refine (HO.out wA).mono ?_
  rintro _ w1 ⟨rfl, bx⟩
  have B := hid (B.out.trans (bx.mono (Nat.le_of_lt K0.out.lt))); have K0 := hid (K0.out.keep bx); have HGl := hid (HG.out.keep bx)
  clear bx HG HO
  have k1 := (Blk.new w1 23 (bcells (zeroB 32))).alloc (.cells #[.int .i64 0, .int .i64 0] 27)
  have k2 := Blk.new (w1.alloc (.cells (bcells (zeroB 32)) 23)) 27 #[.int .i64 0, .int .i64 0]
  rw [size_new] at k2
  have lB := K0.out.lt
  have b3 := (B.out.alloc (Nat.le_of_lt lB) (.cells (bcells (zeroB 32)) 23)).alloc (by simp; omega) (.cells #[.int .i64 0, .int .i64 0] 27)
  have K1 := hid k1; have K2 := hid k2; have B := hid b3
  have K0 := hid ((K0.out.alloc (.cells (bcells (zeroB 32)) 23)).alloc (.cells #[.int .i64 0, .int .i64 0] 27))
  clear k1 k2 b3
  go_wp2_with ((refine wpList_store_blk rfl 23 _ _ rfl w1.heap.size (bcells R) rfl rfl 23 _ K1.out EI.out Hsz.out (bcells_oneCell _) ?_); refine Held.go ?_)
  have g4 := grown_setRow ((w1.alloc (.cells (bcells (zeroB 32)) 23)).alloc (.cells #[.int .i64 0, .int .i64 0] 27)) w1.heap.size (bcells R)
  have KA := hid (K1.out.setRow (bcells R))
  have K2 := hid (K2.out.grown g4 (by simp))
  have B := hid (B.out.trans (below_of_grown g4 (by simp; omega) (fun g' e => by cases e; omega)))
  have hne : ∀ q, q < w1.heap.size → (some w1.heap.size : Option Nat) ≠ some q := fun q hq e => by cases e; omega
  have K0 := hid (K0.out.grown g4 (hne _ lB))
  generalize ((w1.alloc (.cells (bcells (zeroB 32)) 23)).alloc (.cells #[.int .i64 0, .int .i64 0] 27)).setRow w1.heap.size (bcells R) = w2a at KA K2 B K0 ⊢
  clear g4 K1 hne
  have lK := KA.out.lt
  generalize hgg : w1.heap.size = g1 at KA K2 lB lK  ⊢
  clear hgg
  unfold Held
  refine wpList_store_blk rfl 27 _ _ rfl (g1 + 1) #[.int .i64 E1, .int .i64 E2] rfl rfl 27 _ K2.out EF.out rfl (by rfl) ?_
  have g5 := grown_setRow w2a (g1 + 1) #[.int .i64 E1, .int .i64 E2]
  have KA := hid (KA.out.grown g5 (by simp))
  have KB := hid (K2.out.setRow #[.int .i64 E1, .int .i64 E2])
  have B := hid (B.out.trans (below_of_grown g5 (by omega) (fun g' e => by cases e; omega)))
  have K0 := hid (K0.out.grown g5 (by simp only [ne_eq, Option.some.injEq]; omega))
  generalize w2a.setRow (g1 + 1) #[.int .i64 E1, .int .i64 E2] = w2 at KA KB B K0 ⊢
  clear g5 K2 lK
  go_wp2_with fail
  refine (HR.out w2).mono ?_
  rintro _ w3 ⟨rfl, bx⟩
  have B := hid (B.out.trans (bx.mono (Nat.le_of_lt K0.out.lt))); have K0 := hid (K0.out.keep bx); have KA := hid (KA.out.keep bx); have KB := hid (KB.out.keep bx)
  have lKA := KA.out.lt; have lKB := KB.out.lt
  clear bx HR
  have k1 := (Blk.new w3 23 (bcells (zeroB 32))).alloc (.cells #[.int .i64 0, .int .i64 0] 27)
  have k2 := Blk.new (w3.alloc (.cells (bcells (zeroB 32)) 23)) 27 #[.int .i64 0, .int .i64 0]
  rw [size_new] at k2
  have lB := K0.out.lt
  have b3 := (B.out.alloc (Nat.le_of_lt lB) (.cells (bcells (zeroB 32)) 23)).alloc (by simp; omega) (.cells #[.int .i64 0, .int .i64 0] 27)
  have K1 := hid k1; have K2 := hid k2; have B := hid b3
  have K0 := hid ((K0.out.alloc (.cells (bcells (zeroB 32)) 23)).alloc (.cells #[.int .i64 0, .int .i64 0] 27))
  have KA := hid ((KA.out.alloc (.cells (bcells (zeroB 32)) 23)).alloc (.cells #[.int .i64 0, .int .i64 0] 27))
  have KB := hid ((KB.out.alloc (.cells (bcells (zeroB 32)) 23)).alloc (.cells #[.int .i64 0, .int .i64 0] 27))
  clear k1 k2 b3
  go_wp2_with ((refine wpList_store_blk rfl 23 _ _ rfl w3.heap.size (bcells R) rfl rfl 23 _ K1.out EI.out Hsz.out (bcells_oneCell _) ?_); refine Held.go ?_)
  have g4 := grown_setRow ((w3.alloc (.cells (bcells (zeroB 32)) 23)).alloc (.cells #[.int .i64 0, .int .i64 0] 27)) w3.heap.size (bcells R)
  have KC := hid (K1.out.setRow (bcells R))
  have K2 := hid (K2.out.grown g4 (by simp))
  have B := hid (B.out.trans (below_of_grown g4 (by simp; omega) (fun g' e => by cases e; omega)))
  have hne : ∀ q, q < w3.heap.size → (some w3.heap.size : Option Nat) ≠ some q := fun q hq e => by cases e; omega
  have K0 := hid (K0.out.grown g4 (hne _ lB))
  have KA := hid (KA.out.grown g4 (hne _ lKA))
  have KB := hid (KB.out.grown g4 (hne _ lKB))
  generalize ((w3.alloc (.cells (bcells (zeroB 32)) 23)).alloc (.cells #[.int .i64 0, .int .i64 0] 27)).setRow w3.heap.size (bcells R) = w4a at KC K2 B K0 KA KB ⊢
  clear g4 K1 hne
  have lK := KC.out.lt
  generalize hgg : w3.heap.size = g3 at KC K2 lB lK lKA lKB ⊢
  clear hgg
  unfold Held
  refine wpList_store_blk rfl 27 _ _ rfl (g3 + 1) #[.int .i64 E1, .int .i64 E2] rfl rfl 27 _ K2.out EF.out rfl (by rfl) ?_
  have g5 := grown_setRow w4a (g3 + 1) #[.int .i64 E1, .int .i64 E2]
  have KC := hid (KC.out.grown g5 (by simp))
  have KD := hid (K2.out.setRow #[.int .i64 E1, .int .i64 E2])
  have B := hid (B.out.trans (below_of_grown g5 (by omega) (fun g' e => by cases e; omega)))
  have K0 := hid (K0.out.grown g5 (by simp only [ne_eq, Option.some.injEq]; omega))
  have KA := hid (KA.out.grown g5 (by simp only [ne_eq, Option.some.injEq]; omega))
  have KB := hid (KB.out.grown g5 (by simp only [ne_eq, Option.some.injEq]; omega))
  generalize w4a.setRow (g3 + 1) #[.int .i64 E1, .int .i64 E2] = w4 at KC KD B K0 KA KB ⊢
  clear g5 K2 lK
  go_wp2_with fail
  clear hz1 hz2 HGl lB lKA lKB
  have HG4 := hid (HG0.out.keep (HGW.out ▸ B.out))
  refine wp_region_class (fun w' => Below G w w' ∧ NGlob w' ∧ Blk w' G 23 (bcells l) ∧ Blk w' g1 23 (bcells R) ∧ Blk w' (g1 + 1) 27 #[.int .i64 E1, .int .i64 E2] ∧ Blk w' g3 23 (bcells R) ∧ Blk w' (g3 + 1) 27 #[.int .i64 E1, .int .i64 E2]) (by kernel_rfl) (by kernel_rfl) ⟨B.out.drew, HG4.out, K0.out.drew, KA.out.drew, KB.out.drew, KC.out.drew, KD.out.drew⟩ ?_
  intro S _ at_ hS hin
  have keep : ∀ (v : Value) (f : FuncId) (args : Array Value) (x : S), (Calls Tryd.prog f args (at_ x) fun e w' => e = .returned v ∧ Below (at_ x).heap.size (at_ x) w') → Calls Tryd.prog f args (at_ x) fun e w' => e = .returned v ∧ ∃ y, w' = at_ y := by
    intro v f args x h
    obtain ⟨B, HG, K0, KA, KB, KC, KD⟩ := hS x
    exact h.mono fun e w' ⟨he, bx⟩ => ⟨he, hin _ ⟨B.trans (bx.mono (Nat.le_of_lt K0.lt)), HG.keep bx, K0.keep bx, KA.keep bx, KB.keep bx, KC.keep bx, KD.keep bx⟩⟩
  have Hkeep := hid keep; have HhS := hid hS
  clear keep hS hin B HG4 K0 KA KB KC KD HG0
  (refine wpQuiet_step (fun K hK => ?_); (refine quiet_loadD rfl _ _ rfl g1 rfl _ _ (fun x => (HhS.out x).2.2.2.1) _ Tryd.underlying23 rfl EI.out ?_); go_simp; refine hK _ ?_; clear hK K)
  (refine wpQuiet_step (fun K hK => ?_); (refine quiet_loadD rfl _ _ rfl g3 rfl _ _ (fun x => (HhS.out x).2.2.2.2.2.1) _ Tryd.underlying23 rfl EI.out ?_); go_simp; refine hK _ ?_; clear hK K)
  have heq := HEQ.out
  iterate 1 (refine wpQuiet_step (fun K hK => ?_); go_simp; refine hK _ ?_; clear hK K)
  clear heq
  iterate 1 (refine wpQuiet_step (fun K hK => ?_); go_simp; refine hK _ ?_; clear hK K)
  (refine wpQuiet_step (fun K hK => ?_); (refine quiet_loadD rfl _ _ rfl (g1 + 1) rfl _ _ (fun x => (HhS.out x).2.2.2.2.1) _ Tryd.underlying27 rfl EF.out ?_); go_simp; refine hK _ ?_; clear hK K)
  (refine wpQuiet_step (fun K hK => ?_); (refine quiet_loadD rfl _ _ rfl (g3 + 1) rfl _ _ (fun x => (HhS.out x).2.2.2.2.2.2) _ Tryd.underlying27 rfl EF.out ?_); go_simp; refine hK _ ?_; clear hK K)
  iterate 3 (refine wpQuiet_step (fun K hK => ?_); go_simp; refine hK _ ?_; clear hK K)
  (refine wpQuiet_step (fun K hK => ?_); (refine quiet_loadD rfl _ _ rfl G rfl _ _ (fun x => (HhS.out x).2.2.1) _ Tryd.underlying23 rfl EL.out ?_); go_simp; refine hK _ ?_; clear hK K)
  (refine wpQuiet_step (fun K hK => ?_); (refine quiet_callK rfl 7 #[.agg (bcells l)] (fun w => by go_simp) (.string (strB (textH l))) (fun x => Hkeep.out _ _ _ x (HTO.out _)) ?_); go_simp; refine hK _ ?_; clear hK K)
  (refine wpQuiet_step (fun K hK => ?_); (refine quiet_loadD rfl _ _ rfl G rfl _ _ (fun x => (HhS.out x).2.2.1) _ Tryd.underlying23 rfl EL.out ?_); go_simp; refine hK _ ?_; clear hK K)
  (refine wpQuiet_step (fun K hK => ?_); (refine quiet_callK rfl 8 #[.agg (bcells l)] (fun w => by go_simp) (.string (strB (textH l))) (fun x => Hkeep.out _ _ _ x (HTR.out _)) ?_); go_simp; refine hK _ ?_; clear hK K)
  iterate 3 (refine wpQuiet_step (fun K hK => ?_); go_simp; refine hK _ ?_; clear hK K)
  (refine wpQuiet_step (fun K hK => ?_); (refine quiet_callK rfl 4 #[] (fun w => by go_simp) (.bool true) (fun x => Hkeep.out _ _ _ x (awake_calls _ (HhS.out x).2.1)) ?_); go_simp; refine hK _ ?_; clear hK K)
  iterate 2 (refine wpQuiet_step (fun K hK => ?_); go_simp; refine hK _ ?_; clear hK K)
  refine wpQuiet_nil ?_
  rintro w' ⟨B, -⟩
  go_wp2_with fail
  go_ret
  exact ⟨rfl, by rw [HGW.out]; exact B⟩
end Go.Proofs.YtgbjnndebdmijaaDoor
