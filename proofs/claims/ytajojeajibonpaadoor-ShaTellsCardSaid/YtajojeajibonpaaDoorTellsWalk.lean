/- The walk of the law on readings, cuts and orders. -/
import Derived.Test.YtajojeajibonpaaDoorOwnHas
import Derived.Test.YtajojeajibonpaaDoorOwnCut
import Derived.Test.YtajojeajibonpaaDoorOwnCmp
import Derived.Test.YtajojeajibonpaaDoorShaHas
import Derived.Test.YtajojeajibonpaaDoorShaCut
import Derived.Test.YtajojeajibonpaaDoorShaRead
import Derived.Test.YtajojeajibonpaaDoorShaText
import Derived.Test.YtajojeajibonpaaDoorOwnRead
import Derived.Test.YtajojeajibonpaaDoorAwake2
import Derived.Test.YtajojeajibonpaaDoorNewSet
import Derived.Test.YtajojeajibonpaaDoorQuietC
namespace Go.Proofs.YtajojeajibonpaaDoor
open Go.RowKit Crc

theorem readB_length (x : List UInt8) : (readB x).length = 32 := by
  unfold readB
  split
  · rename_i h
    cases e : readP x with
    | none => rfl
    | some m => exact (text_read 32 x m (by omega) e).2
  · rfl

theorem tells_long (l m x : List UInt8) (v : Int) (w : World) (hn : 100 < x.length) (hG : Glob w) :
    Calls Tryd.prog 4 #[.agg (bcells l), .agg (bcells m), .int .i64 v, .string (strB x)] w fun e w' => e = .returned (.bool true) ∧ Below w.heap.size w w' := by
  have hsz : (strB x).size = x.length := rfl
  have hn' : (100 : Int) < (x.length : Int) := by omega
  have B1 := hid (((Below.refl w.heap.size w).alloc (Nat.le_refl _) (.cells (bcells l) 26)).alloc (by rw [size_new]; omega) (.cells (bcells m) 26))
  have bb := (Below.refl w.heap.size w).alloc (Nat.le_refl _) (.cells (bcells l) 26)
  have HG := hid (hG.keep B1.out)
  clear hG bb
  go_enter Tryd.func4, Tryd.ntmps4
  go_wp2_with fail
  generalize (w.alloc (.cells (bcells l) 26)).alloc (.cells (bcells m) 26) = wA at B1 HG ⊢
  refine (awake_calls wA HG.out).mono ?_
  rintro _ w1 ⟨rfl, b1⟩
  go_wp2_with fail
  go_ret
  exact ⟨rfl, B1.out.trans (b1.mono B1.out.size)⟩

set_option maxHeartbeats 8000000 in
set_option maxRecDepth 100000 in
theorem tells_short (l m x : List UInt8) (v : Int) (w : World) (hl : l.length = 32) (hm : m.length = 32) (hn : x.length ≤ 100) (hG : Glob w) :
    Calls Tryd.prog 4 #[.agg (bcells l), .agg (bcells m), .int .i64 v, .string (strB x)] w fun e w' => e = .returned (.bool true) ∧ Below w.heap.size w w' := by
  have hz := (zero_of_info info26).1
  have hsz : (strB x).size = x.length := rfl
  have hn' : ¬ (100 : Int) < (x.length : Int) := by omega
  have k0 := ((Blk.new w 26 (bcells l)).alloc (.cells (bcells m) 26))
  have k1 := (Blk.new (w.alloc (.cells (bcells l) 26)) 26 (bcells m))
  have b1 := (((Below.refl w.heap.size w).alloc (Nat.le_refl _) (.cells (bcells l) 26)).alloc (by rw [size_new]; omega) (.cells (bcells m) 26))
  rw [size_new] at k1
  have K4 := hid k0; have K5 := hid k1; have B := hid b1; have G := hid (hG.keep b1); clear k0 k1 b1 hG
  have EL : Hid ((Tryd.prog.info? 26).map (·.size) = some (bcells l).size) := by rw [Hid, bcells_size, hl]; exact (zero_of_info info26).2
  have EM : Hid ((Tryd.prog.info? 26).map (·.size) = some (bcells m).size) := by rw [Hid, bcells_size, hm]; exact (zero_of_info info26).2
  have hlc := cutB_length l v hl
  have hlr := readB_length x
  have EC : Hid ((Tryd.prog.info? 26).map (·.size) = some (bcells (cutB l v)).size) := by rw [Hid, bcells_size, hlc]; exact (zero_of_info info26).2
  have HsC : Hid ((bcells (zeroB 32)).size = (bcells (cutB l v)).size) := by rw [Hid, bcells_size, bcells_size, hlc]; rfl
  have ER : Hid ((Tryd.prog.info? 26).map (·.size) = some (bcells (readB x)).size) := by rw [Hid, bcells_size, hlr]; exact (zero_of_info info26).2
  have HsR : Hid ((bcells (zeroB 32)).size = (bcells (readB x)).size) := by rw [Hid, bcells_size, bcells_size, hlr]; rfl
  have eqs : ∀ y : List UInt8, y.length = 32 → ∀ W, (Op.equalIn 10000 26 (.agg (bcells y)) (.agg (bcells y))).run Tryd.prog W = .ok true W := fun y hy W => by
    have := run_equal_arr (P := Tryd.prog) 26 5 32 Tryd.underlying26 Tryd.underlying5 (by kernel_rfl) y y hy hy W
    rw [beq_self_eq_true] at this; exact this
  have HE1 := hid (eqs _ hlc); have HE2 := hid (eqs _ hlr)
  clear eqs hlc hlr
  go_enter Tryd.func4, Tryd.ntmps4
  go_wp2_with (refine wpList_load_blk rfl 26 _ rfl w.heap.size rfl 26 _ K4.out _ _ Tryd.underlying26 EL.out ?_)
  generalize (w.alloc (.cells (bcells l) 26)).alloc (.cells (bcells m) 26) = wA at K4 K5 B G ⊢
  generalize hg : w.heap.size = g at K4 K5 B ⊢
  have HG := hid hg; clear hg
  refine (own_cut_calls l v wA hl).mono ?_
  rintro _ w1a ⟨rfl, bx⟩
  have B := hid (B.out.trans (bx.mono (Nat.le_of_lt K4.out.lt))); have G := hid (G.out.keep bx); have K4 := hid (K4.out.keep bx); have K5 := hid (K5.out.keep bx)
  clear bx
  have K := hid (Blk.new w1a 26 (bcells (zeroB 32)))
  go_wp2_with ((refine wpList_store_blk rfl 26 _ _ rfl w1a.heap.size _ rfl rfl 26 _ K.out EC.out HsC.out (bcells_oneCell _) ?_); refine Held.go ?_)
  obtain ⟨bx, k1⟩ := new_set w1a 26 (bcells (zeroB 32)) (bcells (cutB l v))
  generalize (w1a.alloc (.cells (bcells (zeroB 32)) 26)).setRow w1a.heap.size (bcells (cutB l v)) = w1b at bx k1 ⊢
  have B := hid (B.out.trans (bx.mono (Nat.le_of_lt K4.out.lt))); have G := hid (G.out.keep bx); have K4 := hid (K4.out.keep bx); have K5 := hid (K5.out.keep bx)
  generalize w1a.heap.size = g9 at k1 ⊢
  have K9 := hid k1
  clear bx k1 K
  unfold Held
  go_wp2_with (refine wpList_load_blk rfl 26 _ rfl g rfl 26 _ K4.out _ _ Tryd.underlying26 EL.out ?_)
  refine (refCut_calls l v w1b hl).mono ?_
  rintro _ w2a ⟨rfl, bx⟩
  have B := hid (B.out.trans (bx.mono (Nat.le_of_lt K4.out.lt))); have G := hid (G.out.keep bx); have K4 := hid (K4.out.keep bx); have K5 := hid (K5.out.keep bx); have K9 := hid (K9.out.keep bx)
  clear bx
  have K := hid (Blk.new w2a 26 (bcells (zeroB 32)))
  go_wp2_with ((refine wpList_store_blk rfl 26 _ _ rfl w2a.heap.size _ rfl rfl 26 _ K.out EC.out HsC.out (bcells_oneCell _) ?_); refine Held.go ?_)
  obtain ⟨bx, k1⟩ := new_set w2a 26 (bcells (zeroB 32)) (bcells (cutB l v))
  generalize (w2a.alloc (.cells (bcells (zeroB 32)) 26)).setRow w2a.heap.size (bcells (cutB l v)) = w2b at bx k1 ⊢
  have B := hid (B.out.trans (bx.mono (Nat.le_of_lt K4.out.lt))); have G := hid (G.out.keep bx); have K4 := hid (K4.out.keep bx); have K5 := hid (K5.out.keep bx); have K9 := hid (K9.out.keep bx)
  generalize w2a.heap.size = g11 at k1 ⊢
  have K11 := hid k1
  clear bx k1 K
  unfold Held
  go_wp2_with fail
  refine (own_read_calls x w2b).mono ?_
  rintro _ w3a ⟨rfl, bx⟩
  have B := hid (B.out.trans (bx.mono (Nat.le_of_lt K4.out.lt))); have G := hid (G.out.keep bx); have K4 := hid (K4.out.keep bx); have K5 := hid (K5.out.keep bx); have K9 := hid (K9.out.keep bx); have K11 := hid (K11.out.keep bx)
  clear bx
  have K := hid (Blk.new w3a 26 (bcells (zeroB 32)))
  go_wp2_with ((refine wpList_store_blk rfl 26 _ _ rfl w3a.heap.size _ rfl rfl 26 _ K.out ER.out HsR.out (bcells_oneCell _) ?_); refine Held.go ?_)
  obtain ⟨bx, k1⟩ := new_set w3a 26 (bcells (zeroB 32)) (bcells (readB x))
  generalize (w3a.alloc (.cells (bcells (zeroB 32)) 26)).setRow w3a.heap.size (bcells (readB x)) = w3b at bx k1 ⊢
  have B := hid (B.out.trans (bx.mono (Nat.le_of_lt K4.out.lt))); have G := hid (G.out.keep bx); have K4 := hid (K4.out.keep bx); have K5 := hid (K5.out.keep bx); have K9 := hid (K9.out.keep bx); have K11 := hid (K11.out.keep bx)
  generalize w3a.heap.size = g13 at k1 ⊢
  have K13 := hid k1
  clear bx k1 K
  unfold Held
  go_wp2_with fail
  refine (refRead_calls x w3b).mono ?_
  rintro _ w4a ⟨rfl, bx⟩
  have B := hid (B.out.trans (bx.mono (Nat.le_of_lt K4.out.lt))); have G := hid (G.out.keep bx); have K4 := hid (K4.out.keep bx); have K5 := hid (K5.out.keep bx); have K9 := hid (K9.out.keep bx); have K11 := hid (K11.out.keep bx); have K13 := hid (K13.out.keep bx)
  clear bx
  have K := hid (Blk.new w4a 26 (bcells (zeroB 32)))
  go_wp2_with ((refine wpList_store_blk rfl 26 _ _ rfl w4a.heap.size _ rfl rfl 26 _ K.out ER.out HsR.out (bcells_oneCell _) ?_); refine Held.go ?_)
  obtain ⟨bx, k1⟩ := new_set w4a 26 (bcells (zeroB 32)) (bcells (readB x))
  generalize (w4a.alloc (.cells (bcells (zeroB 32)) 26)).setRow w4a.heap.size (bcells (readB x)) = w4b at bx k1 ⊢
  have B := hid (B.out.trans (bx.mono (Nat.le_of_lt K4.out.lt))); have G := hid (G.out.keep bx); have K4 := hid (K4.out.keep bx); have K5 := hid (K5.out.keep bx); have K9 := hid (K9.out.keep bx); have K11 := hid (K11.out.keep bx); have K13 := hid (K13.out.keep bx)
  generalize w4a.heap.size = g15 at k1 ⊢
  have K15 := hid k1
  clear bx k1 K
  unfold Held
  go_wp2_with fail
  clear hz
  refine wp_region_class (fun w' => Below g w w' ∧ Glob w' ∧ Blk w' g _ _ ∧ Blk w' (g + 1) _ _ ∧ Blk w' g9 _ _ ∧ Blk w' g11 _ _ ∧ Blk w' g13 _ _ ∧ Blk w' g15 _ _) (by kernel_rfl) (by kernel_rfl) ⟨B.out.drew, G.out, K4.out.drew, K5.out.drew, K9.out.drew, K11.out.drew, K13.out.drew, K15.out.drew⟩ ?_
  intro S _ at_ hS hin
  have keep : ∀ (v : Value) (f : FuncId) (args : Array Value) (z : S), (Calls Tryd.prog f args (at_ z) fun e w' => e = .returned v ∧ Below (at_ z).heap.size (at_ z) w') → Calls Tryd.prog f args (at_ z) fun e w' => e = .returned v ∧ ∃ y, w' = at_ y := by
    intro v f args z h
    obtain ⟨B, G, K4, K5, K9, K11, K13, K15⟩ := hS z
    exact h.mono fun e w' ⟨he, bx⟩ => ⟨he, hin _ ⟨B.trans (bx.mono (Nat.le_of_lt K4.lt)), G.keep bx, K4.keep bx, K5.keep bx, K9.keep bx, K11.keep bx, K13.keep bx, K15.keep bx⟩⟩
  have Hkeep := hid keep; have HhS := hid hS; have Hin := hid hin
  clear keep hS hin
  (refine wpQuiet_step (fun K hK => ?_); (refine quiet_loadK rfl _ _ rfl g9 rfl _ _ (fun z => (HhS.out z).2.2.2.2.1) _ _ Tryd.underlying26 EC.out ?_); go_simp; refine hK _ ?_; clear hK K)
  (refine wpQuiet_step (fun K hK => ?_); (refine quiet_loadK rfl _ _ rfl g11 rfl _ _ (fun z => (HhS.out z).2.2.2.2.2.1) _ _ Tryd.underlying26 EC.out ?_); go_simp; refine hK _ ?_; clear hK K)
  have heq1 := HE1.out; have heq2 := HE2.out
  repeat (refine wpQuiet_step (fun K hK => ?_); go_simp; refine hK _ ?_; clear hK K)
  clear heq1 heq2
  (refine wpQuiet_step (fun K hK => ?_); (refine quiet_loadK rfl _ _ rfl g13 rfl _ _ (fun z => (HhS.out z).2.2.2.2.2.2.1) _ _ Tryd.underlying26 ER.out ?_); go_simp; refine hK _ ?_; clear hK K)
  (refine wpQuiet_step (fun K hK => ?_); (refine quiet_loadK rfl _ _ rfl g15 rfl _ _ (fun z => (HhS.out z).2.2.2.2.2.2.2) _ _ Tryd.underlying26 ER.out ?_); go_simp; refine hK _ ?_; clear hK K)
  have heq1 := HE1.out; have heq2 := HE2.out
  repeat (refine wpQuiet_step (fun K hK => ?_); go_simp; refine hK _ ?_; clear hK K)
  clear heq1 heq2
  (refine wpQuiet_step (fun K hK => ?_); (refine quiet_loadK rfl _ _ rfl g rfl _ _ (fun z => (HhS.out z).2.2.1) _ _ Tryd.underlying26 EL.out ?_); go_simp; refine hK _ ?_; clear hK K)
  repeat (refine wpQuiet_step (fun K hK => ?_); go_simp; refine hK _ ?_; clear hK K)
  (refine wpQuiet_step (fun K hK => ?_); (refine quiet_callK rfl 21 #[.agg (bcells l), .int .i64 v] (fun w => by go_simp) _ (fun z => Hkeep.out _ _ _ z (own_has_calls l v _ hl)) ?_); go_simp; refine hK _ ?_; clear hK K)
  (refine wpQuiet_step (fun K hK => ?_); (refine quiet_loadK rfl _ _ rfl g rfl _ _ (fun z => (HhS.out z).2.2.1) _ _ Tryd.underlying26 EL.out ?_); go_simp; refine hK _ ?_; clear hK K)
  repeat (refine wpQuiet_step (fun K hK => ?_); go_simp; refine hK _ ?_; clear hK K)
  (refine wpQuiet_step (fun K hK => ?_); (refine quiet_callK rfl 22 #[.agg (bcells l), .int .i64 v] (fun w => by go_simp) _ (fun z => Hkeep.out _ _ _ z (refHas_calls l v _ hl)) ?_); go_simp; refine hK _ ?_; clear hK K)
  repeat (refine wpQuiet_step (fun K hK => ?_); go_simp; refine hK _ ?_; clear hK K)
  refine wpQuiet_nil ?_
  clear HhS Hin Hkeep
  rintro w5 ⟨b, gg, k4, k5, k9, k11, k13, k15⟩
  have B := hid b; have G := hid gg; have K4 := hid k4; have K5 := hid k5; have K9 := hid k9; have K11 := hid k11; have K13 := hid k13; have K15 := hid k15
  clear b gg k4 k5 k9 k11 k13 k15
  go_wp2_with fail
  refine wp_region_class (fun w' => Below g w w' ∧ Glob w' ∧ Blk w' g _ _ ∧ Blk w' (g + 1) _ _ ∧ Blk w' g9 _ _ ∧ Blk w' g11 _ _ ∧ Blk w' g13 _ _ ∧ Blk w' g15 _ _) (by kernel_rfl) (by kernel_rfl) ⟨B.out.drew, G.out, K4.out.drew, K5.out.drew, K9.out.drew, K11.out.drew, K13.out.drew, K15.out.drew⟩ ?_
  intro S _ at_ hS hin
  have keep : ∀ (v : Value) (f : FuncId) (args : Array Value) (z : S), (Calls Tryd.prog f args (at_ z) fun e w' => e = .returned v ∧ Below (at_ z).heap.size (at_ z) w') → Calls Tryd.prog f args (at_ z) fun e w' => e = .returned v ∧ ∃ y, w' = at_ y := by
    intro v f args z h
    obtain ⟨B, G, K4, K5, K9, K11, K13, K15⟩ := hS z
    exact h.mono fun e w' ⟨he, bx⟩ => ⟨he, hin _ ⟨B.trans (bx.mono (Nat.le_of_lt K4.lt)), G.keep bx, K4.keep bx, K5.keep bx, K9.keep bx, K11.keep bx, K13.keep bx, K15.keep bx⟩⟩
  have Hkeep := hid keep; have HhS := hid hS; have Hin := hid hin
  clear keep hS hin
  repeat (refine wpQuiet_step (fun K hK => ?_); go_simp; refine hK _ ?_; clear hK K)
  (refine wpQuiet_step (fun K hK => ?_); (refine quiet_loadK rfl _ _ rfl g rfl _ _ (fun z => (HhS.out z).2.2.1) _ _ Tryd.underlying26 EL.out ?_); go_simp; refine hK _ ?_; clear hK K)
  (refine wpQuiet_step (fun K hK => ?_); (refine quiet_callK rfl 23 #[.agg (bcells l)] (fun w => by go_simp) _ (fun z => Hkeep.out _ _ _ z (text_calls l hl _)) ?_); go_simp; refine hK _ ?_; clear hK K)
  (refine wpQuiet_step (fun K hK => ?_); (refine quiet_loadK rfl _ _ rfl g rfl _ _ (fun z => (HhS.out z).2.2.1) _ _ Tryd.underlying26 EL.out ?_); go_simp; refine hK _ ?_; clear hK K)
  (refine wpQuiet_step (fun K hK => ?_); (refine quiet_callK rfl 24 #[.agg (bcells l)] (fun w => by go_simp) _ (fun z => Hkeep.out _ _ _ z (refText_calls l hl _)) ?_); go_simp; refine hK _ ?_; clear hK K)
  repeat (refine wpQuiet_step (fun K hK => ?_); go_simp; refine hK _ ?_; clear hK K)
  (refine wpQuiet_step (fun K hK => ?_); (refine quiet_loadK rfl _ _ rfl g rfl _ _ (fun z => (HhS.out z).2.2.1) _ _ Tryd.underlying26 EL.out ?_); go_simp; refine hK _ ?_; clear hK K)
  (refine wpQuiet_step (fun K hK => ?_); (refine quiet_loadK rfl _ _ rfl (g + 1) rfl _ _ (fun z => (HhS.out z).2.2.2.1) _ _ Tryd.underlying26 EM.out ?_); go_simp; refine hK _ ?_; clear hK K)
  (refine wpQuiet_step (fun K hK => ?_); (refine quiet_callK rfl 25 #[.agg (bcells l), .agg (bcells m)] (fun w => by go_simp) _ (fun z => Hkeep.out _ _ _ z (own_compare_calls l m _ hl hm)) ?_); go_simp; refine hK _ ?_; clear hK K)
  (refine wpQuiet_step (fun K hK => ?_); (refine quiet_loadK rfl _ _ rfl g rfl _ _ (fun z => (HhS.out z).2.2.1) _ _ Tryd.underlying26 EL.out ?_); go_simp; refine hK _ ?_; clear hK K)
  (refine wpQuiet_step (fun K hK => ?_); (refine quiet_loadK rfl _ _ rfl (g + 1) rfl _ _ (fun z => (HhS.out z).2.2.2.1) _ _ Tryd.underlying26 EM.out ?_); go_simp; refine hK _ ?_; clear hK K)
  (refine wpQuiet_step (fun K hK => ?_); (refine quiet_callK rfl 26 #[.agg (bcells l), .agg (bcells m)] (fun w => by go_simp) _ (fun z => Hkeep.out _ _ _ z (refCompare_calls l m _ hl hm)) ?_); go_simp; refine hK _ ?_; clear hK K)
  repeat (refine wpQuiet_step (fun K hK => ?_); go_simp; refine hK _ ?_; clear hK K)
  (refine wpQuiet_step (fun K hK => ?_); (refine quiet_callK rfl 10 #[] (fun w => by go_simp) _ (fun z => Hkeep.out _ _ _ z (awake_calls _ (HhS.out z).2.1)) ?_); go_simp; refine hK _ ?_; clear hK K)
  repeat (refine wpQuiet_step (fun K hK => ?_); go_simp; refine hK _ ?_; clear hK K)
  refine wpQuiet_nil ?_
  clear HhS Hin Hkeep
  rintro w6 ⟨b, -⟩
  go_wp2_with fail
  go_ret
  exact ⟨rfl, by rw [HG.out]; exact b⟩
end Go.Proofs.YtajojeajibonpaaDoor
