/- The walk of the law on sums. -/
import Derived.Test.YtajojeajibonpaaDoorOwnCut
import Derived.Test.YtajojeajibonpaaDoorQuietC
import Derived.Test.YtajojeajibonpaaDoorShaCut
import Derived.Test.YtajojeajibonpaaDoorAwake2
import Derived.Test.YtajojeajibonpaaDoorNewSet
import Derived.Test.YtajojeajibonpaaDoorKept2
namespace Go.Proofs.YtajojeajibonpaaDoor
open Go.RowKit Crc

theorem sums_long (c n : Nat) (A : Option Addr) (v : Value) (w : World) (hn : 1000 < n) (hG : Glob w) :
    Calls Tryd.prog 3 #[.slice A n c, v] w fun e w' => e = .returned (.bool true) ∧ Below w.heap.size w w' := by
  have HG := hid hG; clear hG
  have hn' : (1000 : Int) < (n : Int) := by omega
  go_enter Tryd.func3, Tryd.ntmps3
  go_wp2_with fail
  refine (awake_calls w HG.out).mono ?_
  rintro _ w1 ⟨rfl, b1⟩
  go_wp2_with fail
  go_ret
  exact ⟨rfl, b1⟩

set_option maxHeartbeats 8000000 in
set_option maxRecDepth 100000 in
theorem sums_short (B n c : Nat) (A : Option Addr) (bs : List UInt8) (v : Int) (w : World) (hs : SB w B A n bs) (_hc : n ≤ c) (hn : n ≤ 1000) (hG : Glob w) :
    Calls Tryd.prog 3 #[.slice A n c, .int .i64 v] w fun e w' => e = .returned (.bool true) ∧ Below w.heap.size w w' := by
  have hz := (zero_of_info info26).1
  have hl := sha_length bs
  have hl2 := cutB_length (sha bs) v hl
  have ES : Hid ((Tryd.prog.info? 26).map (·.size) = some (bcells (sha bs)).size) := by rw [Hid, bcells_size, hl]; exact (zero_of_info info26).2
  have HsS : Hid ((bcells (zeroB 32)).size = (bcells (sha bs)).size) := by rw [Hid, bcells_size, bcells_size, hl]; rfl
  have EC : Hid ((Tryd.prog.info? 26).map (·.size) = some (bcells (cutB (sha bs) v)).size) := by rw [Hid, bcells_size, hl2]; exact (zero_of_info info26).2
  have HsC : Hid ((bcells (zeroB 32)).size = (bcells (cutB (sha bs) v)).size) := by rw [Hid, bcells_size, bcells_size, hl2]; rfl
  have heq1 : ∀ W, (Op.equalIn 10000 26 (.agg (bcells (sha bs))) (.agg (bcells (sha bs)))).run Tryd.prog W = .ok true W := fun W => by
    have := run_equal_arr (P := Tryd.prog) 26 5 32 Tryd.underlying26 Tryd.underlying5 (by kernel_rfl) (sha bs) (sha bs) hl hl W
    rw [beq_self_eq_true] at this; exact this
  have heq2 : ∀ W, (Op.equalIn 10000 26 (.agg (bcells (cutB (sha bs) v))) (.agg (bcells (cutB (sha bs) v)))).run Tryd.prog W = .ok true W := fun W => by
    have := run_equal_arr (P := Tryd.prog) 26 5 32 Tryd.underlying26 Tryd.underlying5 (by kernel_rfl) (cutB (sha bs) v) (cutB (sha bs) v) hl2 hl2 W
    rw [beq_self_eq_true] at this; exact this
  have HE1 := hid heq1; have HE2 := hid heq2
  have HS := hid hs.fit; have HG := hid hG
  clear hs hG hl hl2 heq1 heq2
  have hn' : ¬ (1000 : Int) < (n : Int) := by omega
  go_enter Tryd.func3, Tryd.ntmps3
  go_wp2_with fail
  refine (lentBytes_calls w.heap.size n c A bs w HS.out (by omega)).mono ?_
  rintro _ w1 ⟨A1, c1, rfl, hc1, hs1, b1⟩
  have S1 := hid hs1
  have hst := hs1.take n (by omega)
  rw [List.take_append_of_le_length (by rw [HS.out.1]; exact Nat.le_refl _), List.take_of_length_le (by rw [HS.out.1]; exact Nat.le_refl _)] at hst
  have T1 := hid hst
  have B := hid b1; have G := hid (HG.out.keep b1); have HSx := hid (HS.out.keep b1)
  clear hs1 hst b1 HG
  go_wp2_with fail
  refine (sum_calls _ n c1 A1 bs w1 T1.out (by omega) G.out (by omega)).mono ?_
  rintro _ w2 ⟨rfl, bx⟩
  have B := hid (B.out.trans (bx.mono B.out.size)); have G := hid (G.out.keep bx); have HSx := hid (HSx.out.keep bx); have S1 := hid (S1.out.keep bx); have T1 := hid (T1.out.keep bx)
  clear bx
  have K := hid (Blk.new w2 26 (bcells (zeroB 32)))
  go_wp2_with ((refine wpList_store_blk rfl 26 _ _ rfl w2.heap.size _ rfl rfl 26 _ K.out ES.out HsS.out (bcells_oneCell _) ?_); refine Held.go ?_)
  obtain ⟨bx, k1⟩ := new_set w2 26 (bcells (zeroB 32)) (bcells (sha bs))
  generalize (w2.alloc (.cells (bcells (zeroB 32)) 26)).setRow w2.heap.size (bcells (sha bs)) = w3 at bx k1 ⊢
  have B := hid (B.out.trans (bx.mono B.out.size)); have G := hid (G.out.keep bx); have HSx := hid (HSx.out.keep bx); have S1 := hid (S1.out.keep bx); have T1 := hid (T1.out.keep bx)
  generalize w2.heap.size = g6 at k1 ⊢
  have K6 := hid k1
  clear bx k1 K
  unfold Held
  go_wp2_with fail
  refine (own_of_calls _ n c1 A1 bs v w3 T1.out (by omega) G.out (by omega)).mono ?_
  rintro _ w4 ⟨rfl, bx⟩
  have B := hid (B.out.trans (bx.mono B.out.size)); have G := hid (G.out.keep bx); have HSx := hid (HSx.out.keep bx); have S1 := hid (S1.out.keep bx); have T1 := hid (T1.out.keep bx); have K6 := hid (K6.out.keep bx)
  clear bx
  have K := hid (Blk.new w4 26 (bcells (zeroB 32)))
  go_wp2_with ((refine wpList_store_blk rfl 26 _ _ rfl w4.heap.size _ rfl rfl 26 _ K.out EC.out HsC.out (bcells_oneCell _) ?_); refine Held.go ?_)
  obtain ⟨bx, k1⟩ := new_set w4 26 (bcells (zeroB 32)) (bcells (cutB (sha bs) v))
  generalize (w4.alloc (.cells (bcells (zeroB 32)) 26)).setRow w4.heap.size (bcells (cutB (sha bs) v)) = w5 at bx k1 ⊢
  have B := hid (B.out.trans (bx.mono B.out.size)); have G := hid (G.out.keep bx); have HSx := hid (HSx.out.keep bx); have S1 := hid (S1.out.keep bx); have K6 := hid (K6.out.keep bx)
  generalize w4.heap.size = g7 at k1 ⊢
  have K7 := hid k1
  clear bx k1 K T1
  unfold Held
  go_wp2_with fail
  refine (refOf_calls _ n c A bs v w5 HSx.out (by omega)).mono ?_
  rintro _ w6 ⟨rfl, bx⟩
  have B := hid (B.out.trans (bx.mono B.out.size)); have G := hid (G.out.keep bx); have HSx := hid (HSx.out.keep bx); have S1 := hid (S1.out.keep bx); have K6 := hid (K6.out.keep bx); have K7 := hid (K7.out.keep bx)
  clear bx
  have K := hid (Blk.new w6 26 (bcells (zeroB 32)))
  go_wp2_with ((refine wpList_store_blk rfl 26 _ _ rfl w6.heap.size _ rfl rfl 26 _ K.out EC.out HsC.out (bcells_oneCell _) ?_); refine Held.go ?_)
  obtain ⟨bx, k1⟩ := new_set w6 26 (bcells (zeroB 32)) (bcells (cutB (sha bs) v))
  generalize (w6.alloc (.cells (bcells (zeroB 32)) 26)).setRow w6.heap.size (bcells (cutB (sha bs) v)) = w7 at bx k1 ⊢
  have B := hid (B.out.trans (bx.mono B.out.size)); have G := hid (G.out.keep bx); have HSx := hid (HSx.out.keep bx); have S1 := hid (S1.out.keep bx); have K6 := hid (K6.out.keep bx); have K7 := hid (K7.out.keep bx)
  generalize w6.heap.size = g9 at k1 ⊢
  have K9 := hid k1
  clear bx k1 K
  unfold Held
  go_wp2_with fail
  clear hz
  refine wp_region_class (fun w' => Below w.heap.size w w' ∧ Glob w' ∧ SB w' _ A n bs ∧ SB w' _ A1 _ _ ∧ Blk w' g6 _ _ ∧ Blk w' g7 _ _ ∧ Blk w' g9 _ _) (by kernel_rfl) (by kernel_rfl) ⟨B.out.drew, G.out, HSx.out.drew, S1.out.drew, K6.out.drew, K7.out.drew, K9.out.drew⟩ ?_
  intro S _ at_ hS hin
  have keep : ∀ (v : Value) (f : FuncId) (args : Array Value) (x : S), (Calls Tryd.prog f args (at_ x) fun e w' => e = .returned v ∧ Below (at_ x).heap.size (at_ x) w') → Calls Tryd.prog f args (at_ x) fun e w' => e = .returned v ∧ ∃ y, w' = at_ y := by
    intro v f args x h
    obtain ⟨B, G, HSx, S1, K6, K7, K9⟩ := hS x
    exact h.mono fun e w' ⟨he, bx⟩ => ⟨he, hin _ ⟨B.trans (bx.mono B.size), G.keep bx, HSx.keep bx, S1.keep bx, K6.keep bx, K7.keep bx, K9.keep bx⟩⟩
  have Hkeep := hid keep; have HhS := hid hS; have Hin := hid hin
  clear keep hS hin
  refine quiet_load rfl _ _ rfl g6 rfl _ _ (fun x => (HhS.out x).2.2.2.2.1) _ _ Tryd.underlying26 ES.out ?_
  (refine wpQuiet_step (fun K hK => ?_); go_simp; refine hK _ ?_; clear hK K)
  refine quiet_call rfl 15 #[.slice A n c] (fun w => by go_simp) _ (fun x => Hkeep.out _ _ _ x (refSum_calls2 _ n c A bs _ (HhS.out x).2.2.1 (by omega))) ?_
  have heq1 := HE1.out; have heq2 := HE2.out
  repeat (refine wpQuiet_step (fun K hK => ?_); go_simp; refine hK _ ?_; clear hK K)
  clear heq1 heq2
  refine quiet_load rfl _ _ rfl g7 rfl _ _ (fun x => (HhS.out x).2.2.2.2.2.1) _ _ Tryd.underlying26 EC.out ?_
  refine quiet_load rfl _ _ rfl g9 rfl _ _ (fun x => (HhS.out x).2.2.2.2.2.2) _ _ Tryd.underlying26 EC.out ?_
  have heq1 := HE1.out; have heq2 := HE2.out
  repeat (refine wpQuiet_step (fun K hK => ?_); go_simp; refine hK _ ?_; clear hK K)
  clear heq1 heq2
  refine quiet_call rfl 16 #[.slice A1 n c1, .slice A n c] (fun w => by go_simp) _ (fun x => Hkeep.out _ _ _ x (keptBytes_calls _ n c1 _ c A1 A bs _ (HhS.out x).2.2.2.1 (HhS.out x).2.2.1 (by omega) (by omega))) ?_
  repeat (refine wpQuiet_step (fun K hK => ?_); go_simp; refine hK _ ?_; clear hK K)
  refine quiet_call rfl 10 #[] (fun w => by go_simp) _ (fun x => Hkeep.out _ _ _ x (awake_calls _ (HhS.out x).2.1)) ?_
  repeat (refine wpQuiet_step (fun K hK => ?_); go_simp; refine hK _ ?_; clear hK K)
  refine wpQuiet_nil ?_
  rintro w' ⟨B, -⟩
  go_wp2_with fail
  go_ret
  exact ⟨rfl, B⟩
end Go.Proofs.YtajojeajibonpaaDoor
