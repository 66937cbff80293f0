/- The walk of the law on cuts. -/
import Derived.Test.YtajojeajibonpaaDoorCutTwice
import Derived.Test.YtajojeajibonpaaDoorShaKnown
import Derived.Test.YtajojeajibonpaaDoorNewSet
import Derived.Test.YtajojeajibonpaaDoorKit2
import Derived.Test.YtajojeajibonpaaDoorQuietC
namespace Go.Proofs.YtajojeajibonpaaDoor
open Go.RowKit Crc

theorem cuts_long (l : List UInt8) (a1 a2 : Int) (n c : Nat) (A : Option Addr) (w : World) (hn : 300 < n) (hG : Glob w) :
    Calls Tryd.prog 9 #[.agg (bcells l), .int .i64 a1, .int .i64 a2, .slice A n c] w fun e w' => e = .returned (.bool true) ∧ Below w.heap.size w w' := by
  have hn' : (300 : Int) < (n : Int) := by omega
  have B1 := hid (below_new w (.cells (bcells l) 26))
  have HG := hid (hG.keep B1.out)
  clear hG
  go_enter Tryd.func9, Tryd.ntmps9
  go_wp2_with fail
  generalize w.alloc (.cells (bcells l) 26) = wA at B1 HG ⊢
  refine (known_calls wA HG.out).mono ?_
  rintro _ w1 ⟨rfl, b1⟩
  go_wp2_with fail
  go_ret
  exact ⟨rfl, B1.out.trans (b1.mono B1.out.size)⟩

set_option maxHeartbeats 8000000 in
set_option maxRecDepth 100000 in
theorem cuts_le (l bs lX lY lU : List UInt8) (P Q a1 a2 : Int) (b0 n c : Nat) (A : Option Addr) (w : World) (hl : l.length = 32) (hs : SB w b0 A n bs) (hc : n ≤ c) (hn : n ≤ 300) (hG : Glob w)
    (hP : 1 + a1 % 32 = P) (hQ : 1 + a2 % 32 = Q) (h1 : 1 ≤ P) (h2 : P ≤ 32) (h3 : 1 ≤ Q) (h4 : Q ≤ 32) (hpq : P ≤ Q) (hX : cutB l P = lX) (hY : cutB l P = lY) (hU : cutB (sha bs) P = lU) :
    Calls Tryd.prog 9 #[.agg (bcells l), .int .i64 a1, .int .i64 a2, .slice A n c] w fun e w' => e = .returned (.bool true) ∧ Below w.heap.size w w' := by
  have hz := (zero_of_info info26).1
  have hn' : ¬ (300 : Int) < (n : Int) := by omega
  have hw1 : IntKind.i64.wrap (1 + a1 % 32) = P := by rw [hP]; exact IntWalk.i64_in _ (by omega)
  have hw2 : IntKind.i64.wrap (1 + a2 % 32) = Q := by rw [hQ]; exact IntWalk.i64_in _ (by omega)
  have hmn : min P Q = P := by omega
  have hmx : max P Q = Q := by omega
  have hnot : ¬ Q < P := by omega
  have lX32 : lX.length = 32 := by rw [← hX]; exact cutB_length l P hl
  have lY32 : lY.length = 32 := by rw [← hY]; exact cutB_length l P hl
  have lU32 : lU.length = 32 := by rw [← hU]; exact cutB_length _ P (sha_length bs)
  have cXQ : cutB lX Q = lY := by rw [← hX, cut_cut l P Q P hl h1 h2 h3 h4 (by omega), hY]
  have cXP : cutB lX P = lX := by rw [← hX, cut_cut l P P P hl h1 h2 h1 h2 (by omega)]
  have cXM : cutB lX Q = lX := by rw [← hX, cut_cut l P Q P hl h1 h2 h3 h4 (by omega)]
  have cYR : cutB lY P = lY := by rw [← hY, cut_cut l P P P hl h1 h2 h1 h2 (by omega)]
  have cUP : cutB lU P = lU := by rw [← hU, cut_cut _ P P P (sha_length bs) h1 h2 h1 h2 (by omega)]
  have hhas : hasB l P = (lX == l) := by rw [has_in h1 h2, hX]
  have szs : ∀ y : List UInt8, y.length = 32 → (Tryd.prog.info? 26).map (·.size) = some (bcells y).size := fun y hy => by rw [bcells_size, hy]; exact (zero_of_info info26).2
  have szz : ∀ y : List UInt8, y.length = 32 → (bcells (zeroB 32)).size = (bcells y).size := fun y hy => by rw [bcells_size, bcells_size, hy]; rfl
  have EL := hid (szs _ hl); have EX := hid (szs _ lX32); have EY := hid (szs _ lY32); have EU := hid (szs _ lU32)
  have HsX := hid (szz _ lX32); have HsY := hid (szz _ lY32); have HsU := hid (szz _ lU32)
  have eqs : ∀ y z : List UInt8, y.length = 32 → z.length = 32 → ∀ W, (Op.equalIn 10000 26 (.agg (bcells y)) (.agg (bcells z))).run Tryd.prog W = .ok (y == z) W := fun y z hy hz W =>
    run_equal_arr (P := Tryd.prog) 26 5 32 Tryd.underlying26 Tryd.underlying5 (by kernel_rfl) y z hy hz W
  have eqt : ∀ y : List UInt8, y.length = 32 → ∀ W, (Op.equalIn 10000 26 (.agg (bcells y)) (.agg (bcells y))).run Tryd.prog W = .ok true W := fun y hy W => by
    have := eqs y y hy hy W
    rw [beq_self_eq_true] at this; exact this
  have HE1 := hid (eqt _ lY32); have HE2 := hid (eqt _ lU32); have HE3 := hid (eqs _ _ lX32 hl)
  clear eqs eqt szs szz hP hQ
  have k0 := Blk.new w 26 (bcells l)
  have b1 := below_new w (.cells (bcells l) 26)
  have K4 := hid k0; have B := hid b1; have G := hid (hG.keep b1); have HS := hid (hs.keep b1); clear k0 b1 hG hs
  go_enter Tryd.func9, Tryd.ntmps9
  go_wp2_with fail
  generalize w.alloc (.cells (bcells l) 26) = wA at K4 B G HS ⊢
  generalize hg : w.heap.size = g at K4 B ⊢
  have HG := hid hg; clear hg
  refine (known_calls wA G.out).mono ?_
  rintro _ w1 ⟨rfl, bx⟩
  have B := hid (B.out.trans (bx.mono (Nat.le_of_lt K4.out.lt))); have G := hid (G.out.keep bx); have HS := hid (HS.out.keep bx); have K4 := hid (K4.out.keep bx)
  clear bx
  go_wp2_with fail
  refine (pick_calls a1 32 w1 (by omega) (by omega)).mono ?_
  rintro _ _ ⟨rfl, rfl⟩
  go_wp2_with fail
  refine (pick_calls a2 32 w1 (by omega) (by omega)).mono ?_
  rintro _ _ ⟨rfl, rfl⟩
  go_wp2_with (refine wpList_load_blk rfl 26 _ rfl g rfl 26 _ K4.out _ _ Tryd.underlying26 EL.out ?_)
  refine (cut_in_calls l lX P w1 hl h1 h2 hX).mono ?_
  rintro _ w2a ⟨rfl, bx⟩
  have B := hid (B.out.trans (bx.mono (Nat.le_of_lt K4.out.lt))); have G := hid (G.out.keep bx); have HS := hid (HS.out.keep bx); have K4 := hid (K4.out.keep bx)
  clear bx
  have K := hid (Blk.new w2a 26 (bcells (zeroB 32)))
  go_wp2_with ((refine wpList_store_blk rfl 26 _ _ rfl w2a.heap.size _ rfl rfl 26 _ K.out EX.out HsX.out (bcells_oneCell _) ?_); refine Held.go ?_)
  obtain ⟨bx, k1⟩ := new_set w2a 26 (bcells (zeroB 32)) (bcells (lX))
  generalize (w2a.alloc (.cells (bcells (zeroB 32)) 26)).setRow w2a.heap.size (bcells (lX)) = w2b at bx k1 ⊢
  have B := hid (B.out.trans (bx.mono (Nat.le_of_lt K4.out.lt))); have G := hid (G.out.keep bx); have HS := hid (HS.out.keep bx); have K4 := hid (K4.out.keep bx)
  generalize w2a.heap.size = g10 at k1 ⊢
  have K10 := hid k1
  clear bx k1 K
  unfold Held
  go_wp2_with (refine wpList_load_blk rfl 26 _ rfl g10 rfl 26 _ K10.out _ _ Tryd.underlying26 EX.out ?_)
  refine (cut_in_calls lX lY Q w2b lX32 h3 h4 cXQ).mono ?_
  rintro _ w3a ⟨rfl, bx⟩
  have B := hid (B.out.trans (bx.mono (Nat.le_of_lt K4.out.lt))); have G := hid (G.out.keep bx); have HS := hid (HS.out.keep bx); have K4 := hid (K4.out.keep bx); have K10 := hid (K10.out.keep bx)
  clear bx
  have K := hid (Blk.new w3a 26 (bcells (zeroB 32)))
  go_wp2_with ((refine wpList_store_blk rfl 26 _ _ rfl w3a.heap.size _ rfl rfl 26 _ K.out EY.out HsY.out (bcells_oneCell _) ?_); refine Held.go ?_)
  obtain ⟨bx, k1⟩ := new_set w3a 26 (bcells (zeroB 32)) (bcells (lY))
  generalize (w3a.alloc (.cells (bcells (zeroB 32)) 26)).setRow w3a.heap.size (bcells (lY)) = w3b at bx k1 ⊢
  have B := hid (B.out.trans (bx.mono (Nat.le_of_lt K4.out.lt))); have G := hid (G.out.keep bx); have HS := hid (HS.out.keep bx); have K4 := hid (K4.out.keep bx); have K10 := hid (K10.out.keep bx)
  generalize w3a.heap.size = g12 at k1 ⊢
  have K12 := hid k1
  clear bx k1 K
  unfold Held
  go_wp2_with (refine wpList_load_blk rfl 26 _ rfl g rfl 26 _ K4.out _ _ Tryd.underlying26 EL.out ?_)
  refine (cut_in_calls l lY P w3b hl h1 h2 hY).mono ?_
  rintro _ w4a ⟨rfl, bx⟩
  have B := hid (B.out.trans (bx.mono (Nat.le_of_lt K4.out.lt))); have G := hid (G.out.keep bx); have HS := hid (HS.out.keep bx); have K4 := hid (K4.out.keep bx); have K10 := hid (K10.out.keep bx); have K12 := hid (K12.out.keep bx)
  clear bx
  have K := hid (Blk.new w4a 26 (bcells (zeroB 32)))
  go_wp2_with ((refine wpList_store_blk rfl 26 _ _ rfl w4a.heap.size _ rfl rfl 26 _ K.out EY.out HsY.out (bcells_oneCell _) ?_); refine Held.go ?_)
  obtain ⟨bx, k1⟩ := new_set w4a 26 (bcells (zeroB 32)) (bcells (lY))
  generalize (w4a.alloc (.cells (bcells (zeroB 32)) 26)).setRow w4a.heap.size (bcells (lY)) = w4b at bx k1 ⊢
  have B := hid (B.out.trans (bx.mono (Nat.le_of_lt K4.out.lt))); have G := hid (G.out.keep bx); have HS := hid (HS.out.keep bx); have K4 := hid (K4.out.keep bx); have K10 := hid (K10.out.keep bx); have K12 := hid (K12.out.keep bx)
  generalize w4a.heap.size = g14 at k1 ⊢
  have K14 := hid k1
  clear bx k1 K
  unfold Held
  go_wp2_with fail
  refine (of_in_calls _ n c A bs lU P w4b HS.out hc G.out (by omega) h1 h2 hU).mono ?_
  rintro _ w5a ⟨rfl, bx⟩
  have B := hid (B.out.trans (bx.mono (Nat.le_of_lt K4.out.lt))); have G := hid (G.out.keep bx); have HS := hid (HS.out.keep bx); have K4 := hid (K4.out.keep bx); have K10 := hid (K10.out.keep bx); have K12 := hid (K12.out.keep bx); have K14 := hid (K14.out.keep bx)
  clear bx
  have K := hid (Blk.new w5a 26 (bcells (zeroB 32)))
  go_wp2_with ((refine wpList_store_blk rfl 26 _ _ rfl w5a.heap.size _ rfl rfl 26 _ K.out EU.out HsU.out (bcells_oneCell _) ?_); refine Held.go ?_)
  obtain ⟨bx, k1⟩ := new_set w5a 26 (bcells (zeroB 32)) (bcells (lU))
  generalize (w5a.alloc (.cells (bcells (zeroB 32)) 26)).setRow w5a.heap.size (bcells (lU)) = w5b at bx k1 ⊢
  have B := hid (B.out.trans (bx.mono (Nat.le_of_lt K4.out.lt))); have G := hid (G.out.keep bx); have HS := hid (HS.out.keep bx); have K4 := hid (K4.out.keep bx); have K10 := hid (K10.out.keep bx); have K12 := hid (K12.out.keep bx); have K14 := hid (K14.out.keep bx)
  generalize w5a.heap.size = g16 at k1 ⊢
  have K16 := hid k1
  clear bx k1 K
  unfold Held
  go_wp2_with fail
  refine (sum_calls _ n c A bs w5b HS.out hc G.out (by omega)).mono ?_
  rintro _ w6 ⟨rfl, bx⟩
  have B := hid (B.out.trans (bx.mono (Nat.le_of_lt K4.out.lt))); have G := hid (G.out.keep bx); have HS := hid (HS.out.keep bx); have K4 := hid (K4.out.keep bx); have K10 := hid (K10.out.keep bx); have K12 := hid (K12.out.keep bx); have K14 := hid (K14.out.keep bx); have K16 := hid (K16.out.keep bx)
  clear bx
  go_wp2_with fail
  refine (cut_in_calls (sha bs) lU P w6 (sha_length bs) h1 h2 hU).mono ?_
  rintro _ w7a ⟨rfl, bx⟩
  have B := hid (B.out.trans (bx.mono (Nat.le_of_lt K4.out.lt))); have G := hid (G.out.keep bx); have HS := hid (HS.out.keep bx); have K4 := hid (K4.out.keep bx); have K10 := hid (K10.out.keep bx); have K12 := hid (K12.out.keep bx); have K14 := hid (K14.out.keep bx); have K16 := hid (K16.out.keep bx)
  clear bx
  have K := hid (Blk.new w7a 26 (bcells (zeroB 32)))
  go_wp2_with ((refine wpList_store_blk rfl 26 _ _ rfl w7a.heap.size _ rfl rfl 26 _ K.out EU.out HsU.out (bcells_oneCell _) ?_); refine Held.go ?_)
  obtain ⟨bx, k1⟩ := new_set w7a 26 (bcells (zeroB 32)) (bcells (lU))
  generalize (w7a.alloc (.cells (bcells (zeroB 32)) 26)).setRow w7a.heap.size (bcells (lU)) = w7b at bx k1 ⊢
  have B := hid (B.out.trans (bx.mono (Nat.le_of_lt K4.out.lt))); have G := hid (G.out.keep bx); have HS := hid (HS.out.keep bx); have K4 := hid (K4.out.keep bx); have K10 := hid (K10.out.keep bx); have K12 := hid (K12.out.keep bx); have K14 := hid (K14.out.keep bx); have K16 := hid (K16.out.keep bx)
  generalize w7a.heap.size = g18 at k1 ⊢
  have K18 := hid k1
  clear bx k1 K
  unfold Held
  have heq1 := HE1.out; have heq2 := HE2.out
  try dsimp only
  repeat (first | ((with_reducible refine wpList_load_blk_g ?_ 26 (.tmp 12) ?_ g12 ?_ 26 _ K12.out _ _ Tryd.underlying26 EY.out ?_); exact rfl; exact rfl; exact rfl) | ((with_reducible refine wpList_load_blk_g ?_ 26 (.tmp 14) ?_ g14 ?_ 26 _ K14.out _ _ Tryd.underlying26 EY.out ?_); exact rfl; exact rfl; exact rfl) | ((with_reducible refine wpList_load_blk_g ?_ 26 (.tmp 16) ?_ g16 ?_ 26 _ K16.out _ _ Tryd.underlying26 EU.out ?_); exact rfl; exact rfl; exact rfl) | ((with_reducible refine wpList_load_blk_g ?_ 26 (.tmp 18) ?_ g18 ?_ 26 _ K18.out _ _ Tryd.underlying26 EU.out ?_); exact rfl; exact rfl; exact rfl) | go_values | go_guarded | go_step | go_upon | go_back)
  clear heq1 heq2
  clear hz
  go_wp2_with fail
  generalize (lX == l) = bq at HE3 hhas
  refine wp_region_class (fun w' => Below g w w' ∧ Glob w' ∧ Blk w' g _ _ ∧ Blk w' g10 _ _ ∧ Blk w' g12 _ _ ∧ Blk w' g16 _ _) (by kernel_rfl) (by kernel_rfl) ⟨B.out.drew, G.out, K4.out.drew, K10.out.drew, K12.out.drew, K16.out.drew⟩ ?_
  intro S _ at_ hS hin
  have keep : ∀ (v : Value) (f : FuncId) (args : Array Value) (z : S), (Calls Tryd.prog f args (at_ z) fun e w' => e = .returned v ∧ Below (at_ z).heap.size (at_ z) w') → Calls Tryd.prog f args (at_ z) fun e w' => e = .returned v ∧ ∃ y, w' = at_ y := by
    intro v f args z h
    obtain ⟨B, G, K4, K10, K12, K16⟩ := hS z
    exact h.mono fun e w' ⟨he, bx⟩ => ⟨he, hin _ ⟨B.trans (bx.mono (Nat.le_of_lt K4.lt)), G.keep bx, K4.keep bx, K10.keep bx, K12.keep bx, K16.keep bx⟩⟩
  have Hkeep := hid keep; have HhS := hid hS; have Hin := hid hin
  clear keep hS hin
  repeat (refine wpQuiet_step (fun K hK => ?_); go_simp; refine hK _ ?_; clear hK K)
  (refine wpQuiet_step (fun K hK => ?_); (refine quiet_loadK rfl _ _ rfl g10 rfl _ _ (fun z => (HhS.out z).2.2.2.1) _ _ Tryd.underlying26 EX.out ?_); go_simp; refine hK _ ?_; clear hK K)
  repeat (refine wpQuiet_step (fun K hK => ?_); go_simp; refine hK _ ?_; clear hK K)
  (refine wpQuiet_step (fun K hK => ?_); (refine quiet_callK rfl 21 #[.agg (bcells lX), .int .i64 P] (fun w => by go_simp <;> omega) _ (fun z => Hkeep.out _ _ _ z (has_true lX P _ lX32 h1 h2 cXP)) ?_); go_simp; refine hK _ ?_; clear hK K)
  repeat (refine wpQuiet_step (fun K hK => ?_); go_simp; refine hK _ ?_; clear hK K)
  (refine wpQuiet_step (fun K hK => ?_); (refine quiet_loadK rfl _ _ rfl g10 rfl _ _ (fun z => (HhS.out z).2.2.2.1) _ _ Tryd.underlying26 EX.out ?_); go_simp; refine hK _ ?_; clear hK K)
  repeat (refine wpQuiet_step (fun K hK => ?_); go_simp; refine hK _ ?_; clear hK K)
  (refine wpQuiet_step (fun K hK => ?_); (refine quiet_callK rfl 21 #[.agg (bcells lX), .int .i64 Q] (fun w => by go_simp <;> omega) _ (fun z => Hkeep.out _ _ _ z (has_true lX Q _ lX32 h3 h4 cXM)) ?_); go_simp; refine hK _ ?_; clear hK K)
  repeat (refine wpQuiet_step (fun K hK => ?_); go_simp; refine hK _ ?_; clear hK K)
  (refine wpQuiet_step (fun K hK => ?_); (refine quiet_loadK rfl _ _ rfl g12 rfl _ _ (fun z => (HhS.out z).2.2.2.2.1) _ _ Tryd.underlying26 EY.out ?_); go_simp; refine hK _ ?_; clear hK K)
  repeat (refine wpQuiet_step (fun K hK => ?_); go_simp; refine hK _ ?_; clear hK K)
  (refine wpQuiet_step (fun K hK => ?_); (refine quiet_callK rfl 21 #[.agg (bcells lY), .int .i64 P] (fun w => by go_simp <;> omega) _ (fun z => Hkeep.out _ _ _ z (has_true lY P _ lY32 h1 h2 cYR)) ?_); go_simp; refine hK _ ?_; clear hK K)
  repeat (refine wpQuiet_step (fun K hK => ?_); go_simp; refine hK _ ?_; clear hK K)
  (refine wpQuiet_step (fun K hK => ?_); (refine quiet_loadK rfl _ _ rfl g rfl _ _ (fun z => (HhS.out z).2.2.1) _ _ Tryd.underlying26 EL.out ?_); go_simp; refine hK _ ?_; clear hK K)
  repeat (refine wpQuiet_step (fun K hK => ?_); go_simp; refine hK _ ?_; clear hK K)
  (refine wpQuiet_step (fun K hK => ?_); (refine quiet_callK rfl 21 #[.agg (bcells l), .int .i64 32] (fun w => by go_simp <;> omega) _ (fun z => Hkeep.out _ _ _ z (has_true l 32 _ hl (by omega) (by omega) (cut_whole l hl))) ?_); go_simp; refine hK _ ?_; clear hK K)
  repeat (refine wpQuiet_step (fun K hK => ?_); go_simp; refine hK _ ?_; clear hK K)
  (refine wpQuiet_step (fun K hK => ?_); (refine quiet_loadK rfl _ _ rfl g rfl _ _ (fun z => (HhS.out z).2.2.1) _ _ Tryd.underlying26 EL.out ?_); go_simp; refine hK _ ?_; clear hK K)
  repeat (refine wpQuiet_step (fun K hK => ?_); go_simp; refine hK _ ?_; clear hK K)
  (refine wpQuiet_step (fun K hK => ?_); (refine quiet_callK rfl 21 #[.agg (bcells l), .int .i64 P] (fun w => by go_simp <;> omega) _ (fun z => Hkeep.out _ _ _ z ((hhas ▸ own_has_calls l P _ hl : Calls _ _ _ _ fun e w' => e = .returned (.bool bq) ∧ _))) ?_); go_simp; refine hK _ ?_; clear hK K)
  (refine wpQuiet_step (fun K hK => ?_); (refine quiet_loadK rfl _ _ rfl g10 rfl _ _ (fun z => (HhS.out z).2.2.2.1) _ _ Tryd.underlying26 EX.out ?_); go_simp; refine hK _ ?_; clear hK K)
  (refine wpQuiet_step (fun K hK => ?_); (refine quiet_loadK rfl _ _ rfl g rfl _ _ (fun z => (HhS.out z).2.2.1) _ _ Tryd.underlying26 EL.out ?_); go_simp; refine hK _ ?_; clear hK K)
  have heq3 := HE3.out
  repeat (refine wpQuiet_step (fun K hK => ?_); go_simp; refine hK _ ?_; clear hK K)
  clear heq3
  (refine wpQuiet_step (fun K hK => ?_); (refine quiet_loadK rfl _ _ rfl g16 rfl _ _ (fun z => (HhS.out z).2.2.2.2.2) _ _ Tryd.underlying26 EU.out ?_); go_simp; refine hK _ ?_; clear hK K)
  repeat (refine wpQuiet_step (fun K hK => ?_); go_simp; refine hK _ ?_; clear hK K)
  (refine wpQuiet_step (fun K hK => ?_); (refine quiet_callK rfl 21 #[.agg (bcells lU), .int .i64 P] (fun w => by go_simp <;> omega) _ (fun z => Hkeep.out _ _ _ z (has_true lU P _ lU32 h1 h2 cUP)) ?_); go_simp; refine hK _ ?_; clear hK K)
  repeat (refine wpQuiet_step (fun K hK => ?_); go_simp; refine hK _ ?_; clear hK K)
  refine wpQuiet_nil ?_
  clear HhS Hin Hkeep
  rintro w9 ⟨b, -⟩
  go_wp2_with fail
  all_goals (go_ret; exact ⟨rfl, by rw [HG.out]; exact b⟩)

set_option maxHeartbeats 8000000 in
set_option maxRecDepth 100000 in
theorem cuts_gt (l bs lX lY lU : List UInt8) (P Q a1 a2 : Int) (b0 n c : Nat) (A : Option Addr) (w : World) (hl : l.length = 32) (hs : SB w b0 A n bs) (hc : n ≤ c) (hn : n ≤ 300) (hG : Glob w)
    (hP : 1 + a1 % 32 = P) (hQ : 1 + a2 % 32 = Q) (h1 : 1 ≤ P) (h2 : P ≤ 32) (h3 : 1 ≤ Q) (h4 : Q ≤ 32) (hpq : Q < P) (hX : cutB l P = lX) (hY : cutB l Q = lY) (hU : cutB (sha bs) P = lU) :
    Calls Tryd.prog 9 #[.agg (bcells l), .int .i64 a1, .int .i64 a2, .slice A n c] w fun e w' => e = .returned (.bool true) ∧ Below w.heap.size w w' := by
  have hz := (zero_of_info info26).1
  have hn' : ¬ (300 : Int) < (n : Int) := by omega
  have hw1 : IntKind.i64.wrap (1 + a1 % 32) = P := by rw [hP]; exact IntWalk.i64_in _ (by omega)
  have hw2 : IntKind.i64.wrap (1 + a2 % 32) = Q := by rw [hQ]; exact IntWalk.i64_in _ (by omega)
  have hmn : min P Q = Q := by omega
  have hmx : max P Q = P := by omega
  have hnot : ¬ P ≤ Q := by omega
  have lX32 : lX.length = 32 := by rw [← hX]; exact cutB_length l P hl
  have lY32 : lY.length = 32 := by rw [← hY]; exact cutB_length l Q hl
  have lU32 : lU.length = 32 := by rw [← hU]; exact cutB_length _ P (sha_length bs)
  have cXQ : cutB lX Q = lY := by rw [← hX, cut_cut l P Q Q hl h1 h2 h3 h4 (by omega), hY]
  have cXP : cutB lX P = lX := by rw [← hX, cut_cut l P P P hl h1 h2 h1 h2 (by omega)]
  have cXM : cutB lX P = lX := by rw [← hX, cut_cut l P P P hl h1 h2 h1 h2 (by omega)]
  have cYR : cutB lY Q = lY := by rw [← hY, cut_cut l Q Q Q hl h3 h4 h3 h4 (by omega)]
  have cUP : cutB lU P = lU := by rw [← hU, cut_cut _ P P P (sha_length bs) h1 h2 h1 h2 (by omega)]
  have hhas : hasB l P = (lX == l) := by rw [has_in h1 h2, hX]
  have szs : ∀ y : List UInt8, y.length = 32 → (Tryd.prog.info? 26).map (·.size) = some (bcells y).size := fun y hy => by rw [bcells_size, hy]; exact (zero_of_info info26).2
  have szz : ∀ y : List UInt8, y.length = 32 → (bcells (zeroB 32)).size = (bcells y).size := fun y hy => by rw [bcells_size, bcells_size, hy]; rfl
  have EL := hid (szs _ hl); have EX := hid (szs _ lX32); have EY := hid (szs _ lY32); have EU := hid (szs _ lU32)
  have HsX := hid (szz _ lX32); have HsY := hid (szz _ lY32); have HsU := hid (szz _ lU32)
  have eqs : ∀ y z : List UInt8, y.length = 32 → z.length = 32 → ∀ W, (Op.equalIn 10000 26 (.agg (bcells y)) (.agg (bcells z))).run Tryd.prog W = .ok (y == z) W := fun y z hy hz W =>
    run_equal_arr (P := Tryd.prog) 26 5 32 Tryd.underlying26 Tryd.underlying5 (by kernel_rfl) y z hy hz W
  have eqt : ∀ y : List UInt8, y.length = 32 → ∀ W, (Op.equalIn 10000 26 (.agg (bcells y)) (.agg (bcells y))).run Tryd.prog W = .ok true W := fun y hy W => by
    have := eqs y y hy hy W
    rw [beq_self_eq_true] at this; exact this
  have HE1 := hid (eqt _ lY32); have HE2 := hid (eqt _ lU32); have HE3 := hid (eqs _ _ lX32 hl)
  clear eqs eqt szs szz hP hQ
  have k0 := Blk.new w 26 (bcells l)
  have b1 := below_new w (.cells (bcells l) 26)
  have K4 := hid k0; have B := hid b1; have G := hid (hG.keep b1); have HS := hid (hs.keep b1); clear k0 b1 hG hs
  go_enter Tryd.func9, Tryd.ntmps9
  go_wp2_with fail
  generalize w.alloc (.cells (bcells l) 26) = wA at K4 B G HS ⊢
  generalize hg : w.heap.size = g at K4 B ⊢
  have HG := hid hg; clear hg
  refine (known_calls wA G.out).mono ?_
  rintro _ w1 ⟨rfl, bx⟩
  have B := hid (B.out.trans (bx.mono (Nat.le_of_lt K4.out.lt))); have G := hid (G.out.keep bx); have HS := hid (HS.out.keep bx); have K4 := hid (K4.out.keep bx)
  clear bx
  go_wp2_with fail
  refine (pick_calls a1 32 w1 (by omega) (by omega)).mono ?_
  rintro _ _ ⟨rfl, rfl⟩
  go_wp2_with fail
  refine (pick_calls a2 32 w1 (by omega) (by omega)).mono ?_
  rintro _ _ ⟨rfl, rfl⟩
  go_wp2_with (refine wpList_load_blk rfl 26 _ rfl g rfl 26 _ K4.out _ _ Tryd.underlying26 EL.out ?_)
  refine (cut_in_calls l lX P w1 hl h1 h2 hX).mono ?_
  rintro _ w2a ⟨rfl, bx⟩
  have B := hid (B.out.trans (bx.mono (Nat.le_of_lt K4.out.lt))); have G := hid (G.out.keep bx); have HS := hid (HS.out.keep bx); have K4 := hid (K4.out.keep bx)
  clear bx
  have K := hid (Blk.new w2a 26 (bcells (zeroB 32)))
  go_wp2_with ((refine wpList_store_blk rfl 26 _ _ rfl w2a.heap.size _ rfl rfl 26 _ K.out EX.out HsX.out (bcells_oneCell _) ?_); refine Held.go ?_)
  obtain ⟨bx, k1⟩ := new_set w2a 26 (bcells (zeroB 32)) (bcells (lX))
  generalize (w2a.alloc (.cells (bcells (zeroB 32)) 26)).setRow w2a.heap.size (bcells (lX)) = w2b at bx k1 ⊢
  have B := hid (B.out.trans (bx.mono (Nat.le_of_lt K4.out.lt))); have G := hid (G.out.keep bx); have HS := hid (HS.out.keep bx); have K4 := hid (K4.out.keep bx)
  generalize w2a.heap.size = g10 at k1 ⊢
  have K10 := hid k1
  clear bx k1 K
  unfold Held
  go_wp2_with (refine wpList_load_blk rfl 26 _ rfl g10 rfl 26 _ K10.out _ _ Tryd.underlying26 EX.out ?_)
  refine (cut_in_calls lX lY Q w2b lX32 h3 h4 cXQ).mono ?_
  rintro _ w3a ⟨rfl, bx⟩
  have B := hid (B.out.trans (bx.mono (Nat.le_of_lt K4.out.lt))); have G := hid (G.out.keep bx); have HS := hid (HS.out.keep bx); have K4 := hid (K4.out.keep bx); have K10 := hid (K10.out.keep bx)
  clear bx
  have K := hid (Blk.new w3a 26 (bcells (zeroB 32)))
  go_wp2_with ((refine wpList_store_blk rfl 26 _ _ rfl w3a.heap.size _ rfl rfl 26 _ K.out EY.out HsY.out (bcells_oneCell _) ?_); refine Held.go ?_)
  obtain ⟨bx, k1⟩ := new_set w3a 26 (bcells (zeroB 32)) (bcells (lY))
  generalize (w3a.alloc (.cells (bcells (zeroB 32)) 26)).setRow w3a.heap.size (bcells (lY)) = w3b at bx k1 ⊢
  have B := hid (B.out.trans (bx.mono (Nat.le_of_lt K4.out.lt))); have G := hid (G.out.keep bx); have HS := hid (HS.out.keep bx); have K4 := hid (K4.out.keep bx); have K10 := hid (K10.out.keep bx)
  generalize w3a.heap.size = g12 at k1 ⊢
  have K12 := hid k1
  clear bx k1 K
  unfold Held
  go_wp2_with (refine wpList_load_blk rfl 26 _ rfl g rfl 26 _ K4.out _ _ Tryd.underlying26 EL.out ?_)
  refine (cut_in_calls l lY Q w3b hl h3 h4 hY).mono ?_
  rintro _ w4a ⟨rfl, bx⟩
  have B := hid (B.out.trans (bx.mono (Nat.le_of_lt K4.out.lt))); have G := hid (G.out.keep bx); have HS := hid (HS.out.keep bx); have K4 := hid (K4.out.keep bx); have K10 := hid (K10.out.keep bx); have K12 := hid (K12.out.keep bx)
  clear bx
  have K := hid (Blk.new w4a 26 (bcells (zeroB 32)))
  go_wp2_with ((refine wpList_store_blk rfl 26 _ _ rfl w4a.heap.size _ rfl rfl 26 _ K.out EY.out HsY.out (bcells_oneCell _) ?_); refine Held.go ?_)
  obtain ⟨bx, k1⟩ := new_set w4a 26 (bcells (zeroB 32)) (bcells (lY))
  generalize (w4a.alloc (.cells (bcells (zeroB 32)) 26)).setRow w4a.heap.size (bcells (lY)) = w4b at bx k1 ⊢
  have B := hid (B.out.trans (bx.mono (Nat.le_of_lt K4.out.lt))); have G := hid (G.out.keep bx); have HS := hid (HS.out.keep bx); have K4 := hid (K4.out.keep bx); have K10 := hid (K10.out.keep bx); have K12 := hid (K12.out.keep bx)
  generalize w4a.heap.size = g14 at k1 ⊢
  have K14 := hid k1
  clear bx k1 K
  unfold Held
  go_wp2_with fail
  refine (of_in_calls _ n c A bs lU P w4b HS.out hc G.out (by omega) h1 h2 hU).mono ?_
  rintro _ w5a ⟨rfl, bx⟩
  have B := hid (B.out.trans (bx.mono (Nat.le_of_lt K4.out.lt))); have G := hid (G.out.keep bx); have HS := hid (HS.out.keep bx); have K4 := hid (K4.out.keep bx); have K10 := hid (K10.out.keep bx); have K12 := hid (K12.out.keep bx); have K14 := hid (K14.out.keep bx)
  clear bx
  have K := hid (Blk.new w5a 26 (bcells (zeroB 32)))
  go_wp2_with ((refine wpList_store_blk rfl 26 _ _ rfl w5a.heap.size _ rfl rfl 26 _ K.out EU.out HsU.out (bcells_oneCell _) ?_); refine Held.go ?_)
  obtain ⟨bx, k1⟩ := new_set w5a 26 (bcells (zeroB 32)) (bcells (lU))
  generalize (w5a.alloc (.cells (bcells (zeroB 32)) 26)).setRow w5a.heap.size (bcells (lU)) = w5b at bx k1 ⊢
  have B := hid (B.out.trans (bx.mono (Nat.le_of_lt K4.out.lt))); have G := hid (G.out.keep bx); have HS := hid (HS.out.keep bx); have K4 := hid (K4.out.keep bx); have K10 := hid (K10.out.keep bx); have K12 := hid (K12.out.keep bx); have K14 := hid (K14.out.keep bx)
  generalize w5a.heap.size = g16 at k1 ⊢
  have K16 := hid k1
  clear bx k1 K
  unfold Held
  go_wp2_with fail
  refine (sum_calls _ n c A bs w5b HS.out hc G.out (by omega)).mono ?_
  rintro _ w6 ⟨rfl, bx⟩
  have B := hid (B.out.trans (bx.mono (Nat.le_of_lt K4.out.lt))); have G := hid (G.out.keep bx); have HS := hid (HS.out.keep bx); have K4 := hid (K4.out.keep bx); have K10 := hid (K10.out.keep bx); have K12 := hid (K12.out.keep bx); have K14 := hid (K14.out.keep bx); have K16 := hid (K16.out.keep bx)
  clear bx
  go_wp2_with fail
  refine (cut_in_calls (sha bs) lU P w6 (sha_length bs) h1 h2 hU).mono ?_
  rintro _ w7a ⟨rfl, bx⟩
  have B := hid (B.out.trans (bx.mono (Nat.le_of_lt K4.out.lt))); have G := hid (G.out.keep bx); have HS := hid (HS.out.keep bx); have K4 := hid (K4.out.keep bx); have K10 := hid (K10.out.keep bx); have K12 := hid (K12.out.keep bx); have K14 := hid (K14.out.keep bx); have K16 := hid (K16.out.keep bx)
  clear bx
  have K := hid (Blk.new w7a 26 (bcells (zeroB 32)))
  go_wp2_with ((refine wpList_store_blk rfl 26 _ _ rfl w7a.heap.size _ rfl rfl 26 _ K.out EU.out HsU.out (bcells_oneCell _) ?_); refine Held.go ?_)
  obtain ⟨bx, k1⟩ := new_set w7a 26 (bcells (zeroB 32)) (bcells (lU))
  generalize (w7a.alloc (.cells (bcells (zeroB 32)) 26)).setRow w7a.heap.size (bcells (lU)) = w7b at bx k1 ⊢
  have B := hid (B.out.trans (bx.mono (Nat.le_of_lt K4.out.lt))); have G := hid (G.out.keep bx); have HS := hid (HS.out.keep bx); have K4 := hid (K4.out.keep bx); have K10 := hid (K10.out.keep bx); have K12 := hid (K12.out.keep bx); have K14 := hid (K14.out.keep bx); have K16 := hid (K16.out.keep bx)
  generalize w7a.heap.size = g18 at k1 ⊢
  have K18 := hid k1
  clear bx k1 K
  unfold Held
  have heq1 := HE1.out; have heq2 := HE2.out
  try dsimp only
  repeat (first | ((with_reducible refine wpList_load_blk_g ?_ 26 (.tmp 12) ?_ g12 ?_ 26 _ K12.out _ _ Tryd.underlying26 EY.out ?_); exact rfl; exact rfl; exact rfl) | ((with_reducible refine wpList_load_blk_g ?_ 26 (.tmp 14) ?_ g14 ?_ 26 _ K14.out _ _ Tryd.underlying26 EY.out ?_); exact rfl; exact rfl; exact rfl) | ((with_reducible refine wpList_load_blk_g ?_ 26 (.tmp 16) ?_ g16 ?_ 26 _ K16.out _ _ Tryd.underlying26 EU.out ?_); exact rfl; exact rfl; exact rfl) | ((with_reducible refine wpList_load_blk_g ?_ 26 (.tmp 18) ?_ g18 ?_ 26 _ K18.out _ _ Tryd.underlying26 EU.out ?_); exact rfl; exact rfl; exact rfl) | go_values | go_guarded | go_step | go_upon | go_back)
  clear heq1 heq2
  clear hz
  go_wp2_with fail
  generalize (lX == l) = bq at HE3 hhas
  refine wp_region_class (fun w' => Below g w w' ∧ Glob w' ∧ Blk w' g _ _ ∧ Blk w' g10 _ _ ∧ Blk w' g12 _ _ ∧ Blk w' g16 _ _) (by kernel_rfl) (by kernel_rfl) ⟨B.out.drew, G.out, K4.out.drew, K10.out.drew, K12.out.drew, K16.out.drew⟩ ?_
  intro S _ at_ hS hin
  have keep : ∀ (v : Value) (f : FuncId) (args : Array Value) (z : S), (Calls Tryd.prog f args (at_ z) fun e w' => e = .returned v ∧ Below (at_ z).heap.size (at_ z) w') → Calls Tryd.prog f args (at_ z) fun e w' => e = .returned v ∧ ∃ y, w' = at_ y := by
    intro v f args z h
    obtain ⟨B, G, K4, K10, K12, K16⟩ := hS z
    exact h.mono fun e w' ⟨he, bx⟩ => ⟨he, hin _ ⟨B.trans (bx.mono (Nat.le_of_lt K4.lt)), G.keep bx, K4.keep bx, K10.keep bx, K12.keep bx, K16.keep bx⟩⟩
  have Hkeep := hid keep; have HhS := hid hS; have Hin := hid hin
  clear keep hS hin
  repeat (refine wpQuiet_step (fun K hK => ?_); go_simp; refine hK _ ?_; clear hK K)
  (refine wpQuiet_step (fun K hK => ?_); (refine quiet_loadK rfl _ _ rfl g10 rfl _ _ (fun z => (HhS.out z).2.2.2.1) _ _ Tryd.underlying26 EX.out ?_); go_simp; refine hK _ ?_; clear hK K)
  repeat (refine wpQuiet_step (fun K hK => ?_); go_simp; refine hK _ ?_; clear hK K)
  (refine wpQuiet_step (fun K hK => ?_); (refine quiet_callK rfl 21 #[.agg (bcells lX), .int .i64 P] (fun w => by go_simp <;> omega) _ (fun z => Hkeep.out _ _ _ z (has_true lX P _ lX32 h1 h2 cXP)) ?_); go_simp; refine hK _ ?_; clear hK K)
  repeat (refine wpQuiet_step (fun K hK => ?_); go_simp; refine hK _ ?_; clear hK K)
  (refine wpQuiet_step (fun K hK => ?_); (refine quiet_loadK rfl _ _ rfl g10 rfl _ _ (fun z => (HhS.out z).2.2.2.1) _ _ Tryd.underlying26 EX.out ?_); go_simp; refine hK _ ?_; clear hK K)
  repeat (refine wpQuiet_step (fun K hK => ?_); go_simp; refine hK _ ?_; clear hK K)
  (refine wpQuiet_step (fun K hK => ?_); (refine quiet_callK rfl 21 #[.agg (bcells lX), .int .i64 P] (fun w => by go_simp <;> omega) _ (fun z => Hkeep.out _ _ _ z (has_true lX P _ lX32 h1 h2 cXM)) ?_); go_simp; refine hK _ ?_; clear hK K)
  repeat (refine wpQuiet_step (fun K hK => ?_); go_simp; refine hK _ ?_; clear hK K)
  (refine wpQuiet_step (fun K hK => ?_); (refine quiet_loadK rfl _ _ rfl g12 rfl _ _ (fun z => (HhS.out z).2.2.2.2.1) _ _ Tryd.underlying26 EY.out ?_); go_simp; refine hK _ ?_; clear hK K)
  repeat (refine wpQuiet_step (fun K hK => ?_); go_simp; refine hK _ ?_; clear hK K)
  (refine wpQuiet_step (fun K hK => ?_); (refine quiet_callK rfl 21 #[.agg (bcells lY), .int .i64 Q] (fun w => by go_simp <;> omega) _ (fun z => Hkeep.out _ _ _ z (has_true lY Q _ lY32 h3 h4 cYR)) ?_); go_simp; refine hK _ ?_; clear hK K)
  repeat (refine wpQuiet_step (fun K hK => ?_); go_simp; refine hK _ ?_; clear hK K)
  (refine wpQuiet_step (fun K hK => ?_); (refine quiet_loadK rfl _ _ rfl g rfl _ _ (fun z => (HhS.out z).2.2.1) _ _ Tryd.underlying26 EL.out ?_); go_simp; refine hK _ ?_; clear hK K)
  repeat (refine wpQuiet_step (fun K hK => ?_); go_simp; refine hK _ ?_; clear hK K)
  (refine wpQuiet_step (fun K hK => ?_); (refine quiet_callK rfl 21 #[.agg (bcells l), .int .i64 32] (fun w => by go_simp <;> omega) _ (fun z => Hkeep.out _ _ _ z (has_true l 32 _ hl (by omega) (by omega) (cut_whole l hl))) ?_); go_simp; refine hK _ ?_; clear hK K)
  repeat (refine wpQuiet_step (fun K hK => ?_); go_simp; refine hK _ ?_; clear hK K)
  (refine wpQuiet_step (fun K hK => ?_); (refine quiet_loadK rfl _ _ rfl g rfl _ _ (fun z => (HhS.out z).2.2.1) _ _ Tryd.underlying26 EL.out ?_); go_simp; refine hK _ ?_; clear hK K)
  repeat (refine wpQuiet_step (fun K hK => ?_); go_simp; refine hK _ ?_; clear hK K)
  (refine wpQuiet_step (fun K hK => ?_); (refine quiet_callK rfl 21 #[.agg (bcells l), .int .i64 P] (fun w => by go_simp <;> omega) _ (fun z => Hkeep.out _ _ _ z ((hhas ▸ own_has_calls l P _ hl : Calls _ _ _ _ fun e w' => e = .returned (.bool bq) ∧ _))) ?_); go_simp; refine hK _ ?_; clear hK K)
  (refine wpQuiet_step (fun K hK => ?_); (refine quiet_loadK rfl _ _ rfl g10 rfl _ _ (fun z => (HhS.out z).2.2.2.1) _ _ Tryd.underlying26 EX.out ?_); go_simp; refine hK _ ?_; clear hK K)
  (refine wpQuiet_step (fun K hK => ?_); (refine quiet_loadK rfl _ _ rfl g rfl _ _ (fun z => (HhS.out z).2.2.1) _ _ Tryd.underlying26 EL.out ?_); go_simp; refine hK _ ?_; clear hK K)
  have heq3 := HE3.out
  repeat (refine wpQuiet_step (fun K hK => ?_); go_simp; refine hK _ ?_; clear hK K)
  clear heq3
  (refine wpQuiet_step (fun K hK => ?_); (refine quiet_loadK rfl _ _ rfl g16 rfl _ _ (fun z => (HhS.out z).2.2.2.2.2) _ _ Tryd.underlying26 EU.out ?_); go_simp; refine hK _ ?_; clear hK K)
  repeat (refine wpQuiet_step (fun K hK => ?_); go_simp; refine hK _ ?_; clear hK K)
  (refine wpQuiet_step (fun K hK => ?_); (refine quiet_callK rfl 21 #[.agg (bcells lU), .int .i64 P] (fun w => by go_simp <;> omega) _ (fun z => Hkeep.out _ _ _ z (has_true lU P _ lU32 h1 h2 cUP)) ?_); go_simp; refine hK _ ?_; clear hK K)
  repeat (refine wpQuiet_step (fun K hK => ?_); go_simp; refine hK _ ?_; clear hK K)
  refine wpQuiet_nil ?_
  clear HhS Hin Hkeep
  rintro w9 ⟨b, -⟩
  go_wp2_with fail
  all_goals (go_ret; exact ⟨rfl, by rw [HG.out]; exact b⟩)

theorem cuts_calls (l bs : List UInt8) (a1 a2 : Int) (b0 n c : Nat) (A : Option Addr) (w : World) (hl : l.length = 32) (hs : SB w b0 A n bs) (hc : n ≤ c) (hG : Glob w) :
    Calls Tryd.prog 9 #[.agg (bcells l), .int .i64 a1, .int .i64 a2, .slice A n c] w fun e w' => e = .returned (.bool true) ∧ Below w.heap.size w w' := by
  by_cases hn : 300 < n
  · exact cuts_long l a1 a2 n c A w hn hG
  · by_cases h : 1 + a1 % 32 ≤ 1 + a2 % 32
    · exact cuts_le l bs _ _ _ _ _ a1 a2 b0 n c A w hl hs hc (by omega) hG rfl rfl (by omega) (by omega) (by omega) (by omega) h rfl rfl rfl
    · exact cuts_gt l bs _ _ _ _ _ a1 a2 b0 n c A w hl hs hc (by omega) hG rfl rfl (by omega) (by omega) (by omega) (by omega) (by omega) rfl rfl rfl
end Go.Proofs.YtajojeajibonpaaDoor
