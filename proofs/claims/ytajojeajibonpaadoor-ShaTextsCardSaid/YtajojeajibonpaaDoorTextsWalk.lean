/- The walk of the law on texts. -/
import Derived.Test.YtajojeajibonpaaDoorTextOrder
import Derived.Test.YtajojeajibonpaaDoorOwnCmp
import Derived.Test.YtajojeajibonpaaDoorOwnRead
import Derived.Test.YtajojeajibonpaaDoorOwnText
import Derived.Test.YtajojeajibonpaaDoorNewSet
import Derived.Test.YtajojeajibonpaaDoorQuietC
import Derived.Test.YtajojeajibonpaaDoorShaKnown
namespace Go.Proofs.YtajojeajibonpaaDoor
open Go.RowKit Crc

theorem read_back (l : List UInt8) (w : World) (hl : l.length = 32) :
    Calls Tryd.prog 19 #[.string (strB (textB l))] w fun e w' => e = .returned (.tuple #[.agg (bcells l), .int .i64 0]) ∧ Below w.heap.size w w' := by
  have h := own_read_calls (textB l) w
  have h64 : (textB l).length = 64 := by rw [textB_length, hl]
  have e1 : readB (textB l) = l := by rw [readB, if_pos h64, read_text]; rfl
  have e2 : readE (textB l) = 0 := by rw [readE, if_pos h64, read_text]; rfl
  rwa [e1, e2] at h
theorem read_to (x : List UInt8) (w : World) (y : List UInt8) (e : Int) (hB : readB x = y) (hE : readE x = e) :
    Calls Tryd.prog 19 #[.string (strB x)] w fun r w' => r = .returned (.tuple #[.agg (bcells y), .int .i64 e]) ∧ Below w.heap.size w w' := by
  have h := own_read_calls x w
  rwa [hB, hE] at h
theorem read_cases (x : List UInt8) : (∃ y : List UInt8, y.length = 32 ∧ textB y = x ∧ readB x = y ∧ readE x = 0) ∨ (readB x = zeroB 32 ∧ readE x = 5) := by
  by_cases h : x.length = 64
  · rw [readB, readE, if_pos h, if_pos h]
    cases e : readP x with
    | none => exact .inr ⟨rfl, rfl⟩
    | some m =>
      have := text_read 32 x m (by omega) e
      exact .inl ⟨m, this.2, this.1, rfl, rfl⟩
  · rw [readB, readE, if_neg h, if_neg h]
    exact .inr ⟨rfl, rfl⟩

set_option maxHeartbeats 4000000 in
set_option maxRecDepth 100000 in
theorem texts_less_ok (l m x : List UInt8) (w : World) (hl : l.length = 32) (hm : m.length = 32) (hn : x.length ≤ 100) (hG : Glob w) (hk : cmpL l m = -1) (y : List UInt8) (lR : y.length = 32) (hT : textB y = x) (hB : readB x = y) (hE : readE x = 0) :
    Calls Tryd.prog 8 #[.agg (bcells l), .agg (bcells m), .string (strB x)] w fun e w' => e = .returned (.bool true) ∧ Below w.heap.size w w' := by
  have hz := (zero_of_info info26).1
  have hsz : (strB x).size = x.length := rfl
  have hs64 : (strB (textB l)).size = 64 := by
    have := textB_length l
    rw [hl] at this
    exact this
  have hn' : ¬ (100 : Int) < (x.length : Int) := by omega
  have hk2 : cmpL m l = 1 := by have := cmp_flip l m; omega
  have hlt0 : Op.bytesLess (strB (textB l)).toList (strB (textB m)).toList = true := by simp only [strB_toList]; rw [less_text l m (by omega), hk]; rfl
  have hlm : (l == m) = false := by rw [← cmp_zero l m (by omega), hk]; rfl
  have hle0 : ((strB (textB l)).toList == (strB (textB m)).toList) = false := by
    simp only [strB_toList]
    refine beq_eq_false_iff_ne.2 fun e => beq_eq_false_iff_ne.1 hlm (text_inj e)
  have hgt0 : ∀ W, (binOp .gtr 9 (.string (strB (textB l))) (.string (strB (textB m)))).run Tryd.prog W = .ok (.bool false) W := fun W => by
    show Sem.run _ (pure (Value.bool (!(Op.bytesLess (strB (textB l)).toList (strB (textB m)).toList || (strB (textB l)).toList == (strB (textB m)).toList)))) W = _
    rw [hlt0, hle0]; rfl
  have HLT := hid hlt0; have HGT := hid hgt0
  clear hlt0 hle0 hgt0
  have k0 := ((Blk.new w 26 (bcells l)).alloc (.cells (bcells m) 26))
  have k1 := (Blk.new (w.alloc (.cells (bcells l) 26)) 26 (bcells m))
  have b1 := (((Below.refl w.heap.size w).alloc (Nat.le_refl _) (.cells (bcells l) 26)).alloc (by rw [size_new]; omega) (.cells (bcells m) 26))
  rw [size_new] at k1
  have K3 := hid k0; have K4 := hid k1; have B := hid b1; have G := hid (hG.keep b1); clear k0 k1 b1 hG
  have szs : ∀ y : List UInt8, y.length = 32 → (Tryd.prog.info? 26).map (·.size) = some (bcells y).size := fun y hy => by rw [bcells_size, hy]; exact (zero_of_info info26).2
  have szz : ∀ y : List UInt8, y.length = 32 → (bcells (zeroB 32)).size = (bcells y).size := fun y hy => by rw [bcells_size, bcells_size, hy]; rfl

  have EL := hid (szs _ hl); have EM := hid (szs _ hm); have ER := hid (szs _ lR); have HsL := hid (szz _ hl); have HsR := hid (szz _ lR)
  have eqs : ∀ y z : List UInt8, y.length = 32 → z.length = 32 → ∀ W, (Op.equalIn 10000 26 (.agg (bcells y)) (.agg (bcells z))).run Tryd.prog W = .ok (y == z) W := fun y z hy hz W =>
    run_equal_arr (P := Tryd.prog) 26 5 32 Tryd.underlying26 Tryd.underlying5 (by kernel_rfl) y z hy hz W
  have e1 : ∀ W, (Op.equalIn 10000 26 (.agg (bcells l)) (.agg (bcells l))).run Tryd.prog W = .ok true W := fun W => by
    have := eqs l l hl hl W
    rw [beq_self_eq_true] at this; exact this
  have e2 : ∀ W, (Op.equalIn 10000 26 (.agg (bcells l)) (.agg (bcells m))).run Tryd.prog W = .ok false W := fun W => by
    have := eqs l m hl hm W
    rw [hlm] at this; exact this
  have e3 := eqs _ _ lR lR
  rw [beq_self_eq_true] at e3
  have HE3 := hid (e3 : ∀ W, (Op.equalIn 10000 26 (.agg (bcells y)) (.agg (bcells y))).run Tryd.prog W = .ok true W)
  have HE1 := hid e1; have HE2 := hid e2; have HEQ := hid eqs; have HLM := hid hlm
  clear e1 e2 e3 eqs szs szz hlm
  go_enter Tryd.func8, Tryd.ntmps8
  go_wp2_with fail
  generalize (w.alloc (.cells (bcells l) 26)).alloc (.cells (bcells m) 26) = wA at K3 K4 B G ⊢
  generalize hg : w.heap.size = g at K3 K4 B ⊢
  have HG := hid hg; clear hg
  refine (known_calls wA G.out).mono ?_
  rintro _ w1 ⟨rfl, bx⟩
  have B := hid (B.out.trans (bx.mono (Nat.le_of_lt K3.out.lt))); have G := hid (G.out.keep bx); have K3 := hid (K3.out.keep bx); have K4 := hid (K4.out.keep bx)
  clear bx
  go_wp2_with (refine wpList_load_blk rfl 26 _ rfl g rfl 26 _ K3.out _ _ Tryd.underlying26 EL.out ?_)
  refine (text_calls l hl w1).mono ?_
  rintro _ w2 ⟨rfl, bx⟩
  have B := hid (B.out.trans (bx.mono (Nat.le_of_lt K3.out.lt))); have G := hid (G.out.keep bx); have K3 := hid (K3.out.keep bx); have K4 := hid (K4.out.keep bx)
  clear bx
  go_wp2_with fail
  refine (read_back l w2 hl).mono ?_
  rintro _ w3a ⟨rfl, bx⟩
  have B := hid (B.out.trans (bx.mono (Nat.le_of_lt K3.out.lt))); have G := hid (G.out.keep bx); have K3 := hid (K3.out.keep bx); have K4 := hid (K4.out.keep bx)
  clear bx
  have K := hid (Blk.new w3a 26 (bcells (zeroB 32)))
  go_wp2_with ((refine wpList_store_blk rfl 26 _ _ rfl w3a.heap.size _ rfl rfl 26 _ K.out EL.out HsL.out (bcells_oneCell _) ?_); refine Held.go ?_)
  obtain ⟨bx, k1⟩ := new_set w3a 26 (bcells (zeroB 32)) (bcells (l))
  generalize (w3a.alloc (.cells (bcells (zeroB 32)) 26)).setRow w3a.heap.size (bcells (l)) = w3b at bx k1 ⊢
  have B := hid (B.out.trans (bx.mono (Nat.le_of_lt K3.out.lt))); have G := hid (G.out.keep bx); have K3 := hid (K3.out.keep bx); have K4 := hid (K4.out.keep bx)
  generalize w3a.heap.size = g8 at k1 ⊢
  have K8 := hid k1
  clear bx k1 K
  unfold Held
  have heq := HE1.out
  try dsimp only
  repeat (first | ((with_reducible refine wpList_load_blk_g ?_ 26 (.tmp 8) ?_ g8 ?_ 26 _ K8.out _ _ Tryd.underlying26 EL.out ?_); exact rfl; exact rfl; exact rfl) | ((with_reducible refine wpList_load_blk_g ?_ 26 (.tmp 3) ?_ g ?_ 26 _ K3.out _ _ Tryd.underlying26 EL.out ?_); exact rfl; exact rfl; exact rfl) | go_values | go_guarded | go_step | go_upon | go_back)
  clear heq
  refine (text_calls l hl _).mono ?_
  rintro _ w4 ⟨rfl, bx⟩
  have B := hid (B.out.trans (bx.mono (Nat.le_of_lt K3.out.lt))); have G := hid (G.out.keep bx); have K3 := hid (K3.out.keep bx); have K4 := hid (K4.out.keep bx); have K8 := hid (K8.out.keep bx)
  clear bx
  try dsimp only
  repeat (first | ((with_reducible refine wpList_load_blk_g ?_ 26 (.tmp 8) ?_ g8 ?_ 26 _ K8.out _ _ Tryd.underlying26 EL.out ?_); exact rfl; exact rfl; exact rfl) | ((with_reducible refine wpList_load_blk_g ?_ 26 (.tmp 3) ?_ g ?_ 26 _ K3.out _ _ Tryd.underlying26 EL.out ?_); exact rfl; exact rfl; exact rfl) | go_values | go_guarded | go_step | go_upon | go_back)
  go_wp2_with fail
  clear K8
  refine wp_region_class (fun w' => Below g w w' ∧ Glob w' ∧ Blk w' g _ _ ∧ Blk w' (g + 1) _ _) (by kernel_rfl) (by kernel_rfl) ⟨B.out.drew, G.out, K3.out.drew, K4.out.drew⟩ ?_
  intro S _ at_ hS hin
  have keep : ∀ (v : Value) (f : FuncId) (args : Array Value) (z : S), (Calls Tryd.prog f args (at_ z) fun e w' => e = .returned v ∧ Below (at_ z).heap.size (at_ z) w') → Calls Tryd.prog f args (at_ z) fun e w' => e = .returned v ∧ ∃ y, w' = at_ y := by
    intro v f args z h
    obtain ⟨B, G, K3, K4⟩ := hS z
    exact h.mono fun e w' ⟨he, bx⟩ => ⟨he, hin _ ⟨B.trans (bx.mono (Nat.le_of_lt K3.lt)), G.keep bx, K3.keep bx, K4.keep bx⟩⟩
  have Hkeep := hid keep; have HhS := hid hS; have Hin := hid hin
  clear keep hS hin
  (refine wpQuiet_step (fun K hK => ?_); (refine quiet_loadK rfl _ _ rfl g rfl _ _ (fun z => (HhS.out z).2.2.1) _ _ Tryd.underlying26 EL.out ?_); go_simp; refine hK _ ?_; clear hK K)
  (refine wpQuiet_step (fun K hK => ?_); (refine quiet_callK rfl 23 #[.agg (bcells l)] (fun w => by go_simp) _ (fun z => Hkeep.out _ _ _ z (text_calls l hl _)) ?_); go_simp; refine hK _ ?_; clear hK K)
  (refine wpQuiet_step (fun K hK => ?_); (refine quiet_loadK rfl _ _ rfl (g + 1) rfl _ _ (fun z => (HhS.out z).2.2.2) _ _ Tryd.underlying26 EM.out ?_); go_simp; refine hK _ ?_; clear hK K)
  (refine wpQuiet_step (fun K hK => ?_); (refine quiet_callK rfl 23 #[.agg (bcells m)] (fun w => by go_simp) _ (fun z => Hkeep.out _ _ _ z (text_calls m hm _)) ?_); go_simp; refine hK _ ?_; clear hK K)
  have hlt := HLT.out; have hgt := HGT.out
  repeat (refine wpQuiet_step (fun K hK => ?_); go_simp; refine hK _ ?_; clear hK K)
  clear hlt hgt
  refine wpQuiet_nil ?_
  clear HhS Hin Hkeep
  rintro w5 ⟨b, gg, k3, k4⟩
  have B := hid b; have G := hid gg; have K3 := hid k3; have K4 := hid k4
  clear b gg k3 k4
  go_wp2_with fail
  refine (read_to x _ y 0 hB hE).mono ?_
  rintro _ w7a ⟨rfl, bx⟩
  have B := hid (B.out.trans (bx.mono (Nat.le_of_lt K3.out.lt))); have G := hid (G.out.keep bx); have K3 := hid (K3.out.keep bx); have K4 := hid (K4.out.keep bx)
  clear bx
  have K := hid (Blk.new w7a 26 (bcells (zeroB 32)))
  go_wp2_with ((refine wpList_store_blk rfl 26 _ _ rfl w7a.heap.size _ rfl rfl 26 _ K.out ER.out HsR.out (bcells_oneCell _) ?_); refine Held.go ?_)
  obtain ⟨bx, k1⟩ := new_set w7a 26 (bcells (zeroB 32)) (bcells (y))
  generalize (w7a.alloc (.cells (bcells (zeroB 32)) 26)).setRow w7a.heap.size (bcells (y)) = w7b at bx k1 ⊢
  have B := hid (B.out.trans (bx.mono (Nat.le_of_lt K3.out.lt))); have G := hid (G.out.keep bx); have K3 := hid (K3.out.keep bx); have K4 := hid (K4.out.keep bx)
  generalize w7a.heap.size = g11 at k1 ⊢
  have K11 := hid k1
  clear bx k1 K
  unfold Held
  try dsimp only
  repeat (first | ((with_reducible refine wpList_load_blk_g ?_ 26 (.tmp 3) ?_ g ?_ 26 _ K3.out _ _ Tryd.underlying26 EL.out ?_); exact rfl; exact rfl; exact rfl) | ((with_reducible refine wpList_load_blk_g ?_ 26 (.tmp 4) ?_ (g + 1) ?_ 26 _ K4.out _ _ Tryd.underlying26 EM.out ?_); exact rfl; exact rfl; exact rfl) | ((with_reducible refine wpList_load_blk_g ?_ 26 (.tmp 11) ?_ g11 ?_ 26 _ K11.out _ _ Tryd.underlying26 ER.out ?_); exact rfl; exact rfl; exact rfl) | go_values | go_guarded | go_step | go_upon | go_back)
  refine (own_compare_calls l m _ hl hm).mono ?_
  rintro _ w8 ⟨rfl, bx⟩
  have B := hid (B.out.trans (bx.mono (Nat.le_of_lt K3.out.lt))); have G := hid (G.out.keep bx); have K3 := hid (K3.out.keep bx); have K4 := hid (K4.out.keep bx); have K11 := hid (K11.out.keep bx)
  clear bx
  rw [hk]
  try dsimp only
  repeat (first | ((with_reducible refine wpList_load_blk_g ?_ 26 (.tmp 3) ?_ g ?_ 26 _ K3.out _ _ Tryd.underlying26 EL.out ?_); exact rfl; exact rfl; exact rfl) | ((with_reducible refine wpList_load_blk_g ?_ 26 (.tmp 4) ?_ (g + 1) ?_ 26 _ K4.out _ _ Tryd.underlying26 EM.out ?_); exact rfl; exact rfl; exact rfl) | ((with_reducible refine wpList_load_blk_g ?_ 26 (.tmp 11) ?_ g11 ?_ 26 _ K11.out _ _ Tryd.underlying26 ER.out ?_); exact rfl; exact rfl; exact rfl) | go_values | go_guarded | go_step | go_upon | go_back)
  refine (own_compare_calls m l _ hm hl).mono ?_
  rintro _ w9 ⟨rfl, bx⟩
  have B := hid (B.out.trans (bx.mono (Nat.le_of_lt K3.out.lt))); have G := hid (G.out.keep bx); have K3 := hid (K3.out.keep bx); have K4 := hid (K4.out.keep bx); have K11 := hid (K11.out.keep bx)
  clear bx
  rw [hk2]
  have heq := HE2.out; have heq3 := HE3.out
  try dsimp only
  repeat (first | ((with_reducible refine wpList_load_blk_g ?_ 26 (.tmp 3) ?_ g ?_ 26 _ K3.out _ _ Tryd.underlying26 EL.out ?_); exact rfl; exact rfl; exact rfl) | ((with_reducible refine wpList_load_blk_g ?_ 26 (.tmp 4) ?_ (g + 1) ?_ 26 _ K4.out _ _ Tryd.underlying26 EM.out ?_); exact rfl; exact rfl; exact rfl) | ((with_reducible refine wpList_load_blk_g ?_ 26 (.tmp 11) ?_ g11 ?_ 26 _ K11.out _ _ Tryd.underlying26 ER.out ?_); exact rfl; exact rfl; exact rfl) | go_values | go_guarded | go_step | go_upon | go_back)
  clear heq heq3
  refine (text_calls y lR _).mono ?_
  rintro _ w10 ⟨rfl, bx⟩
  have B := hid (B.out.trans (bx.mono (Nat.le_of_lt K3.out.lt))); have G := hid (G.out.keep bx); have K3 := hid (K3.out.keep bx); have K4 := hid (K4.out.keep bx); have K11 := hid (K11.out.keep bx)
  clear bx
  rw [hT]
  try dsimp only
  repeat (first | ((with_reducible refine wpList_load_blk_g ?_ 26 (.tmp 3) ?_ g ?_ 26 _ K3.out _ _ Tryd.underlying26 EL.out ?_); exact rfl; exact rfl; exact rfl) | ((with_reducible refine wpList_load_blk_g ?_ 26 (.tmp 4) ?_ (g + 1) ?_ 26 _ K4.out _ _ Tryd.underlying26 EM.out ?_); exact rfl; exact rfl; exact rfl) | ((with_reducible refine wpList_load_blk_g ?_ 26 (.tmp 11) ?_ g11 ?_ 26 _ K11.out _ _ Tryd.underlying26 ER.out ?_); exact rfl; exact rfl; exact rfl) | go_values | go_guarded | go_step | go_upon | go_back)
  go_ret
  exact ⟨rfl, by rw [HG.out]; exact B.out⟩
set_option maxHeartbeats 4000000 in
set_option maxRecDepth 100000 in
theorem texts_less_bad (l m x : List UInt8) (w : World) (hl : l.length = 32) (hm : m.length = 32) (hn : x.length ≤ 100) (hG : Glob w) (hk : cmpL l m = -1)  (hB : readB x = (zeroB 32)) (hE : readE x = 5) :
    Calls Tryd.prog 8 #[.agg (bcells l), .agg (bcells m), .string (strB x)] w fun e w' => e = .returned (.bool true) ∧ Below w.heap.size w w' := by
  have hz := (zero_of_info info26).1
  have hsz : (strB x).size = x.length := rfl
  have hs64 : (strB (textB l)).size = 64 := by
    have := textB_length l
    rw [hl] at this
    exact this
  have hn' : ¬ (100 : Int) < (x.length : Int) := by omega
  have hk2 : cmpL m l = 1 := by have := cmp_flip l m; omega
  have hlt0 : Op.bytesLess (strB (textB l)).toList (strB (textB m)).toList = true := by simp only [strB_toList]; rw [less_text l m (by omega), hk]; rfl
  have hlm : (l == m) = false := by rw [← cmp_zero l m (by omega), hk]; rfl
  have hle0 : ((strB (textB l)).toList == (strB (textB m)).toList) = false := by
    simp only [strB_toList]
    refine beq_eq_false_iff_ne.2 fun e => beq_eq_false_iff_ne.1 hlm (text_inj e)
  have hgt0 : ∀ W, (binOp .gtr 9 (.string (strB (textB l))) (.string (strB (textB m)))).run Tryd.prog W = .ok (.bool false) W := fun W => by
    show Sem.run _ (pure (Value.bool (!(Op.bytesLess (strB (textB l)).toList (strB (textB m)).toList || (strB (textB l)).toList == (strB (textB m)).toList)))) W = _
    rw [hlt0, hle0]; rfl
  have HLT := hid hlt0; have HGT := hid hgt0
  clear hlt0 hle0 hgt0
  have k0 := ((Blk.new w 26 (bcells l)).alloc (.cells (bcells m) 26))
  have k1 := (Blk.new (w.alloc (.cells (bcells l) 26)) 26 (bcells m))
  have b1 := (((Below.refl w.heap.size w).alloc (Nat.le_refl _) (.cells (bcells l) 26)).alloc (by rw [size_new]; omega) (.cells (bcells m) 26))
  rw [size_new] at k1
  have K3 := hid k0; have K4 := hid k1; have B := hid b1; have G := hid (hG.keep b1); clear k0 k1 b1 hG
  have szs : ∀ y : List UInt8, y.length = 32 → (Tryd.prog.info? 26).map (·.size) = some (bcells y).size := fun y hy => by rw [bcells_size, hy]; exact (zero_of_info info26).2
  have szz : ∀ y : List UInt8, y.length = 32 → (bcells (zeroB 32)).size = (bcells y).size := fun y hy => by rw [bcells_size, bcells_size, hy]; rfl
  have lR : (zeroB 32).length = 32 := rfl
  have EL := hid (szs _ hl); have EM := hid (szs _ hm); have ER := hid (szs _ lR); have HsL := hid (szz _ hl); have HsR := hid (szz _ lR)
  have eqs : ∀ y z : List UInt8, y.length = 32 → z.length = 32 → ∀ W, (Op.equalIn 10000 26 (.agg (bcells y)) (.agg (bcells z))).run Tryd.prog W = .ok (y == z) W := fun y z hy hz W =>
    run_equal_arr (P := Tryd.prog) 26 5 32 Tryd.underlying26 Tryd.underlying5 (by kernel_rfl) y z hy hz W
  have e1 : ∀ W, (Op.equalIn 10000 26 (.agg (bcells l)) (.agg (bcells l))).run Tryd.prog W = .ok true W := fun W => by
    have := eqs l l hl hl W
    rw [beq_self_eq_true] at this; exact this
  have e2 : ∀ W, (Op.equalIn 10000 26 (.agg (bcells l)) (.agg (bcells m))).run Tryd.prog W = .ok false W := fun W => by
    have := eqs l m hl hm W
    rw [hlm] at this; exact this
  have e3 := eqs _ _ lR lR
  rw [beq_self_eq_true] at e3
  have HE3 := hid (e3 : ∀ W, (Op.equalIn 10000 26 (.agg (bcells (zeroB 32))) (.agg (bcells (zeroB 32)))).run Tryd.prog W = .ok true W)
  have HE1 := hid e1; have HE2 := hid e2; have HEQ := hid eqs; have HLM := hid hlm
  clear e1 e2 e3 eqs szs szz hlm
  go_enter Tryd.func8, Tryd.ntmps8
  go_wp2_with fail
  generalize (w.alloc (.cells (bcells l) 26)).alloc (.cells (bcells m) 26) = wA at K3 K4 B G ⊢
  generalize hg : w.heap.size = g at K3 K4 B ⊢
  have HG := hid hg; clear hg
  refine (known_calls wA G.out).mono ?_
  rintro _ w1 ⟨rfl, bx⟩
  have B := hid (B.out.trans (bx.mono (Nat.le_of_lt K3.out.lt))); have G := hid (G.out.keep bx); have K3 := hid (K3.out.keep bx); have K4 := hid (K4.out.keep bx)
  clear bx
  go_wp2_with (refine wpList_load_blk rfl 26 _ rfl g rfl 26 _ K3.out _ _ Tryd.underlying26 EL.out ?_)
  refine (text_calls l hl w1).mono ?_
  rintro _ w2 ⟨rfl, bx⟩
  have B := hid (B.out.trans (bx.mono (Nat.le_of_lt K3.out.lt))); have G := hid (G.out.keep bx); have K3 := hid (K3.out.keep bx); have K4 := hid (K4.out.keep bx)
  clear bx
  go_wp2_with fail
  refine (read_back l w2 hl).mono ?_
  rintro _ w3a ⟨rfl, bx⟩
  have B := hid (B.out.trans (bx.mono (Nat.le_of_lt K3.out.lt))); have G := hid (G.out.keep bx); have K3 := hid (K3.out.keep bx); have K4 := hid (K4.out.keep bx)
  clear bx
  have K := hid (Blk.new w3a 26 (bcells (zeroB 32)))
  go_wp2_with ((refine wpList_store_blk rfl 26 _ _ rfl w3a.heap.size _ rfl rfl 26 _ K.out EL.out HsL.out (bcells_oneCell _) ?_); refine Held.go ?_)
  obtain ⟨bx, k1⟩ := new_set w3a 26 (bcells (zeroB 32)) (bcells (l))
  generalize (w3a.alloc (.cells (bcells (zeroB 32)) 26)).setRow w3a.heap.size (bcells (l)) = w3b at bx k1 ⊢
  have B := hid (B.out.trans (bx.mono (Nat.le_of_lt K3.out.lt))); have G := hid (G.out.keep bx); have K3 := hid (K3.out.keep bx); have K4 := hid (K4.out.keep bx)
  generalize w3a.heap.size = g8 at k1 ⊢
  have K8 := hid k1
  clear bx k1 K
  unfold Held
  have heq := HE1.out
  try dsimp only
  repeat (first | ((with_reducible refine wpList_load_blk_g ?_ 26 (.tmp 8) ?_ g8 ?_ 26 _ K8.out _ _ Tryd.underlying26 EL.out ?_); exact rfl; exact rfl; exact rfl) | ((with_reducible refine wpList_load_blk_g ?_ 26 (.tmp 3) ?_ g ?_ 26 _ K3.out _ _ Tryd.underlying26 EL.out ?_); exact rfl; exact rfl; exact rfl) | go_values | go_guarded | go_step | go_upon | go_back)
  clear heq
  refine (text_calls l hl _).mono ?_
  rintro _ w4 ⟨rfl, bx⟩
  have B := hid (B.out.trans (bx.mono (Nat.le_of_lt K3.out.lt))); have G := hid (G.out.keep bx); have K3 := hid (K3.out.keep bx); have K4 := hid (K4.out.keep bx); have K8 := hid (K8.out.keep bx)
  clear bx
  try dsimp only
  repeat (first | ((with_reducible refine wpList_load_blk_g ?_ 26 (.tmp 8) ?_ g8 ?_ 26 _ K8.out _ _ Tryd.underlying26 EL.out ?_); exact rfl; exact rfl; exact rfl) | ((with_reducible refine wpList_load_blk_g ?_ 26 (.tmp 3) ?_ g ?_ 26 _ K3.out _ _ Tryd.underlying26 EL.out ?_); exact rfl; exact rfl; exact rfl) | go_values | go_guarded | go_step | go_upon | go_back)
  go_wp2_with fail
  clear K8
  refine wp_region_class (fun w' => Below g w w' ∧ Glob w' ∧ Blk w' g _ _ ∧ Blk w' (g + 1) _ _) (by kernel_rfl) (by kernel_rfl) ⟨B.out.drew, G.out, K3.out.drew, K4.out.drew⟩ ?_
  intro S _ at_ hS hin
  have keep : ∀ (v : Value) (f : FuncId) (args : Array Value) (z : S), (Calls Tryd.prog f args (at_ z) fun e w' => e = .returned v ∧ Below (at_ z).heap.size (at_ z) w') → Calls Tryd.prog f args (at_ z) fun e w' => e = .returned v ∧ ∃ y, w' = at_ y := by
    intro v f args z h
    obtain ⟨B, G, K3, K4⟩ := hS z
    exact h.mono fun e w' ⟨he, bx⟩ => ⟨he, hin _ ⟨B.trans (bx.mono (Nat.le_of_lt K3.lt)), G.keep bx, K3.keep bx, K4.keep bx⟩⟩
  have Hkeep := hid keep; have HhS := hid hS; have Hin := hid hin
  clear keep hS hin
  (refine wpQuiet_step (fun K hK => ?_); (refine quiet_loadK rfl _ _ rfl g rfl _ _ (fun z => (HhS.out z).2.2.1) _ _ Tryd.underlying26 EL.out ?_); go_simp; refine hK _ ?_; clear hK K)
  (refine wpQuiet_step (fun K hK => ?_); (refine quiet_callK rfl 23 #[.agg (bcells l)] (fun w => by go_simp) _ (fun z => Hkeep.out _ _ _ z (text_calls l hl _)) ?_); go_simp; refine hK _ ?_; clear hK K)
  (refine wpQuiet_step (fun K hK => ?_); (refine quiet_loadK rfl _ _ rfl (g + 1) rfl _ _ (fun z => (HhS.out z).2.2.2) _ _ Tryd.underlying26 EM.out ?_); go_simp; refine hK _ ?_; clear hK K)
  (refine wpQuiet_step (fun K hK => ?_); (refine quiet_callK rfl 23 #[.agg (bcells m)] (fun w => by go_simp) _ (fun z => Hkeep.out _ _ _ z (text_calls m hm _)) ?_); go_simp; refine hK _ ?_; clear hK K)
  have hlt := HLT.out; have hgt := HGT.out
  repeat (refine wpQuiet_step (fun K hK => ?_); go_simp; refine hK _ ?_; clear hK K)
  clear hlt hgt
  refine wpQuiet_nil ?_
  clear HhS Hin Hkeep
  rintro w5 ⟨b, gg, k3, k4⟩
  have B := hid b; have G := hid gg; have K3 := hid k3; have K4 := hid k4
  clear b gg k3 k4
  go_wp2_with fail
  refine (read_to x _ (zeroB 32) 5 hB hE).mono ?_
  rintro _ w7a ⟨rfl, bx⟩
  have B := hid (B.out.trans (bx.mono (Nat.le_of_lt K3.out.lt))); have G := hid (G.out.keep bx); have K3 := hid (K3.out.keep bx); have K4 := hid (K4.out.keep bx)
  clear bx
  have K := hid (Blk.new w7a 26 (bcells (zeroB 32)))
  go_wp2_with ((refine wpList_store_blk rfl 26 _ _ rfl w7a.heap.size _ rfl rfl 26 _ K.out ER.out rfl (bcells_oneCell _) ?_); refine Held.go ?_)
  obtain ⟨bx, k1⟩ := new_set w7a 26 (bcells (zeroB 32)) (bcells ((zeroB 32)))
  generalize (w7a.alloc (.cells (bcells (zeroB 32)) 26)).setRow w7a.heap.size (bcells ((zeroB 32))) = w7b at bx k1 ⊢
  have B := hid (B.out.trans (bx.mono (Nat.le_of_lt K3.out.lt))); have G := hid (G.out.keep bx); have K3 := hid (K3.out.keep bx); have K4 := hid (K4.out.keep bx)
  generalize w7a.heap.size = g11 at k1 ⊢
  have K11 := hid k1
  clear bx k1 K
  unfold Held
  try dsimp only
  repeat (first | ((with_reducible refine wpList_load_blk_g ?_ 26 (.tmp 3) ?_ g ?_ 26 _ K3.out _ _ Tryd.underlying26 EL.out ?_); exact rfl; exact rfl; exact rfl) | ((with_reducible refine wpList_load_blk_g ?_ 26 (.tmp 4) ?_ (g + 1) ?_ 26 _ K4.out _ _ Tryd.underlying26 EM.out ?_); exact rfl; exact rfl; exact rfl) | ((with_reducible refine wpList_load_blk_g ?_ 26 (.tmp 11) ?_ g11 ?_ 26 _ K11.out _ _ Tryd.underlying26 ER.out ?_); exact rfl; exact rfl; exact rfl) | go_values | go_guarded | go_step | go_upon | go_back)
  refine (own_compare_calls l m _ hl hm).mono ?_
  rintro _ w8 ⟨rfl, bx⟩
  have B := hid (B.out.trans (bx.mono (Nat.le_of_lt K3.out.lt))); have G := hid (G.out.keep bx); have K3 := hid (K3.out.keep bx); have K4 := hid (K4.out.keep bx); have K11 := hid (K11.out.keep bx)
  clear bx
  rw [hk]
  try dsimp only
  repeat (first | ((with_reducible refine wpList_load_blk_g ?_ 26 (.tmp 3) ?_ g ?_ 26 _ K3.out _ _ Tryd.underlying26 EL.out ?_); exact rfl; exact rfl; exact rfl) | ((with_reducible refine wpList_load_blk_g ?_ 26 (.tmp 4) ?_ (g + 1) ?_ 26 _ K4.out _ _ Tryd.underlying26 EM.out ?_); exact rfl; exact rfl; exact rfl) | ((with_reducible refine wpList_load_blk_g ?_ 26 (.tmp 11) ?_ g11 ?_ 26 _ K11.out _ _ Tryd.underlying26 ER.out ?_); exact rfl; exact rfl; exact rfl) | go_values | go_guarded | go_step | go_upon | go_back)
  refine (own_compare_calls m l _ hm hl).mono ?_
  rintro _ w9 ⟨rfl, bx⟩
  have B := hid (B.out.trans (bx.mono (Nat.le_of_lt K3.out.lt))); have G := hid (G.out.keep bx); have K3 := hid (K3.out.keep bx); have K4 := hid (K4.out.keep bx); have K11 := hid (K11.out.keep bx)
  clear bx
  rw [hk2]
  have heq := HE2.out; have heq3 := HE3.out
  try dsimp only
  repeat (first | ((with_reducible refine wpList_load_blk_g ?_ 26 (.tmp 3) ?_ g ?_ 26 _ K3.out _ _ Tryd.underlying26 EL.out ?_); exact rfl; exact rfl; exact rfl) | ((with_reducible refine wpList_load_blk_g ?_ 26 (.tmp 4) ?_ (g + 1) ?_ 26 _ K4.out _ _ Tryd.underlying26 EM.out ?_); exact rfl; exact rfl; exact rfl) | ((with_reducible refine wpList_load_blk_g ?_ 26 (.tmp 11) ?_ g11 ?_ 26 _ K11.out _ _ Tryd.underlying26 ER.out ?_); exact rfl; exact rfl; exact rfl) | go_values | go_guarded | go_step | go_upon | go_back)
  clear heq heq3
  go_ret
  exact ⟨rfl, by rw [HG.out]; exact B.out⟩
set_option maxHeartbeats 4000000 in
set_option maxRecDepth 100000 in
theorem texts_same_ok (l x : List UInt8) (w : World) (hl : l.length = 32) (hn : x.length ≤ 100) (hG : Glob w) (hk : cmpL l l = 0) (y : List UInt8) (lR : y.length = 32) (hT : textB y = x) (hB : readB x = y) (hE : readE x = 0) :
    Calls Tryd.prog 8 #[.agg (bcells l), .agg (bcells l), .string (strB x)] w fun e w' => e = .returned (.bool true) ∧ Below w.heap.size w w' := by
  have hz := (zero_of_info info26).1
  have hsz : (strB x).size = x.length := rfl
  have hs64 : (strB (textB l)).size = 64 := by
    have := textB_length l
    rw [hl] at this
    exact this
  have hn' : ¬ (100 : Int) < (x.length : Int) := by omega
  have hk2 : cmpL l l = 0 := by have := cmp_flip l l; omega
  have hlt0 : Op.bytesLess (strB (textB l)).toList (strB (textB l)).toList = false := by simp only [strB_toList]; rw [less_text l l (by omega), hk]; rfl
  have hlm : (l == l) = true := by rw [← cmp_zero l l (by omega), hk]; rfl
  have hle0 : ((strB (textB l)).toList == (strB (textB l)).toList) = true := by
    simp only [strB_toList]
    have := eq_of_beq hlm; rw [this]; exact beq_self_eq_true _
  have hgt0 : ∀ W, (binOp .gtr 9 (.string (strB (textB l))) (.string (strB (textB l)))).run Tryd.prog W = .ok (.bool false) W := fun W => by
    show Sem.run _ (pure (Value.bool (!(Op.bytesLess (strB (textB l)).toList (strB (textB l)).toList || (strB (textB l)).toList == (strB (textB l)).toList)))) W = _
    rw [hlt0, hle0]; rfl
  have HLT := hid hlt0; have HGT := hid hgt0
  clear hlt0 hle0 hgt0
  have k0 := ((Blk.new w 26 (bcells l)).alloc (.cells (bcells l) 26))
  have k1 := (Blk.new (w.alloc (.cells (bcells l) 26)) 26 (bcells l))
  have b1 := (((Below.refl w.heap.size w).alloc (Nat.le_refl _) (.cells (bcells l) 26)).alloc (by rw [size_new]; omega) (.cells (bcells l) 26))
  rw [size_new] at k1
  have K3 := hid k0; have K4 := hid k1; have B := hid b1; have G := hid (hG.keep b1); clear k0 k1 b1 hG
  have szs : ∀ y : List UInt8, y.length = 32 → (Tryd.prog.info? 26).map (·.size) = some (bcells y).size := fun y hy => by rw [bcells_size, hy]; exact (zero_of_info info26).2
  have szz : ∀ y : List UInt8, y.length = 32 → (bcells (zeroB 32)).size = (bcells y).size := fun y hy => by rw [bcells_size, bcells_size, hy]; rfl

  have EL := hid (szs _ hl); have EM := hid (szs _ hl); have ER := hid (szs _ lR); have HsL := hid (szz _ hl); have HsR := hid (szz _ lR)
  have eqs : ∀ y z : List UInt8, y.length = 32 → z.length = 32 → ∀ W, (Op.equalIn 10000 26 (.agg (bcells y)) (.agg (bcells z))).run Tryd.prog W = .ok (y == z) W := fun y z hy hz W =>
    run_equal_arr (P := Tryd.prog) 26 5 32 Tryd.underlying26 Tryd.underlying5 (by kernel_rfl) y z hy hz W
  have e1 : ∀ W, (Op.equalIn 10000 26 (.agg (bcells l)) (.agg (bcells l))).run Tryd.prog W = .ok true W := fun W => by
    have := eqs l l hl hl W
    rw [beq_self_eq_true] at this; exact this
  have e2 : ∀ W, (Op.equalIn 10000 26 (.agg (bcells l)) (.agg (bcells l))).run Tryd.prog W = .ok true W := fun W => by
    have := eqs l l hl hl W
    rw [hlm] at this; exact this
  have e3 := eqs _ _ lR lR
  rw [beq_self_eq_true] at e3
  have HE3 := hid (e3 : ∀ W, (Op.equalIn 10000 26 (.agg (bcells y)) (.agg (bcells y))).run Tryd.prog W = .ok true W)
  have HE1 := hid e1; have HE2 := hid e2; have HEQ := hid eqs; have HLM := hid hlm
  clear e1 e2 e3 eqs szs szz hlm
  go_enter Tryd.func8, Tryd.ntmps8
  go_wp2_with fail
  generalize (w.alloc (.cells (bcells l) 26)).alloc (.cells (bcells l) 26) = wA at K3 K4 B G ⊢
  generalize hg : w.heap.size = g at K3 K4 B ⊢
  have HG := hid hg; clear hg
  refine (known_calls wA G.out).mono ?_
  rintro _ w1 ⟨rfl, bx⟩
  have B := hid (B.out.trans (bx.mono (Nat.le_of_lt K3.out.lt))); have G := hid (G.out.keep bx); have K3 := hid (K3.out.keep bx); have K4 := hid (K4.out.keep bx)
  clear bx
  go_wp2_with (refine wpList_load_blk rfl 26 _ rfl g rfl 26 _ K3.out _ _ Tryd.underlying26 EL.out ?_)
  refine (text_calls l hl w1).mono ?_
  rintro _ w2 ⟨rfl, bx⟩
  have B := hid (B.out.trans (bx.mono (Nat.le_of_lt K3.out.lt))); have G := hid (G.out.keep bx); have K3 := hid (K3.out.keep bx); have K4 := hid (K4.out.keep bx)
  clear bx
  go_wp2_with fail
  refine (read_back l w2 hl).mono ?_
  rintro _ w3a ⟨rfl, bx⟩
  have B := hid (B.out.trans (bx.mono (Nat.le_of_lt K3.out.lt))); have G := hid (G.out.keep bx); have K3 := hid (K3.out.keep bx); have K4 := hid (K4.out.keep bx)
  clear bx
  have K := hid (Blk.new w3a 26 (bcells (zeroB 32)))
  go_wp2_with ((refine wpList_store_blk rfl 26 _ _ rfl w3a.heap.size _ rfl rfl 26 _ K.out EL.out HsL.out (bcells_oneCell _) ?_); refine Held.go ?_)
  obtain ⟨bx, k1⟩ := new_set w3a 26 (bcells (zeroB 32)) (bcells (l))
  generalize (w3a.alloc (.cells (bcells (zeroB 32)) 26)).setRow w3a.heap.size (bcells (l)) = w3b at bx k1 ⊢
  have B := hid (B.out.trans (bx.mono (Nat.le_of_lt K3.out.lt))); have G := hid (G.out.keep bx); have K3 := hid (K3.out.keep bx); have K4 := hid (K4.out.keep bx)
  generalize w3a.heap.size = g8 at k1 ⊢
  have K8 := hid k1
  clear bx k1 K
  unfold Held
  have heq := HE1.out
  try dsimp only
  repeat (first | ((with_reducible refine wpList_load_blk_g ?_ 26 (.tmp 8) ?_ g8 ?_ 26 _ K8.out _ _ Tryd.underlying26 EL.out ?_); exact rfl; exact rfl; exact rfl) | ((with_reducible refine wpList_load_blk_g ?_ 26 (.tmp 3) ?_ g ?_ 26 _ K3.out _ _ Tryd.underlying26 EL.out ?_); exact rfl; exact rfl; exact rfl) | go_values | go_guarded | go_step | go_upon | go_back)
  clear heq
  refine (text_calls l hl _).mono ?_
  rintro _ w4 ⟨rfl, bx⟩
  have B := hid (B.out.trans (bx.mono (Nat.le_of_lt K3.out.lt))); have G := hid (G.out.keep bx); have K3 := hid (K3.out.keep bx); have K4 := hid (K4.out.keep bx); have K8 := hid (K8.out.keep bx)
  clear bx
  try dsimp only
  repeat (first | ((with_reducible refine wpList_load_blk_g ?_ 26 (.tmp 8) ?_ g8 ?_ 26 _ K8.out _ _ Tryd.underlying26 EL.out ?_); exact rfl; exact rfl; exact rfl) | ((with_reducible refine wpList_load_blk_g ?_ 26 (.tmp 3) ?_ g ?_ 26 _ K3.out _ _ Tryd.underlying26 EL.out ?_); exact rfl; exact rfl; exact rfl) | go_values | go_guarded | go_step | go_upon | go_back)
  go_wp2_with fail
  clear K8
  refine wp_region_class (fun w' => Below g w w' ∧ Glob w' ∧ Blk w' g _ _ ∧ Blk w' (g + 1) _ _) (by kernel_rfl) (by kernel_rfl) ⟨B.out.drew, G.out, K3.out.drew, K4.out.drew⟩ ?_
  intro S _ at_ hS hin
  have keep : ∀ (v : Value) (f : FuncId) (args : Array Value) (z : S), (Calls Tryd.prog f args (at_ z) fun e w' => e = .returned v ∧ Below (at_ z).heap.size (at_ z) w') → Calls Tryd.prog f args (at_ z) fun e w' => e = .returned v ∧ ∃ y, w' = at_ y := by
    intro v f args z h
    obtain ⟨B, G, K3, K4⟩ := hS z
    exact h.mono fun e w' ⟨he, bx⟩ => ⟨he, hin _ ⟨B.trans (bx.mono (Nat.le_of_lt K3.lt)), G.keep bx, K3.keep bx, K4.keep bx⟩⟩
  have Hkeep := hid keep; have HhS := hid hS; have Hin := hid hin
  clear keep hS hin
  (refine wpQuiet_step (fun K hK => ?_); (refine quiet_loadK rfl _ _ rfl g rfl _ _ (fun z => (HhS.out z).2.2.1) _ _ Tryd.underlying26 EL.out ?_); go_simp; refine hK _ ?_; clear hK K)
  (refine wpQuiet_step (fun K hK => ?_); (refine quiet_callK rfl 23 #[.agg (bcells l)] (fun w => by go_simp) _ (fun z => Hkeep.out _ _ _ z (text_calls l hl _)) ?_); go_simp; refine hK _ ?_; clear hK K)
  (refine wpQuiet_step (fun K hK => ?_); (refine quiet_loadK rfl _ _ rfl (g + 1) rfl _ _ (fun z => (HhS.out z).2.2.2) _ _ Tryd.underlying26 EM.out ?_); go_simp; refine hK _ ?_; clear hK K)
  (refine wpQuiet_step (fun K hK => ?_); (refine quiet_callK rfl 23 #[.agg (bcells l)] (fun w => by go_simp) _ (fun z => Hkeep.out _ _ _ z (text_calls l hl _)) ?_); go_simp; refine hK _ ?_; clear hK K)
  have hlt := HLT.out; have hgt := HGT.out
  repeat (refine wpQuiet_step (fun K hK => ?_); go_simp; refine hK _ ?_; clear hK K)
  clear hlt hgt
  refine wpQuiet_nil ?_
  clear HhS Hin Hkeep
  rintro w5 ⟨b, gg, k3, k4⟩
  have B := hid b; have G := hid gg; have K3 := hid k3; have K4 := hid k4
  clear b gg k3 k4
  go_wp2_with fail
  refine wp_region_class (fun w' => Below g w w' ∧ Glob w' ∧ Blk w' g _ _ ∧ Blk w' (g + 1) _ _) (by kernel_rfl) (by kernel_rfl) ⟨B.out.drew, G.out, K3.out.drew, K4.out.drew⟩ ?_
  intro S _ at_ hS hin
  have keep : ∀ (v : Value) (f : FuncId) (args : Array Value) (z : S), (Calls Tryd.prog f args (at_ z) fun e w' => e = .returned v ∧ Below (at_ z).heap.size (at_ z) w') → Calls Tryd.prog f args (at_ z) fun e w' => e = .returned v ∧ ∃ y, w' = at_ y := by
    intro v f args z h
    obtain ⟨B, G, K3, K4⟩ := hS z
    exact h.mono fun e w' ⟨he, bx⟩ => ⟨he, hin _ ⟨B.trans (bx.mono (Nat.le_of_lt K3.lt)), G.keep bx, K3.keep bx, K4.keep bx⟩⟩
  have Hkeep := hid keep; have HhS := hid hS; have Hin := hid hin
  clear keep hS hin
  (refine wpQuiet_step (fun K hK => ?_); (refine quiet_loadK rfl _ _ rfl g rfl _ _ (fun z => (HhS.out z).2.2.1) _ _ Tryd.underlying26 EL.out ?_); go_simp; refine hK _ ?_; clear hK K)
  (refine wpQuiet_step (fun K hK => ?_); (refine quiet_callK rfl 23 #[.agg (bcells l)] (fun w => by go_simp) _ (fun z => Hkeep.out _ _ _ z (text_calls l hl _)) ?_); go_simp; refine hK _ ?_; clear hK K)
  (refine wpQuiet_step (fun K hK => ?_); (refine quiet_loadK rfl _ _ rfl (g + 1) rfl _ _ (fun z => (HhS.out z).2.2.2) _ _ Tryd.underlying26 EM.out ?_); go_simp; refine hK _ ?_; clear hK K)
  (refine wpQuiet_step (fun K hK => ?_); (refine quiet_callK rfl 23 #[.agg (bcells l)] (fun w => by go_simp) _ (fun z => Hkeep.out _ _ _ z (text_calls l hl _)) ?_); go_simp; refine hK _ ?_; clear hK K)
  have hlt := HLT.out; have hgt := HGT.out
  repeat (refine wpQuiet_step (fun K hK => ?_); go_simp; refine hK _ ?_; clear hK K)
  clear hlt hgt
  refine wpQuiet_nil ?_
  clear HhS Hin Hkeep
  rintro w6 ⟨b, gg, k3, k4⟩
  have B := hid b; have G := hid gg; have K3 := hid k3; have K4 := hid k4
  clear b gg k3 k4
  go_wp2_with fail
  refine (read_to x _ y 0 hB hE).mono ?_
  rintro _ w7a ⟨rfl, bx⟩
  have B := hid (B.out.trans (bx.mono (Nat.le_of_lt K3.out.lt))); have G := hid (G.out.keep bx); have K3 := hid (K3.out.keep bx); have K4 := hid (K4.out.keep bx)
  clear bx
  have K := hid (Blk.new w7a 26 (bcells (zeroB 32)))
  go_wp2_with ((refine wpList_store_blk rfl 26 _ _ rfl w7a.heap.size _ rfl rfl 26 _ K.out ER.out HsR.out (bcells_oneCell _) ?_); refine Held.go ?_)
  obtain ⟨bx, k1⟩ := new_set w7a 26 (bcells (zeroB 32)) (bcells (y))
  generalize (w7a.alloc (.cells (bcells (zeroB 32)) 26)).setRow w7a.heap.size (bcells (y)) = w7b at bx k1 ⊢
  have B := hid (B.out.trans (bx.mono (Nat.le_of_lt K3.out.lt))); have G := hid (G.out.keep bx); have K3 := hid (K3.out.keep bx); have K4 := hid (K4.out.keep bx)
  generalize w7a.heap.size = g11 at k1 ⊢
  have K11 := hid k1
  clear bx k1 K
  unfold Held
  try dsimp only
  repeat (first | ((with_reducible refine wpList_load_blk_g ?_ 26 (.tmp 3) ?_ g ?_ 26 _ K3.out _ _ Tryd.underlying26 EL.out ?_); exact rfl; exact rfl; exact rfl) | ((with_reducible refine wpList_load_blk_g ?_ 26 (.tmp 4) ?_ (g + 1) ?_ 26 _ K4.out _ _ Tryd.underlying26 EM.out ?_); exact rfl; exact rfl; exact rfl) | ((with_reducible refine wpList_load_blk_g ?_ 26 (.tmp 11) ?_ g11 ?_ 26 _ K11.out _ _ Tryd.underlying26 ER.out ?_); exact rfl; exact rfl; exact rfl) | go_values | go_guarded | go_step | go_upon | go_back)
  refine (own_compare_calls l l _ hl hl).mono ?_
  rintro _ w8 ⟨rfl, bx⟩
  have B := hid (B.out.trans (bx.mono (Nat.le_of_lt K3.out.lt))); have G := hid (G.out.keep bx); have K3 := hid (K3.out.keep bx); have K4 := hid (K4.out.keep bx); have K11 := hid (K11.out.keep bx)
  clear bx
  rw [hk]
  try dsimp only
  repeat (first | ((with_reducible refine wpList_load_blk_g ?_ 26 (.tmp 3) ?_ g ?_ 26 _ K3.out _ _ Tryd.underlying26 EL.out ?_); exact rfl; exact rfl; exact rfl) | ((with_reducible refine wpList_load_blk_g ?_ 26 (.tmp 4) ?_ (g + 1) ?_ 26 _ K4.out _ _ Tryd.underlying26 EM.out ?_); exact rfl; exact rfl; exact rfl) | ((with_reducible refine wpList_load_blk_g ?_ 26 (.tmp 11) ?_ g11 ?_ 26 _ K11.out _ _ Tryd.underlying26 ER.out ?_); exact rfl; exact rfl; exact rfl) | go_values | go_guarded | go_step | go_upon | go_back)
  refine (own_compare_calls l l _ hl hl).mono ?_
  rintro _ w9 ⟨rfl, bx⟩
  have B := hid (B.out.trans (bx.mono (Nat.le_of_lt K3.out.lt))); have G := hid (G.out.keep bx); have K3 := hid (K3.out.keep bx); have K4 := hid (K4.out.keep bx); have K11 := hid (K11.out.keep bx)
  clear bx
  rw [hk2]
  have heq := HE2.out; have heq3 := HE3.out
  try dsimp only
  repeat (first | ((with_reducible refine wpList_load_blk_g ?_ 26 (.tmp 3) ?_ g ?_ 26 _ K3.out _ _ Tryd.underlying26 EL.out ?_); exact rfl; exact rfl; exact rfl) | ((with_reducible refine wpList_load_blk_g ?_ 26 (.tmp 4) ?_ (g + 1) ?_ 26 _ K4.out _ _ Tryd.underlying26 EM.out ?_); exact rfl; exact rfl; exact rfl) | ((with_reducible refine wpList_load_blk_g ?_ 26 (.tmp 11) ?_ g11 ?_ 26 _ K11.out _ _ Tryd.underlying26 ER.out ?_); exact rfl; exact rfl; exact rfl) | go_values | go_guarded | go_step | go_upon | go_back)
  clear heq heq3
  refine (text_calls y lR _).mono ?_
  rintro _ w10 ⟨rfl, bx⟩
  have B := hid (B.out.trans (bx.mono (Nat.le_of_lt K3.out.lt))); have G := hid (G.out.keep bx); have K3 := hid (K3.out.keep bx); have K4 := hid (K4.out.keep bx); have K11 := hid (K11.out.keep bx)
  clear bx
  rw [hT]
  try dsimp only
  repeat (first | ((with_reducible refine wpList_load_blk_g ?_ 26 (.tmp 3) ?_ g ?_ 26 _ K3.out _ _ Tryd.underlying26 EL.out ?_); exact rfl; exact rfl; exact rfl) | ((with_reducible refine wpList_load_blk_g ?_ 26 (.tmp 4) ?_ (g + 1) ?_ 26 _ K4.out _ _ Tryd.underlying26 EM.out ?_); exact rfl; exact rfl; exact rfl) | ((with_reducible refine wpList_load_blk_g ?_ 26 (.tmp 11) ?_ g11 ?_ 26 _ K11.out _ _ Tryd.underlying26 ER.out ?_); exact rfl; exact rfl; exact rfl) | go_values | go_guarded | go_step | go_upon | go_back)
  go_ret
  exact ⟨rfl, by rw [HG.out]; exact B.out⟩
set_option maxHeartbeats 4000000 in
set_option maxRecDepth 100000 in
theorem texts_same_bad (l x : List UInt8) (w : World) (hl : l.length = 32) (hn : x.length ≤ 100) (hG : Glob w) (hk : cmpL l l = 0)  (hB : readB x = (zeroB 32)) (hE : readE x = 5) :
    Calls Tryd.prog 8 #[.agg (bcells l), .agg (bcells l), .string (strB x)] w fun e w' => e = .returned (.bool true) ∧ Below w.heap.size w w' := by
  have hz := (zero_of_info info26).1
  have hsz : (strB x).size = x.length := rfl
  have hs64 : (strB (textB l)).size = 64 := by
    have := textB_length l
    rw [hl] at this
    exact this
  have hn' : ¬ (100 : Int) < (x.length : Int) := by omega
  have hk2 : cmpL l l = 0 := by have := cmp_flip l l; omega
  have hlt0 : Op.bytesLess (strB (textB l)).toList (strB (textB l)).toList = false := by simp only [strB_toList]; rw [less_text l l (by omega), hk]; rfl
  have hlm : (l == l) = true := by rw [← cmp_zero l l (by omega), hk]; rfl
  have hle0 : ((strB (textB l)).toList == (strB (textB l)).toList) = true := by
    simp only [strB_toList]
    have := eq_of_beq hlm; rw [this]; exact beq_self_eq_true _
  have hgt0 : ∀ W, (binOp .gtr 9 (.string (strB (textB l))) (.string (strB (textB l)))).run Tryd.prog W = .ok (.bool false) W := fun W => by
    show Sem.run _ (pure (Value.bool (!(Op.bytesLess (strB (textB l)).toList (strB (textB l)).toList || (strB (textB l)).toList == (strB (textB l)).toList)))) W = _
    rw [hlt0, hle0]; rfl
  have HLT := hid hlt0; have HGT := hid hgt0
  clear hlt0 hle0 hgt0
  have k0 := ((Blk.new w 26 (bcells l)).alloc (.cells (bcells l) 26))
  have k1 := (Blk.new (w.alloc (.cells (bcells l) 26)) 26 (bcells l))
  have b1 := (((Below.refl w.heap.size w).alloc (Nat.le_refl _) (.cells (bcells l) 26)).alloc (by rw [size_new]; omega) (.cells (bcells l) 26))
  rw [size_new] at k1
  have K3 := hid k0; have K4 := hid k1; have B := hid b1; have G := hid (hG.keep b1); clear k0 k1 b1 hG
  have szs : ∀ y : List UInt8, y.length = 32 → (Tryd.prog.info? 26).map (·.size) = some (bcells y).size := fun y hy => by rw [bcells_size, hy]; exact (zero_of_info info26).2
  have szz : ∀ y : List UInt8, y.length = 32 → (bcells (zeroB 32)).size = (bcells y).size := fun y hy => by rw [bcells_size, bcells_size, hy]; rfl
  have lR : (zeroB 32).length = 32 := rfl
  have EL := hid (szs _ hl); have EM := hid (szs _ hl); have ER := hid (szs _ lR); have HsL := hid (szz _ hl); have HsR := hid (szz _ lR)
  have eqs : ∀ y z : List UInt8, y.length = 32 → z.length = 32 → ∀ W, (Op.equalIn 10000 26 (.agg (bcells y)) (.agg (bcells z))).run Tryd.prog W = .ok (y == z) W := fun y z hy hz W =>
    run_equal_arr (P := Tryd.prog) 26 5 32 Tryd.underlying26 Tryd.underlying5 (by kernel_rfl) y z hy hz W
  have e1 : ∀ W, (Op.equalIn 10000 26 (.agg (bcells l)) (.agg (bcells l))).run Tryd.prog W = .ok true W := fun W => by
    have := eqs l l hl hl W
    rw [beq_self_eq_true] at this; exact this
  have e2 : ∀ W, (Op.equalIn 10000 26 (.agg (bcells l)) (.agg (bcells l))).run Tryd.prog W = .ok true W := fun W => by
    have := eqs l l hl hl W
    rw [hlm] at this; exact this
  have e3 := eqs _ _ lR lR
  rw [beq_self_eq_true] at e3
  have HE3 := hid (e3 : ∀ W, (Op.equalIn 10000 26 (.agg (bcells (zeroB 32))) (.agg (bcells (zeroB 32)))).run Tryd.prog W = .ok true W)
  have HE1 := hid e1; have HE2 := hid e2; have HEQ := hid eqs; have HLM := hid hlm
  clear e1 e2 e3 eqs szs szz hlm
  go_enter Tryd.func8, Tryd.ntmps8
  go_wp2_with fail
  generalize (w.alloc (.cells (bcells l) 26)).alloc (.cells (bcells l) 26) = wA at K3 K4 B G ⊢
  generalize hg : w.heap.size = g at K3 K4 B ⊢
  have HG := hid hg; clear hg
  refine (known_calls wA G.out).mono ?_
  rintro _ w1 ⟨rfl, bx⟩
  have B := hid (B.out.trans (bx.mono (Nat.le_of_lt K3.out.lt))); have G := hid (G.out.keep bx); have K3 := hid (K3.out.keep bx); have K4 := hid (K4.out.keep bx)
  clear bx
  go_wp2_with (refine wpList_load_blk rfl 26 _ rfl g rfl 26 _ K3.out _ _ Tryd.underlying26 EL.out ?_)
  refine (text_calls l hl w1).mono ?_
  rintro _ w2 ⟨rfl, bx⟩
  have B := hid (B.out.trans (bx.mono (Nat.le_of_lt K3.out.lt))); have G := hid (G.out.keep bx); have K3 := hid (K3.out.keep bx); have K4 := hid (K4.out.keep bx)
  clear bx
  go_wp2_with fail
  refine (read_back l w2 hl).mono ?_
  rintro _ w3a ⟨rfl, bx⟩
  have B := hid (B.out.trans (bx.mono (Nat.le_of_lt K3.out.lt))); have G := hid (G.out.keep bx); have K3 := hid (K3.out.keep bx); have K4 := hid (K4.out.keep bx)
  clear bx
  have K := hid (Blk.new w3a 26 (bcells (zeroB 32)))
  go_wp2_with ((refine wpList_store_blk rfl 26 _ _ rfl w3a.heap.size _ rfl rfl 26 _ K.out EL.out HsL.out (bcells_oneCell _) ?_); refine Held.go ?_)
  obtain ⟨bx, k1⟩ := new_set w3a 26 (bcells (zeroB 32)) (bcells (l))
  generalize (w3a.alloc (.cells (bcells (zeroB 32)) 26)).setRow w3a.heap.size (bcells (l)) = w3b at bx k1 ⊢
  have B := hid (B.out.trans (bx.mono (Nat.le_of_lt K3.out.lt))); have G := hid (G.out.keep bx); have K3 := hid (K3.out.keep bx); have K4 := hid (K4.out.keep bx)
  generalize w3a.heap.size = g8 at k1 ⊢
  have K8 := hid k1
  clear bx k1 K
  unfold Held
  have heq := HE1.out
  try dsimp only
  repeat (first | ((with_reducible refine wpList_load_blk_g ?_ 26 (.tmp 8) ?_ g8 ?_ 26 _ K8.out _ _ Tryd.underlying26 EL.out ?_); exact rfl; exact rfl; exact rfl) | ((with_reducible refine wpList_load_blk_g ?_ 26 (.tmp 3) ?_ g ?_ 26 _ K3.out _ _ Tryd.underlying26 EL.out ?_); exact rfl; exact rfl; exact rfl) | go_values | go_guarded | go_step | go_upon | go_back)
  clear heq
  refine (text_calls l hl _).mono ?_
  rintro _ w4 ⟨rfl, bx⟩
  have B := hid (B.out.trans (bx.mono (Nat.le_of_lt K3.out.lt))); have G := hid (G.out.keep bx); have K3 := hid (K3.out.keep bx); have K4 := hid (K4.out.keep bx); have K8 := hid (K8.out.keep bx)
  clear bx
  try dsimp only
  repeat (first | ((with_reducible refine wpList_load_blk_g ?_ 26 (.tmp 8) ?_ g8 ?_ 26 _ K8.out _ _ Tryd.underlying26 EL.out ?_); exact rfl; exact rfl; exact rfl) | ((with_reducible refine wpList_load_blk_g ?_ 26 (.tmp 3) ?_ g ?_ 26 _ K3.out _ _ Tryd.underlying26 EL.out ?_); exact rfl; exact rfl; exact rfl) | go_values | go_guarded | go_step | go_upon | go_back)
  go_wp2_with fail
  clear K8
  refine wp_region_class (fun w' => Below g w w' ∧ Glob w' ∧ Blk w' g _ _ ∧ Blk w' (g + 1) _ _) (by kernel_rfl) (by kernel_rfl) ⟨B.out.drew, G.out, K3.out.drew, K4.out.drew⟩ ?_
  intro S _ at_ hS hin
  have keep : ∀ (v : Value) (f : FuncId) (args : Array Value) (z : S), (Calls Tryd.prog f args (at_ z) fun e w' => e = .returned v ∧ Below (at_ z).heap.size (at_ z) w') → Calls Tryd.prog f args (at_ z) fun e w' => e = .returned v ∧ ∃ y, w' = at_ y := by
    intro v f args z h
    obtain ⟨B, G, K3, K4⟩ := hS z
    exact h.mono fun e w' ⟨he, bx⟩ => ⟨he, hin _ ⟨B.trans (bx.mono (Nat.le_of_lt K3.lt)), G.keep bx, K3.keep bx, K4.keep bx⟩⟩
  have Hkeep := hid keep; have HhS := hid hS; have Hin := hid hin
  clear keep hS hin
  (refine wpQuiet_step (fun K hK => ?_); (refine quiet_loadK rfl _ _ rfl g rfl _ _ (fun z => (HhS.out z).2.2.1) _ _ Tryd.underlying26 EL.out ?_); go_simp; refine hK _ ?_; clear hK K)
  (refine wpQuiet_step (fun K hK => ?_); (refine quiet_callK rfl 23 #[.agg (bcells l)] (fun w => by go_simp) _ (fun z => Hkeep.out _ _ _ z (text_calls l hl _)) ?_); go_simp; refine hK _ ?_; clear hK K)
  (refine wpQuiet_step (fun K hK => ?_); (refine quiet_loadK rfl _ _ rfl (g + 1) rfl _ _ (fun z => (HhS.out z).2.2.2) _ _ Tryd.underlying26 EM.out ?_); go_simp; refine hK _ ?_; clear hK K)
  (refine wpQuiet_step (fun K hK => ?_); (refine quiet_callK rfl 23 #[.agg (bcells l)] (fun w => by go_simp) _ (fun z => Hkeep.out _ _ _ z (text_calls l hl _)) ?_); go_simp; refine hK _ ?_; clear hK K)
  have hlt := HLT.out; have hgt := HGT.out
  repeat (refine wpQuiet_step (fun K hK => ?_); go_simp; refine hK _ ?_; clear hK K)
  clear hlt hgt
  refine wpQuiet_nil ?_
  clear HhS Hin Hkeep
  rintro w5 ⟨b, gg, k3, k4⟩
  have B := hid b; have G := hid gg; have K3 := hid k3; have K4 := hid k4
  clear b gg k3 k4
  go_wp2_with fail
  refine wp_region_class (fun w' => Below g w w' ∧ Glob w' ∧ Blk w' g _ _ ∧ Blk w' (g + 1) _ _) (by kernel_rfl) (by kernel_rfl) ⟨B.out.drew, G.out, K3.out.drew, K4.out.drew⟩ ?_
  intro S _ at_ hS hin
  have keep : ∀ (v : Value) (f : FuncId) (args : Array Value) (z : S), (Calls Tryd.prog f args (at_ z) fun e w' => e = .returned v ∧ Below (at_ z).heap.size (at_ z) w') → Calls Tryd.prog f args (at_ z) fun e w' => e = .returned v ∧ ∃ y, w' = at_ y := by
    intro v f args z h
    obtain ⟨B, G, K3, K4⟩ := hS z
    exact h.mono fun e w' ⟨he, bx⟩ => ⟨he, hin _ ⟨B.trans (bx.mono (Nat.le_of_lt K3.lt)), G.keep bx, K3.keep bx, K4.keep bx⟩⟩
  have Hkeep := hid keep; have HhS := hid hS; have Hin := hid hin
  clear keep hS hin
  (refine wpQuiet_step (fun K hK => ?_); (refine quiet_loadK rfl _ _ rfl g rfl _ _ (fun z => (HhS.out z).2.2.1) _ _ Tryd.underlying26 EL.out ?_); go_simp; refine hK _ ?_; clear hK K)
  (refine wpQuiet_step (fun K hK => ?_); (refine quiet_callK rfl 23 #[.agg (bcells l)] (fun w => by go_simp) _ (fun z => Hkeep.out _ _ _ z (text_calls l hl _)) ?_); go_simp; refine hK _ ?_; clear hK K)
  (refine wpQuiet_step (fun K hK => ?_); (refine quiet_loadK rfl _ _ rfl (g + 1) rfl _ _ (fun z => (HhS.out z).2.2.2) _ _ Tryd.underlying26 EM.out ?_); go_simp; refine hK _ ?_; clear hK K)
  (refine wpQuiet_step (fun K hK => ?_); (refine quiet_callK rfl 23 #[.agg (bcells l)] (fun w => by go_simp) _ (fun z => Hkeep.out _ _ _ z (text_calls l hl _)) ?_); go_simp; refine hK _ ?_; clear hK K)
  have hlt := HLT.out; have hgt := HGT.out
  repeat (refine wpQuiet_step (fun K hK => ?_); go_simp; refine hK _ ?_; clear hK K)
  clear hlt hgt
  refine wpQuiet_nil ?_
  clear HhS Hin Hkeep
  rintro w6 ⟨b, gg, k3, k4⟩
  have B := hid b; have G := hid gg; have K3 := hid k3; have K4 := hid k4
  clear b gg k3 k4
  go_wp2_with fail
  refine (read_to x _ (zeroB 32) 5 hB hE).mono ?_
  rintro _ w7a ⟨rfl, bx⟩
  have B := hid (B.out.trans (bx.mono (Nat.le_of_lt K3.out.lt))); have G := hid (G.out.keep bx); have K3 := hid (K3.out.keep bx); have K4 := hid (K4.out.keep bx)
  clear bx
  have K := hid (Blk.new w7a 26 (bcells (zeroB 32)))
  go_wp2_with ((refine wpList_store_blk rfl 26 _ _ rfl w7a.heap.size _ rfl rfl 26 _ K.out ER.out rfl (bcells_oneCell _) ?_); refine Held.go ?_)
  obtain ⟨bx, k1⟩ := new_set w7a 26 (bcells (zeroB 32)) (bcells ((zeroB 32)))
  generalize (w7a.alloc (.cells (bcells (zeroB 32)) 26)).setRow w7a.heap.size (bcells ((zeroB 32))) = w7b at bx k1 ⊢
  have B := hid (B.out.trans (bx.mono (Nat.le_of_lt K3.out.lt))); have G := hid (G.out.keep bx); have K3 := hid (K3.out.keep bx); have K4 := hid (K4.out.keep bx)
  generalize w7a.heap.size = g11 at k1 ⊢
  have K11 := hid k1
  clear bx k1 K
  unfold Held
  try dsimp only
  repeat (first | ((with_reducible refine wpList_load_blk_g ?_ 26 (.tmp 3) ?_ g ?_ 26 _ K3.out _ _ Tryd.underlying26 EL.out ?_); exact rfl; exact rfl; exact rfl) | ((with_reducible refine wpList_load_blk_g ?_ 26 (.tmp 4) ?_ (g + 1) ?_ 26 _ K4.out _ _ Tryd.underlying26 EM.out ?_); exact rfl; exact rfl; exact rfl) | ((with_reducible refine wpList_load_blk_g ?_ 26 (.tmp 11) ?_ g11 ?_ 26 _ K11.out _ _ Tryd.underlying26 ER.out ?_); exact rfl; exact rfl; exact rfl) | go_values | go_guarded | go_step | go_upon | go_back)
  refine (own_compare_calls l l _ hl hl).mono ?_
  rintro _ w8 ⟨rfl, bx⟩
  have B := hid (B.out.trans (bx.mono (Nat.le_of_lt K3.out.lt))); have G := hid (G.out.keep bx); have K3 := hid (K3.out.keep bx); have K4 := hid (K4.out.keep bx); have K11 := hid (K11.out.keep bx)
  clear bx
  rw [hk]
  try dsimp only
  repeat (first | ((with_reducible refine wpList_load_blk_g ?_ 26 (.tmp 3) ?_ g ?_ 26 _ K3.out _ _ Tryd.underlying26 EL.out ?_); exact rfl; exact rfl; exact rfl) | ((with_reducible refine wpList_load_blk_g ?_ 26 (.tmp 4) ?_ (g + 1) ?_ 26 _ K4.out _ _ Tryd.underlying26 EM.out ?_); exact rfl; exact rfl; exact rfl) | ((with_reducible refine wpList_load_blk_g ?_ 26 (.tmp 11) ?_ g11 ?_ 26 _ K11.out _ _ Tryd.underlying26 ER.out ?_); exact rfl; exact rfl; exact rfl) | go_values | go_guarded | go_step | go_upon | go_back)
  refine (own_compare_calls l l _ hl hl).mono ?_
  rintro _ w9 ⟨rfl, bx⟩
  have B := hid (B.out.trans (bx.mono (Nat.le_of_lt K3.out.lt))); have G := hid (G.out.keep bx); have K3 := hid (K3.out.keep bx); have K4 := hid (K4.out.keep bx); have K11 := hid (K11.out.keep bx)
  clear bx
  rw [hk2]
  have heq := HE2.out; have heq3 := HE3.out
  try dsimp only
  repeat (first | ((with_reducible refine wpList_load_blk_g ?_ 26 (.tmp 3) ?_ g ?_ 26 _ K3.out _ _ Tryd.underlying26 EL.out ?_); exact rfl; exact rfl; exact rfl) | ((with_reducible refine wpList_load_blk_g ?_ 26 (.tmp 4) ?_ (g + 1) ?_ 26 _ K4.out _ _ Tryd.underlying26 EM.out ?_); exact rfl; exact rfl; exact rfl) | ((with_reducible refine wpList_load_blk_g ?_ 26 (.tmp 11) ?_ g11 ?_ 26 _ K11.out _ _ Tryd.underlying26 ER.out ?_); exact rfl; exact rfl; exact rfl) | go_values | go_guarded | go_step | go_upon | go_back)
  clear heq heq3
  go_ret
  exact ⟨rfl, by rw [HG.out]; exact B.out⟩
set_option maxHeartbeats 4000000 in
set_option maxRecDepth 100000 in
theorem texts_more_ok (l m x : List UInt8) (w : World) (hl : l.length = 32) (hm : m.length = 32) (hn : x.length ≤ 100) (hG : Glob w) (hk : cmpL l m = 1) (y : List UInt8) (lR : y.length = 32) (hT : textB y = x) (hB : readB x = y) (hE : readE x = 0) :
    Calls Tryd.prog 8 #[.agg (bcells l), .agg (bcells m), .string (strB x)] w fun e w' => e = .returned (.bool true) ∧ Below w.heap.size w w' := by
  have hz := (zero_of_info info26).1
  have hsz : (strB x).size = x.length := rfl
  have hs64 : (strB (textB l)).size = 64 := by
    have := textB_length l
    rw [hl] at this
    exact this
  have hn' : ¬ (100 : Int) < (x.length : Int) := by omega
  have hk2 : cmpL m l = -1 := by have := cmp_flip l m; omega
  have hlt0 : Op.bytesLess (strB (textB l)).toList (strB (textB m)).toList = false := by simp only [strB_toList]; rw [less_text l m (by omega), hk]; rfl
  have hlm : (l == m) = false := by rw [← cmp_zero l m (by omega), hk]; rfl
  have hle0 : ((strB (textB l)).toList == (strB (textB m)).toList) = false := by
    simp only [strB_toList]
    refine beq_eq_false_iff_ne.2 fun e => beq_eq_false_iff_ne.1 hlm (text_inj e)
  have hgt0 : ∀ W, (binOp .gtr 9 (.string (strB (textB l))) (.string (strB (textB m)))).run Tryd.prog W = .ok (.bool true) W := fun W => by
    show Sem.run _ (pure (Value.bool (!(Op.bytesLess (strB (textB l)).toList (strB (textB m)).toList || (strB (textB l)).toList == (strB (textB m)).toList)))) W = _
    rw [hlt0, hle0]; rfl
  have HLT := hid hlt0; have HGT := hid hgt0
  clear hlt0 hle0 hgt0
  have k0 := ((Blk.new w 26 (bcells l)).alloc (.cells (bcells m) 26))
  have k1 := (Blk.new (w.alloc (.cells (bcells l) 26)) 26 (bcells m))
  have b1 := (((Below.refl w.heap.size w).alloc (Nat.le_refl _) (.cells (bcells l) 26)).alloc (by rw [size_new]; omega) (.cells (bcells m) 26))
  rw [size_new] at k1
  have K3 := hid k0; have K4 := hid k1; have B := hid b1; have G := hid (hG.keep b1); clear k0 k1 b1 hG
  have szs : ∀ y : List UInt8, y.length = 32 → (Tryd.prog.info? 26).map (·.size) = some (bcells y).size := fun y hy => by rw [bcells_size, hy]; exact (zero_of_info info26).2
  have szz : ∀ y : List UInt8, y.length = 32 → (bcells (zeroB 32)).size = (bcells y).size := fun y hy => by rw [bcells_size, bcells_size, hy]; rfl

  have EL := hid (szs _ hl); have EM := hid (szs _ hm); have ER := hid (szs _ lR); have HsL := hid (szz _ hl); have HsR := hid (szz _ lR)
  have eqs : ∀ y z : List UInt8, y.length = 32 → z.length = 32 → ∀ W, (Op.equalIn 10000 26 (.agg (bcells y)) (.agg (bcells z))).run Tryd.prog W = .ok (y == z) W := fun y z hy hz W =>
    run_equal_arr (P := Tryd.prog) 26 5 32 Tryd.underlying26 Tryd.underlying5 (by kernel_rfl) y z hy hz W
  have e1 : ∀ W, (Op.equalIn 10000 26 (.agg (bcells l)) (.agg (bcells l))).run Tryd.prog W = .ok true W := fun W => by
    have := eqs l l hl hl W
    rw [beq_self_eq_true] at this; exact this
  have e2 : ∀ W, (Op.equalIn 10000 26 (.agg (bcells l)) (.agg (bcells m))).run Tryd.prog W = .ok false W := fun W => by
    have := eqs l m hl hm W
    rw [hlm] at this; exact this
  have e3 := eqs _ _ lR lR
  rw [beq_self_eq_true] at e3
  have HE3 := hid (e3 : ∀ W, (Op.equalIn 10000 26 (.agg (bcells y)) (.agg (bcells y))).run Tryd.prog W = .ok true W)
  have HE1 := hid e1; have HE2 := hid e2; have HEQ := hid eqs; have HLM := hid hlm
  clear e1 e2 e3 eqs szs szz hlm
  go_enter Tryd.func8, Tryd.ntmps8
  go_wp2_with fail
  generalize (w.alloc (.cells (bcells l) 26)).alloc (.cells (bcells m) 26) = wA at K3 K4 B G ⊢
  generalize hg : w.heap.size = g at K3 K4 B ⊢
  have HG := hid hg; clear hg
  refine (known_calls wA G.out).mono ?_
  rintro _ w1 ⟨rfl, bx⟩
  have B := hid (B.out.trans (bx.mono (Nat.le_of_lt K3.out.lt))); have G := hid (G.out.keep bx); have K3 := hid (K3.out.keep bx); have K4 := hid (K4.out.keep bx)
  clear bx
  go_wp2_with (refine wpList_load_blk rfl 26 _ rfl g rfl 26 _ K3.out _ _ Tryd.underlying26 EL.out ?_)
  refine (text_calls l hl w1).mono ?_
  rintro _ w2 ⟨rfl, bx⟩
  have B := hid (B.out.trans (bx.mono (Nat.le_of_lt K3.out.lt))); have G := hid (G.out.keep bx); have K3 := hid (K3.out.keep bx); have K4 := hid (K4.out.keep bx)
  clear bx
  go_wp2_with fail
  refine (read_back l w2 hl).mono ?_
  rintro _ w3a ⟨rfl, bx⟩
  have B := hid (B.out.trans (bx.mono (Nat.le_of_lt K3.out.lt))); have G := hid (G.out.keep bx); have K3 := hid (K3.out.keep bx); have K4 := hid (K4.out.keep bx)
  clear bx
  have K := hid (Blk.new w3a 26 (bcells (zeroB 32)))
  go_wp2_with ((refine wpList_store_blk rfl 26 _ _ rfl w3a.heap.size _ rfl rfl 26 _ K.out EL.out HsL.out (bcells_oneCell _) ?_); refine Held.go ?_)
  obtain ⟨bx, k1⟩ := new_set w3a 26 (bcells (zeroB 32)) (bcells (l))
  generalize (w3a.alloc (.cells (bcells (zeroB 32)) 26)).setRow w3a.heap.size (bcells (l)) = w3b at bx k1 ⊢
  have B := hid (B.out.trans (bx.mono (Nat.le_of_lt K3.out.lt))); have G := hid (G.out.keep bx); have K3 := hid (K3.out.keep bx); have K4 := hid (K4.out.keep bx)
  generalize w3a.heap.size = g8 at k1 ⊢
  have K8 := hid k1
  clear bx k1 K
  unfold Held
  have heq := HE1.out
  try dsimp only
  repeat (first | ((with_reducible refine wpList_load_blk_g ?_ 26 (.tmp 8) ?_ g8 ?_ 26 _ K8.out _ _ Tryd.underlying26 EL.out ?_); exact rfl; exact rfl; exact rfl) | ((with_reducible refine wpList_load_blk_g ?_ 26 (.tmp 3) ?_ g ?_ 26 _ K3.out _ _ Tryd.underlying26 EL.out ?_); exact rfl; exact rfl; exact rfl) | go_values | go_guarded | go_step | go_upon | go_back)
  clear heq
  refine (text_calls l hl _).mono ?_
  rintro _ w4 ⟨rfl, bx⟩
  have B := hid (B.out.trans (bx.mono (Nat.le_of_lt K3.out.lt))); have G := hid (G.out.keep bx); have K3 := hid (K3.out.keep bx); have K4 := hid (K4.out.keep bx); have K8 := hid (K8.out.keep bx)
  clear bx
  try dsimp only
  repeat (first | ((with_reducible refine wpList_load_blk_g ?_ 26 (.tmp 8) ?_ g8 ?_ 26 _ K8.out _ _ Tryd.underlying26 EL.out ?_); exact rfl; exact rfl; exact rfl) | ((with_reducible refine wpList_load_blk_g ?_ 26 (.tmp 3) ?_ g ?_ 26 _ K3.out _ _ Tryd.underlying26 EL.out ?_); exact rfl; exact rfl; exact rfl) | go_values | go_guarded | go_step | go_upon | go_back)
  go_wp2_with fail
  clear K8
  refine wp_region_class (fun w' => Below g w w' ∧ Glob w' ∧ Blk w' g _ _ ∧ Blk w' (g + 1) _ _) (by kernel_rfl) (by kernel_rfl) ⟨B.out.drew, G.out, K3.out.drew, K4.out.drew⟩ ?_
  intro S _ at_ hS hin
  have keep : ∀ (v : Value) (f : FuncId) (args : Array Value) (z : S), (Calls Tryd.prog f args (at_ z) fun e w' => e = .returned v ∧ Below (at_ z).heap.size (at_ z) w') → Calls Tryd.prog f args (at_ z) fun e w' => e = .returned v ∧ ∃ y, w' = at_ y := by
    intro v f args z h
    obtain ⟨B, G, K3, K4⟩ := hS z
    exact h.mono fun e w' ⟨he, bx⟩ => ⟨he, hin _ ⟨B.trans (bx.mono (Nat.le_of_lt K3.lt)), G.keep bx, K3.keep bx, K4.keep bx⟩⟩
  have Hkeep := hid keep; have HhS := hid hS; have Hin := hid hin
  clear keep hS hin
  (refine wpQuiet_step (fun K hK => ?_); (refine quiet_loadK rfl _ _ rfl g rfl _ _ (fun z => (HhS.out z).2.2.1) _ _ Tryd.underlying26 EL.out ?_); go_simp; refine hK _ ?_; clear hK K)
  (refine wpQuiet_step (fun K hK => ?_); (refine quiet_callK rfl 23 #[.agg (bcells l)] (fun w => by go_simp) _ (fun z => Hkeep.out _ _ _ z (text_calls l hl _)) ?_); go_simp; refine hK _ ?_; clear hK K)
  (refine wpQuiet_step (fun K hK => ?_); (refine quiet_loadK rfl _ _ rfl (g + 1) rfl _ _ (fun z => (HhS.out z).2.2.2) _ _ Tryd.underlying26 EM.out ?_); go_simp; refine hK _ ?_; clear hK K)
  (refine wpQuiet_step (fun K hK => ?_); (refine quiet_callK rfl 23 #[.agg (bcells m)] (fun w => by go_simp) _ (fun z => Hkeep.out _ _ _ z (text_calls m hm _)) ?_); go_simp; refine hK _ ?_; clear hK K)
  have hlt := HLT.out; have hgt := HGT.out
  repeat (refine wpQuiet_step (fun K hK => ?_); go_simp; refine hK _ ?_; clear hK K)
  clear hlt hgt
  refine wpQuiet_nil ?_
  clear HhS Hin Hkeep
  rintro w5 ⟨b, gg, k3, k4⟩
  have B := hid b; have G := hid gg; have K3 := hid k3; have K4 := hid k4
  clear b gg k3 k4
  go_wp2_with fail
  refine wp_region_class (fun w' => Below g w w' ∧ Glob w' ∧ Blk w' g _ _ ∧ Blk w' (g + 1) _ _) (by kernel_rfl) (by kernel_rfl) ⟨B.out.drew, G.out, K3.out.drew, K4.out.drew⟩ ?_
  intro S _ at_ hS hin
  have keep : ∀ (v : Value) (f : FuncId) (args : Array Value) (z : S), (Calls Tryd.prog f args (at_ z) fun e w' => e = .returned v ∧ Below (at_ z).heap.size (at_ z) w') → Calls Tryd.prog f args (at_ z) fun e w' => e = .returned v ∧ ∃ y, w' = at_ y := by
    intro v f args z h
    obtain ⟨B, G, K3, K4⟩ := hS z
    exact h.mono fun e w' ⟨he, bx⟩ => ⟨he, hin _ ⟨B.trans (bx.mono (Nat.le_of_lt K3.lt)), G.keep bx, K3.keep bx, K4.keep bx⟩⟩
  have Hkeep := hid keep; have HhS := hid hS; have Hin := hid hin
  clear keep hS hin
  (refine wpQuiet_step (fun K hK => ?_); (refine quiet_loadK rfl _ _ rfl g rfl _ _ (fun z => (HhS.out z).2.2.1) _ _ Tryd.underlying26 EL.out ?_); go_simp; refine hK _ ?_; clear hK K)
  (refine wpQuiet_step (fun K hK => ?_); (refine quiet_callK rfl 23 #[.agg (bcells l)] (fun w => by go_simp) _ (fun z => Hkeep.out _ _ _ z (text_calls l hl _)) ?_); go_simp; refine hK _ ?_; clear hK K)
  (refine wpQuiet_step (fun K hK => ?_); (refine quiet_loadK rfl _ _ rfl (g + 1) rfl _ _ (fun z => (HhS.out z).2.2.2) _ _ Tryd.underlying26 EM.out ?_); go_simp; refine hK _ ?_; clear hK K)
  (refine wpQuiet_step (fun K hK => ?_); (refine quiet_callK rfl 23 #[.agg (bcells m)] (fun w => by go_simp) _ (fun z => Hkeep.out _ _ _ z (text_calls m hm _)) ?_); go_simp; refine hK _ ?_; clear hK K)
  have hlt := HLT.out; have hgt := HGT.out
  repeat (refine wpQuiet_step (fun K hK => ?_); go_simp; refine hK _ ?_; clear hK K)
  clear hlt hgt
  refine wpQuiet_nil ?_
  clear HhS Hin Hkeep
  rintro w6 ⟨b, gg, k3, k4⟩
  have B := hid b; have G := hid gg; have K3 := hid k3; have K4 := hid k4
  clear b gg k3 k4
  go_wp2_with fail
  refine (read_to x _ y 0 hB hE).mono ?_
  rintro _ w7a ⟨rfl, bx⟩
  have B := hid (B.out.trans (bx.mono (Nat.le_of_lt K3.out.lt))); have G := hid (G.out.keep bx); have K3 := hid (K3.out.keep bx); have K4 := hid (K4.out.keep bx)
  clear bx
  have K := hid (Blk.new w7a 26 (bcells (zeroB 32)))
  go_wp2_with ((refine wpList_store_blk rfl 26 _ _ rfl w7a.heap.size _ rfl rfl 26 _ K.out ER.out HsR.out (bcells_oneCell _) ?_); refine Held.go ?_)
  obtain ⟨bx, k1⟩ := new_set w7a 26 (bcells (zeroB 32)) (bcells (y))
  generalize (w7a.alloc (.cells (bcells (zeroB 32)) 26)).setRow w7a.heap.size (bcells (y)) = w7b at bx k1 ⊢
  have B := hid (B.out.trans (bx.mono (Nat.le_of_lt K3.out.lt))); have G := hid (G.out.keep bx); have K3 := hid (K3.out.keep bx); have K4 := hid (K4.out.keep bx)
  generalize w7a.heap.size = g11 at k1 ⊢
  have K11 := hid k1
  clear bx k1 K
  unfold Held
  try dsimp only
  repeat (first | ((with_reducible refine wpList_load_blk_g ?_ 26 (.tmp 3) ?_ g ?_ 26 _ K3.out _ _ Tryd.underlying26 EL.out ?_); exact rfl; exact rfl; exact rfl) | ((with_reducible refine wpList_load_blk_g ?_ 26 (.tmp 4) ?_ (g + 1) ?_ 26 _ K4.out _ _ Tryd.underlying26 EM.out ?_); exact rfl; exact rfl; exact rfl) | ((with_reducible refine wpList_load_blk_g ?_ 26 (.tmp 11) ?_ g11 ?_ 26 _ K11.out _ _ Tryd.underlying26 ER.out ?_); exact rfl; exact rfl; exact rfl) | go_values | go_guarded | go_step | go_upon | go_back)
  refine (own_compare_calls l m _ hl hm).mono ?_
  rintro _ w8 ⟨rfl, bx⟩
  have B := hid (B.out.trans (bx.mono (Nat.le_of_lt K3.out.lt))); have G := hid (G.out.keep bx); have K3 := hid (K3.out.keep bx); have K4 := hid (K4.out.keep bx); have K11 := hid (K11.out.keep bx)
  clear bx
  rw [hk]
  try dsimp only
  repeat (first | ((with_reducible refine wpList_load_blk_g ?_ 26 (.tmp 3) ?_ g ?_ 26 _ K3.out _ _ Tryd.underlying26 EL.out ?_); exact rfl; exact rfl; exact rfl) | ((with_reducible refine wpList_load_blk_g ?_ 26 (.tmp 4) ?_ (g + 1) ?_ 26 _ K4.out _ _ Tryd.underlying26 EM.out ?_); exact rfl; exact rfl; exact rfl) | ((with_reducible refine wpList_load_blk_g ?_ 26 (.tmp 11) ?_ g11 ?_ 26 _ K11.out _ _ Tryd.underlying26 ER.out ?_); exact rfl; exact rfl; exact rfl) | go_values | go_guarded | go_step | go_upon | go_back)
  refine (own_compare_calls m l _ hm hl).mono ?_
  rintro _ w9 ⟨rfl, bx⟩
  have B := hid (B.out.trans (bx.mono (Nat.le_of_lt K3.out.lt))); have G := hid (G.out.keep bx); have K3 := hid (K3.out.keep bx); have K4 := hid (K4.out.keep bx); have K11 := hid (K11.out.keep bx)
  clear bx
  rw [hk2]
  have heq := HE2.out; have heq3 := HE3.out
  try dsimp only
  repeat (first | ((with_reducible refine wpList_load_blk_g ?_ 26 (.tmp 3) ?_ g ?_ 26 _ K3.out _ _ Tryd.underlying26 EL.out ?_); exact rfl; exact rfl; exact rfl) | ((with_reducible refine wpList_load_blk_g ?_ 26 (.tmp 4) ?_ (g + 1) ?_ 26 _ K4.out _ _ Tryd.underlying26 EM.out ?_); exact rfl; exact rfl; exact rfl) | ((with_reducible refine wpList_load_blk_g ?_ 26 (.tmp 11) ?_ g11 ?_ 26 _ K11.out _ _ Tryd.underlying26 ER.out ?_); exact rfl; exact rfl; exact rfl) | go_values | go_guarded | go_step | go_upon | go_back)
  clear heq heq3
  refine (text_calls y lR _).mono ?_
  rintro _ w10 ⟨rfl, bx⟩
  have B := hid (B.out.trans (bx.mono (Nat.le_of_lt K3.out.lt))); have G := hid (G.out.keep bx); have K3 := hid (K3.out.keep bx); have K4 := hid (K4.out.keep bx); have K11 := hid (K11.out.keep bx)
  clear bx
  rw [hT]
  try dsimp only
  repeat (first | ((with_reducible refine wpList_load_blk_g ?_ 26 (.tmp 3) ?_ g ?_ 26 _ K3.out _ _ Tryd.underlying26 EL.out ?_); exact rfl; exact rfl; exact rfl) | ((with_reducible refine wpList_load_blk_g ?_ 26 (.tmp 4) ?_ (g + 1) ?_ 26 _ K4.out _ _ Tryd.underlying26 EM.out ?_); exact rfl; exact rfl; exact rfl) | ((with_reducible refine wpList_load_blk_g ?_ 26 (.tmp 11) ?_ g11 ?_ 26 _ K11.out _ _ Tryd.underlying26 ER.out ?_); exact rfl; exact rfl; exact rfl) | go_values | go_guarded | go_step | go_upon | go_back)
  go_ret
  exact ⟨rfl, by rw [HG.out]; exact B.out⟩
set_option maxHeartbeats 4000000 in
set_option maxRecDepth 100000 in
theorem texts_more_bad (l m x : List UInt8) (w : World) (hl : l.length = 32) (hm : m.length = 32) (hn : x.length ≤ 100) (hG : Glob w) (hk : cmpL l m = 1)  (hB : readB x = (zeroB 32)) (hE : readE x = 5) :
    Calls Tryd.prog 8 #[.agg (bcells l), .agg (bcells m), .string (strB x)] w fun e w' => e = .returned (.bool true) ∧ Below w.heap.size w w' := by
  have hz := (zero_of_info info26).1
  have hsz : (strB x).size = x.length := rfl
  have hs64 : (strB (textB l)).size = 64 := by
    have := textB_length l
    rw [hl] at this
    exact this
  have hn' : ¬ (100 : Int) < (x.length : Int) := by omega
  have hk2 : cmpL m l = -1 := by have := cmp_flip l m; omega
  have hlt0 : Op.bytesLess (strB (textB l)).toList (strB (textB m)).toList = false := by simp only [strB_toList]; rw [less_text l m (by omega), hk]; rfl
  have hlm : (l == m) = false := by rw [← cmp_zero l m (by omega), hk]; rfl
  have hle0 : ((strB (textB l)).toList == (strB (textB m)).toList) = false := by
    simp only [strB_toList]
    refine beq_eq_false_iff_ne.2 fun e => beq_eq_false_iff_ne.1 hlm (text_inj e)
  have hgt0 : ∀ W, (binOp .gtr 9 (.string (strB (textB l))) (.string (strB (textB m)))).run Tryd.prog W = .ok (.bool true) W := fun W => by
    show Sem.run _ (pure (Value.bool (!(Op.bytesLess (strB (textB l)).toList (strB (textB m)).toList || (strB (textB l)).toList == (strB (textB m)).toList)))) W = _
    rw [hlt0, hle0]; rfl
  have HLT := hid hlt0; have HGT := hid hgt0
  clear hlt0 hle0 hgt0
  have k0 := ((Blk.new w 26 (bcells l)).alloc (.cells (bcells m) 26))
  have k1 := (Blk.new (w.alloc (.cells (bcells l) 26)) 26 (bcells m))
  have b1 := (((Below.refl w.heap.size w).alloc (Nat.le_refl _) (.cells (bcells l) 26)).alloc (by rw [size_new]; omega) (.cells (bcells m) 26))
  rw [size_new] at k1
  have K3 := hid k0; have K4 := hid k1; have B := hid b1; have G := hid (hG.keep b1); clear k0 k1 b1 hG
  have szs : ∀ y : List UInt8, y.length = 32 → (Tryd.prog.info? 26).map (·.size) = some (bcells y).size := fun y hy => by rw [bcells_size, hy]; exact (zero_of_info info26).2
  have szz : ∀ y : List UInt8, y.length = 32 → (bcells (zeroB 32)).size = (bcells y).size := fun y hy => by rw [bcells_size, bcells_size, hy]; rfl
  have lR : (zeroB 32).length = 32 := rfl
  have EL := hid (szs _ hl); have EM := hid (szs _ hm); have ER := hid (szs _ lR); have HsL := hid (szz _ hl); have HsR := hid (szz _ lR)
  have eqs : ∀ y z : List UInt8, y.length = 32 → z.length = 32 → ∀ W, (Op.equalIn 10000 26 (.agg (bcells y)) (.agg (bcells z))).run Tryd.prog W = .ok (y == z) W := fun y z hy hz W =>
    run_equal_arr (P := Tryd.prog) 26 5 32 Tryd.underlying26 Tryd.underlying5 (by kernel_rfl) y z hy hz W
  have e1 : ∀ W, (Op.equalIn 10000 26 (.agg (bcells l)) (.agg (bcells l))).run Tryd.prog W = .ok true W := fun W => by
    have := eqs l l hl hl W
    rw [beq_self_eq_true] at this; exact this
  have e2 : ∀ W, (Op.equalIn 10000 26 (.agg (bcells l)) (.agg (bcells m))).run Tryd.prog W = .ok false W := fun W => by
    have := eqs l m hl hm W
    rw [hlm] at this; exact this
  have e3 := eqs _ _ lR lR
  rw [beq_self_eq_true] at e3
  have HE3 := hid (e3 : ∀ W, (Op.equalIn 10000 26 (.agg (bcells (zeroB 32))) (.agg (bcells (zeroB 32)))).run Tryd.prog W = .ok true W)
  have HE1 := hid e1; have HE2 := hid e2; have HEQ := hid eqs; have HLM := hid hlm
  clear e1 e2 e3 eqs szs szz hlm
  go_enter Tryd.func8, Tryd.ntmps8
  go_wp2_with fail
  generalize (w.alloc (.cells (bcells l) 26)).alloc (.cells (bcells m) 26) = wA at K3 K4 B G ⊢
  generalize hg : w.heap.size = g at K3 K4 B ⊢
  have HG := hid hg; clear hg
  refine (known_calls wA G.out).mono ?_
  rintro _ w1 ⟨rfl, bx⟩
  have B := hid (B.out.trans (bx.mono (Nat.le_of_lt K3.out.lt))); have G := hid (G.out.keep bx); have K3 := hid (K3.out.keep bx); have K4 := hid (K4.out.keep bx)
  clear bx
  go_wp2_with (refine wpList_load_blk rfl 26 _ rfl g rfl 26 _ K3.out _ _ Tryd.underlying26 EL.out ?_)
  refine (text_calls l hl w1).mono ?_
  rintro _ w2 ⟨rfl, bx⟩
  have B := hid (B.out.trans (bx.mono (Nat.le_of_lt K3.out.lt))); have G := hid (G.out.keep bx); have K3 := hid (K3.out.keep bx); have K4 := hid (K4.out.keep bx)
  clear bx
  go_wp2_with fail
  refine (read_back l w2 hl).mono ?_
  rintro _ w3a ⟨rfl, bx⟩
  have B := hid (B.out.trans (bx.mono (Nat.le_of_lt K3.out.lt))); have G := hid (G.out.keep bx); have K3 := hid (K3.out.keep bx); have K4 := hid (K4.out.keep bx)
  clear bx
  have K := hid (Blk.new w3a 26 (bcells (zeroB 32)))
  go_wp2_with ((refine wpList_store_blk rfl 26 _ _ rfl w3a.heap.size _ rfl rfl 26 _ K.out EL.out HsL.out (bcells_oneCell _) ?_); refine Held.go ?_)
  obtain ⟨bx, k1⟩ := new_set w3a 26 (bcells (zeroB 32)) (bcells (l))
  generalize (w3a.alloc (.cells (bcells (zeroB 32)) 26)).setRow w3a.heap.size (bcells (l)) = w3b at bx k1 ⊢
  have B := hid (B.out.trans (bx.mono (Nat.le_of_lt K3.out.lt))); have G := hid (G.out.keep bx); have K3 := hid (K3.out.keep bx); have K4 := hid (K4.out.keep bx)
  generalize w3a.heap.size = g8 at k1 ⊢
  have K8 := hid k1
  clear bx k1 K
  unfold Held
  have heq := HE1.out
  try dsimp only
  repeat (first | ((with_reducible refine wpList_load_blk_g ?_ 26 (.tmp 8) ?_ g8 ?_ 26 _ K8.out _ _ Tryd.underlying26 EL.out ?_); exact rfl; exact rfl; exact rfl) | ((with_reducible refine wpList_load_blk_g ?_ 26 (.tmp 3) ?_ g ?_ 26 _ K3.out _ _ Tryd.underlying26 EL.out ?_); exact rfl; exact rfl; exact rfl) | go_values | go_guarded | go_step | go_upon | go_back)
  clear heq
  refine (text_calls l hl _).mono ?_
  rintro _ w4 ⟨rfl, bx⟩
  have B := hid (B.out.trans (bx.mono (Nat.le_of_lt K3.out.lt))); have G := hid (G.out.keep bx); have K3 := hid (K3.out.keep bx); have K4 := hid (K4.out.keep bx); have K8 := hid (K8.out.keep bx)
  clear bx
  try dsimp only
  repeat (first | ((with_reducible refine wpList_load_blk_g ?_ 26 (.tmp 8) ?_ g8 ?_ 26 _ K8.out _ _ Tryd.underlying26 EL.out ?_); exact rfl; exact rfl; exact rfl) | ((with_reducible refine wpList_load_blk_g ?_ 26 (.tmp 3) ?_ g ?_ 26 _ K3.out _ _ Tryd.underlying26 EL.out ?_); exact rfl; exact rfl; exact rfl) | go_values | go_guarded | go_step | go_upon | go_back)
  go_wp2_with fail
  clear K8
  refine wp_region_class (fun w' => Below g w w' ∧ Glob w' ∧ Blk w' g _ _ ∧ Blk w' (g + 1) _ _) (by kernel_rfl) (by kernel_rfl) ⟨B.out.drew, G.out, K3.out.drew, K4.out.drew⟩ ?_
  intro S _ at_ hS hin
  have keep : ∀ (v : Value) (f : FuncId) (args : Array Value) (z : S), (Calls Tryd.prog f args (at_ z) fun e w' => e = .returned v ∧ Below (at_ z).heap.size (at_ z) w') → Calls Tryd.prog f args (at_ z) fun e w' => e = .returned v ∧ ∃ y, w' = at_ y := by
    intro v f args z h
    obtain ⟨B, G, K3, K4⟩ := hS z
    exact h.mono fun e w' ⟨he, bx⟩ => ⟨he, hin _ ⟨B.trans (bx.mono (Nat.le_of_lt K3.lt)), G.keep bx, K3.keep bx, K4.keep bx⟩⟩
  have Hkeep := hid keep; have HhS := hid hS; have Hin := hid hin
  clear keep hS hin
  (refine wpQuiet_step (fun K hK => ?_); (refine quiet_loadK rfl _ _ rfl g rfl _ _ (fun z => (HhS.out z).2.2.1) _ _ Tryd.underlying26 EL.out ?_); go_simp; refine hK _ ?_; clear hK K)
  (refine wpQuiet_step (fun K hK => ?_); (refine quiet_callK rfl 23 #[.agg (bcells l)] (fun w => by go_simp) _ (fun z => Hkeep.out _ _ _ z (text_calls l hl _)) ?_); go_simp; refine hK _ ?_; clear hK K)
  (refine wpQuiet_step (fun K hK => ?_); (refine quiet_loadK rfl _ _ rfl (g + 1) rfl _ _ (fun z => (HhS.out z).2.2.2) _ _ Tryd.underlying26 EM.out ?_); go_simp; refine hK _ ?_; clear hK K)
  (refine wpQuiet_step (fun K hK => ?_); (refine quiet_callK rfl 23 #[.agg (bcells m)] (fun w => by go_simp) _ (fun z => Hkeep.out _ _ _ z (text_calls m hm _)) ?_); go_simp; refine hK _ ?_; clear hK K)
  have hlt := HLT.out; have hgt := HGT.out
  repeat (refine wpQuiet_step (fun K hK => ?_); go_simp; refine hK _ ?_; clear hK K)
  clear hlt hgt
  refine wpQuiet_nil ?_
  clear HhS Hin Hkeep
  rintro w5 ⟨b, gg, k3, k4⟩
  have B := hid b; have G := hid gg; have K3 := hid k3; have K4 := hid k4
  clear b gg k3 k4
  go_wp2_with fail
  refine wp_region_class (fun w' => Below g w w' ∧ Glob w' ∧ Blk w' g _ _ ∧ Blk w' (g + 1) _ _) (by kernel_rfl) (by kernel_rfl) ⟨B.out.drew, G.out, K3.out.drew, K4.out.drew⟩ ?_
  intro S _ at_ hS hin
  have keep : ∀ (v : Value) (f : FuncId) (args : Array Value) (z : S), (Calls Tryd.prog f args (at_ z) fun e w' => e = .returned v ∧ Below (at_ z).heap.size (at_ z) w') → Calls Tryd.prog f args (at_ z) fun e w' => e = .returned v ∧ ∃ y, w' = at_ y := by
    intro v f args z h
    obtain ⟨B, G, K3, K4⟩ := hS z
    exact h.mono fun e w' ⟨he, bx⟩ => ⟨he, hin _ ⟨B.trans (bx.mono (Nat.le_of_lt K3.lt)), G.keep bx, K3.keep bx, K4.keep bx⟩⟩
  have Hkeep := hid keep; have HhS := hid hS; have Hin := hid hin
  clear keep hS hin
  (refine wpQuiet_step (fun K hK => ?_); (refine quiet_loadK rfl _ _ rfl g rfl _ _ (fun z => (HhS.out z).2.2.1) _ _ Tryd.underlying26 EL.out ?_); go_simp; refine hK _ ?_; clear hK K)
  (refine wpQuiet_step (fun K hK => ?_); (refine quiet_callK rfl 23 #[.agg (bcells l)] (fun w => by go_simp) _ (fun z => Hkeep.out _ _ _ z (text_calls l hl _)) ?_); go_simp; refine hK _ ?_; clear hK K)
  (refine wpQuiet_step (fun K hK => ?_); (refine quiet_loadK rfl _ _ rfl (g + 1) rfl _ _ (fun z => (HhS.out z).2.2.2) _ _ Tryd.underlying26 EM.out ?_); go_simp; refine hK _ ?_; clear hK K)
  (refine wpQuiet_step (fun K hK => ?_); (refine quiet_callK rfl 23 #[.agg (bcells m)] (fun w => by go_simp) _ (fun z => Hkeep.out _ _ _ z (text_calls m hm _)) ?_); go_simp; refine hK _ ?_; clear hK K)
  have hlt := HLT.out; have hgt := HGT.out
  repeat (refine wpQuiet_step (fun K hK => ?_); go_simp; refine hK _ ?_; clear hK K)
  clear hlt hgt
  refine wpQuiet_nil ?_
  clear HhS Hin Hkeep
  rintro w6 ⟨b, gg, k3, k4⟩
  have B := hid b; have G := hid gg; have K3 := hid k3; have K4 := hid k4
  clear b gg k3 k4
  go_wp2_with fail
  refine (read_to x _ (zeroB 32) 5 hB hE).mono ?_
  rintro _ w7a ⟨rfl, bx⟩
  have B := hid (B.out.trans (bx.mono (Nat.le_of_lt K3.out.lt))); have G := hid (G.out.keep bx); have K3 := hid (K3.out.keep bx); have K4 := hid (K4.out.keep bx)
  clear bx
  have K := hid (Blk.new w7a 26 (bcells (zeroB 32)))
  go_wp2_with ((refine wpList_store_blk rfl 26 _ _ rfl w7a.heap.size _ rfl rfl 26 _ K.out ER.out rfl (bcells_oneCell _) ?_); refine Held.go ?_)
  obtain ⟨bx, k1⟩ := new_set w7a 26 (bcells (zeroB 32)) (bcells ((zeroB 32)))
  generalize (w7a.alloc (.cells (bcells (zeroB 32)) 26)).setRow w7a.heap.size (bcells ((zeroB 32))) = w7b at bx k1 ⊢
  have B := hid (B.out.trans (bx.mono (Nat.le_of_lt K3.out.lt))); have G := hid (G.out.keep bx); have K3 := hid (K3.out.keep bx); have K4 := hid (K4.out.keep bx)
  generalize w7a.heap.size = g11 at k1 ⊢
  have K11 := hid k1
  clear bx k1 K
  unfold Held
  try dsimp only
  repeat (first | ((with_reducible refine wpList_load_blk_g ?_ 26 (.tmp 3) ?_ g ?_ 26 _ K3.out _ _ Tryd.underlying26 EL.out ?_); exact rfl; exact rfl; exact rfl) | ((with_reducible refine wpList_load_blk_g ?_ 26 (.tmp 4) ?_ (g + 1) ?_ 26 _ K4.out _ _ Tryd.underlying26 EM.out ?_); exact rfl; exact rfl; exact rfl) | ((with_reducible refine wpList_load_blk_g ?_ 26 (.tmp 11) ?_ g11 ?_ 26 _ K11.out _ _ Tryd.underlying26 ER.out ?_); exact rfl; exact rfl; exact rfl) | go_values | go_guarded | go_step | go_upon | go_back)
  refine (own_compare_calls l m _ hl hm).mono ?_
  rintro _ w8 ⟨rfl, bx⟩
  have B := hid (B.out.trans (bx.mono (Nat.le_of_lt K3.out.lt))); have G := hid (G.out.keep bx); have K3 := hid (K3.out.keep bx); have K4 := hid (K4.out.keep bx); have K11 := hid (K11.out.keep bx)
  clear bx
  rw [hk]
  try dsimp only
  repeat (first | ((with_reducible refine wpList_load_blk_g ?_ 26 (.tmp 3) ?_ g ?_ 26 _ K3.out _ _ Tryd.underlying26 EL.out ?_); exact rfl; exact rfl; exact rfl) | ((with_reducible refine wpList_load_blk_g ?_ 26 (.tmp 4) ?_ (g + 1) ?_ 26 _ K4.out _ _ Tryd.underlying26 EM.out ?_); exact rfl; exact rfl; exact rfl) | ((with_reducible refine wpList_load_blk_g ?_ 26 (.tmp 11) ?_ g11 ?_ 26 _ K11.out _ _ Tryd.underlying26 ER.out ?_); exact rfl; exact rfl; exact rfl) | go_values | go_guarded | go_step | go_upon | go_back)
  refine (own_compare_calls m l _ hm hl).mono ?_
  rintro _ w9 ⟨rfl, bx⟩
  have B := hid (B.out.trans (bx.mono (Nat.le_of_lt K3.out.lt))); have G := hid (G.out.keep bx); have K3 := hid (K3.out.keep bx); have K4 := hid (K4.out.keep bx); have K11 := hid (K11.out.keep bx)
  clear bx
  rw [hk2]
  have heq := HE2.out; have heq3 := HE3.out
  try dsimp only
  repeat (first | ((with_reducible refine wpList_load_blk_g ?_ 26 (.tmp 3) ?_ g ?_ 26 _ K3.out _ _ Tryd.underlying26 EL.out ?_); exact rfl; exact rfl; exact rfl) | ((with_reducible refine wpList_load_blk_g ?_ 26 (.tmp 4) ?_ (g + 1) ?_ 26 _ K4.out _ _ Tryd.underlying26 EM.out ?_); exact rfl; exact rfl; exact rfl) | ((with_reducible refine wpList_load_blk_g ?_ 26 (.tmp 11) ?_ g11 ?_ 26 _ K11.out _ _ Tryd.underlying26 ER.out ?_); exact rfl; exact rfl; exact rfl) | go_values | go_guarded | go_step | go_upon | go_back)
  clear heq heq3
  go_ret
  exact ⟨rfl, by rw [HG.out]; exact B.out⟩
theorem texts_long (l m x : List UInt8) (w : World) (hn : 100 < x.length) (hG : Glob w) :
    Calls Tryd.prog 8 #[.agg (bcells l), .agg (bcells m), .string (strB x)] w fun e w' => e = .returned (.bool true) ∧ Below w.heap.size w w' := by
  have hsz : (strB x).size = x.length := rfl
  have hn' : (100 : Int) < (x.length : Int) := by omega
  have B1 := hid (((Below.refl w.heap.size w).alloc (Nat.le_refl _) (.cells (bcells l) 26)).alloc (by rw [size_new]; omega) (.cells (bcells m) 26))
  have HG := hid (hG.keep B1.out)
  clear hG
  go_enter Tryd.func8, Tryd.ntmps8
  go_wp2_with fail
  generalize (w.alloc (.cells (bcells l) 26)).alloc (.cells (bcells m) 26) = wA at B1 HG ⊢
  refine (known_calls wA HG.out).mono ?_
  rintro _ w1 ⟨rfl, b1⟩
  go_wp2_with fail
  go_ret
  exact ⟨rfl, B1.out.trans (b1.mono B1.out.size)⟩
theorem texts_calls (l m x : List UInt8) (w : World) (hl : l.length = 32) (hm : m.length = 32) (hG : Glob w) :
    Calls Tryd.prog 8 #[.agg (bcells l), .agg (bcells m), .string (strB x)] w fun e w' => e = .returned (.bool true) ∧ Below w.heap.size w w' := by
  by_cases hn : 100 < x.length
  · exact texts_long l m x w hn hG
  · have hn2 : x.length ≤ 100 := by omega
    rcases read_cases x with ⟨y, lR, hT, hB, hE⟩ | ⟨hB, hE⟩
    · rcases cmp_three l m with hk | hk | hk
      · exact texts_less_ok l m x w hl hm hn2 hG hk y lR hT hB hE
      · obtain rfl : l = m := eq_of_beq ((cmp_zero l m (by rw [hl, hm])).symm.trans (by rw [hk]; rfl))
        exact texts_same_ok l x w hl hn2 hG hk y lR hT hB hE
      · exact texts_more_ok l m x w hl hm hn2 hG hk y lR hT hB hE
    · rcases cmp_three l m with hk | hk | hk
      · exact texts_less_bad l m x w hl hm hn2 hG hk hB hE
      · obtain rfl : l = m := eq_of_beq ((cmp_zero l m (by rw [hl, hm])).symm.trans (by rw [hk]; rfl))
        exact texts_same_bad l x w hl hn2 hG hk hB hE
      · exact texts_more_bad l m x w hl hm hn2 hG hk hB hE
end Go.Proofs.YtajojeajibonpaaDoor
