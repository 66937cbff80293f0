/- The walk of the law on pieces. -/
import Derived.Test.YtajojeajibonpaaDoorOwnHash
import Derived.Test.YtajojeajibonpaaDoorShaKnown
import Derived.Test.YtajojeajibonpaaDoorNewSet
import Derived.Test.YtajojeajibonpaaDoorKit2
import Derived.Test.YtajojeajibonpaaDoorQuietC
namespace Go.Proofs.YtajojeajibonpaaDoor
open Go.RowKit Crc

/-- In the world w the n cells from A on hold the numbers zs. -/
def SI (w : World) (A : Option Addr) (n : Nat) (zs : List Int) : Prop :=
  zs.length = n ∧ (0 < n → ∃ b off, A = some ⟨b, off, none⟩ ∧ ∀ j z, zs[j]? = some z → w.cell? ⟨b, off + j, none⟩ = some (.int .i64 z))
theorem SI.keep {w w' : World} {A : Option Addr} {n : Nat} {zs : List Int} (h : SI w A n zs) (hb : Below w.heap.size w w') : SI w' A n zs :=
  ⟨h.1, fun hn => by
    obtain ⟨b, off, e, hc⟩ := h.2 hn
    exact ⟨b, off, e, fun j x hj => (hb.cell (p := ⟨b, off + j, none⟩) (lt_of_cell (hc j x hj))).trans (hc j x hj)⟩⟩
theorem Own.sbx {w : World} {base n c g : Nat} {e : TypeId} {A : Option Addr} {bs : List UInt8} (h : Own w base e (.slice A n c) n bs) (hg : g < base) : SBx w g A n bs := by
  obtain ⟨A', c', e', _, hs, hb⟩ := h.sb
  injection e' with e1 _ _
  subst e1
  refine ⟨hs.1, fun hn => ?_⟩
  obtain ⟨b, off, rfl, hlt, hc⟩ := hs.2 hn
  rcases h.2 with ⟨h1, _⟩ | ⟨g', cap, cur, h1, hg', _⟩
  · injection h1 with h1 _ _; cases h1
  · injection h1 with h1 _ _
    injection h1 with h1
    injection h1 with h1 _ _
    exact ⟨b, off, rfl, by omega, hlt, hc⟩
theorem drop_take {bs : List UInt8} {a t : Nat} (h : a ≤ t) : bs.take a ++ (bs.drop a).take (t - a) = bs.take t := by
  have : t = a + (t - a) := by omega
  conv => rhs; rw [this, List.take_add]

theorem pieces_long (n c m c2 : Nat) (A A2 : Option Addr) (w : World) (hn : 600 < n ∨ n ≤ 600 ∧ 12 < m) (hG : Glob w) :
    Calls Tryd.prog 7 #[.slice A n c, .slice A2 m c2] w fun e w' => e = .returned (.bool true) ∧ Below w.heap.size w w' := by
  have HG := hid hG; clear hG
  rcases hn with hn | ⟨hn, hm⟩
  · have hn' : (600 : Int) < (n : Int) := by omega
    go_enter Tryd.func7, Tryd.ntmps7
    go_wp2_with fail
    refine (known_calls w HG.out).mono ?_
    rintro _ w1 ⟨rfl, b1⟩
    go_wp2_with fail
    go_ret
    exact ⟨rfl, b1⟩
  · have hn' : ¬ (600 : Int) < (n : Int) := by omega
    have hm' : (12 : Int) < (m : Int) := by omega
    go_enter Tryd.func7, Tryd.ntmps7
    go_wp2_with fail
    refine (known_calls w HG.out).mono ?_
    rintro _ w1 ⟨rfl, b1⟩
    go_wp2_with fail
    go_ret
    exact ⟨rfl, b1⟩

set_option maxHeartbeats 8000000 in
set_option maxRecDepth 100000 in
theorem pieces_short (n c m c2 : Nat) (A A2 : Option Addr) (bs : List UInt8) (zs : List Int) (w : World) (hs : SB w w.heap.size A n bs) (hc : n ≤ c) (hi : SI w A2 m zs) (hn : n ≤ 600) (hm : m ≤ 12) (hG : Glob w) :
    Calls Tryd.prog 7 #[.slice A n c, .slice A2 m c2] w fun e w' => e = .returned (.bool true) ∧ Below w.heap.size w w' := by
  have hn' : ¬ (600 : Int) < (n : Int) := by omega
  have hm' : ¬ (12 : Int) < (m : Int) := by omega
  have HG := hid hG; have HS := hid hs; have HI := hid hi
  have HBL := hid hs.1
  clear hG hs hi
  go_enter Tryd.func7, Tryd.ntmps7
  go_wp2_with fail
  refine (known_calls w HG.out).mono ?_
  rintro _ w1 ⟨rfl, b1⟩
  have B := hid b1
  clear b1
  go_wp2_with fail
  refine (new_calls w1 (HG.out.keep B.out)).mono ?_
  rintro _ w2 ⟨g, rfl, hg1, hh, b2⟩
  have hg : w.heap.size ≤ g := Nat.le_trans B.out.size hg1
  have B := hid (B.out.trans (b2.mono B.out.size))
  have HH := hid hh
  have l2 := HG.out.lt
  clear b2 hh hg1
  go_wp2_with fail
  refine (hlen_calls g [] w2 HH.out).mono ?_
  rintro _ _ ⟨rfl, rfl⟩
  go_wp2_with fail
  have HH0 : Hid (HashB w2 g (bs.take 0)) := by rw [List.take_zero]; exact HH
  go_loopw [7, 8] (fun v7 v8 wr => ∃ a k : Nat, k ≤ m + 1 ∧ a ≤ n ∧ v7 = .int .i64 (a : Int) ∧ v8 = .int .i64 (k : Int) ∧ Hid (m < k → a = n) ∧ Hid (Below w.heap.size w wr) ∧ Hid (HashB wr g (bs.take a))) (fun _ i _ => m + 1 - (intOf i).toNat)
  case atStart => exact ⟨0, 0, by omega, by omega, rfl, rfl, fun h => absurd h (by omega), B, HH0⟩
  case round =>
    clear B HH HH0
    obtain ⟨a, k, hk, ha, rfl, rfl, HFIN, B, HH⟩ := hrel
    have ha' : (a : Int) ≤ (n : Int) := by omega
    have hac : (a : Int) ≤ (c : Int) := by omega
    have hacn : a ≤ c := by omega
    have hnc : (n : Int) ≤ (c : Int) := by omega
    by_cases hlt : k ≤ m
    · have hlt' : (k : Int) ≤ (m : Int) := by omega
      by_cases hkm : k < m
      · have hkm' : (k : Int) < (m : Int) := by omega
        obtain ⟨ib, io, rfl, hcell⟩ := (HI.out.keep B.out).2 (by omega)
        have hzl : k < zs.length := by rw [HI.out.1]; exact hkm
        have c1 := hcell k zs[k] (List.getElem?_eq_getElem hzl)
        generalize zs[k] = z at c1
        clear hcell hzl
        have p0 : (0 : Int) ≤ (k : Int) := by omega
        have hna : (n : Int) - (a : Int) + 1 ≤ 601 := by omega
        have hna0 : 0 ≤ (n : Int) - (a : Int) := by omega
        go_wp2_with fail
        refine (pick_calls z _ _ (by omega) (by omega)).mono ?_
        rintro _ _ ⟨rfl, rfl⟩
        have hz0 := Int.emod_nonneg z (show (n : Int) - (a : Int) + 1 ≠ 0 by omega)
        have hz1 := Int.emod_lt_of_pos z (show 0 < (n : Int) - (a : Int) + 1 by omega)
        generalize z % ((n : Int) - (a : Int) + 1) = q at hz0 hz1 ⊢
        obtain ⟨t, rfl⟩ : ∃ t : Nat, q = (t : Int) - (a : Int) := ⟨a + q.toNat, by omega⟩
        have hat : a ≤ t := by omega
        have htn : t ≤ n := by omega
        have hsum : (a : Int) + ((t : Int) - (a : Int)) = (t : Int) := by omega
        have hfin : m < k + 1 → t = n := fun h => by omega
        clear c1 hz0 hz1 hna hna0
        have hat' : (a : Int) ≤ (t : Int) := by omega
        have htc : (t : Int) ≤ (c : Int) := by omega
        have htcn : t ≤ c := by omega
        have ht0 : (0 : Int) ≤ (t : Int) := by omega
        have HF := hid hfin
        have hs4 := ((HS.out.keep B.out).drop (k := a) ha hc).take (t - a) (by omega)
        have HSB := hid ((HS.out.keep B.out).take t htn)
        generalize hA : (if c = a then A else A.map (·.add a)) = A3 at hs4
        have HS4 := hid hs4
        clear hs4 hfin
        go_wp2_with fail
        refine (copyBytes_calls _ (t - a) (c - a) A3 _ _ HS4.out (by omega)).mono ?_
        rintro _ w3 ⟨v3, rfl, ho, bx⟩
        obtain ⟨A4, c4, rfl, hc4, -, -⟩ := ho.sb
        have hgl := HH.out.lt
        have HX := hid (ho.sbx hgl)
        have HO := hid ho
        have B := hid (B.out.trans (bx.mono B.out.size)); have HH := hid (HH.out.keep bx)
        clear ho bx hA HS4 HSB
        go_wp2_with fail
        refine (hwrite_calls g _ _ (t - a) c4 A4 w3 HH.out HX.out hc4 (HG.out.keep B.out) (by omega) (by rw [List.length_take, HBL.out]; omega)).mono ?_
        rintro _ w4 ⟨rfl, gx, hh⟩
        rw [drop_take hat] at hh
        have HO := hid (HO.out.kept gx (.inr (fun e => by have := (HO.out.block g e).1; omega)))
        have B := hid (B.out.trans (below_of_grown gx B.out.size (fun g' e => by cases e; omega))); have HH := hid hh
        clear hh gx HX
        go_wp2_with fail
        refine (overBytes_calls _ (t - a) c4 A4 _ w4 HO.out (by omega)).mono ?_
        rintro _ w5 ⟨rfl, gx⟩
        have hne : ∀ g', (Value.slice A4 (t - a) c4).ownBlock = some g' → w.heap.size ≤ g' ∧ g < g' := fun g' e => by have := (HO.out.block g' e).1; omega
        have HH := hid (HH.out.grown gx (fun e => by have := (hne g e).2; omega))
        have B := hid (B.out.trans (below_of_grown gx B.out.size (fun g' e => (hne g' e).1)))
        clear hne gx HO hgl
        go_wp2_with fail
        refine (hsum_calls g (bs.take t) w5 HH.out (HG.out.keep B.out) (by rw [List.length_take, HBL.out]; omega)).mono ?_
        rintro _ w6 ⟨rfl, bx⟩
        have B := hid (B.out.trans (bx.mono B.out.size)); have HH := hid (HH.out.keep bx)
        clear bx
        have hz := (zero_of_info info26).1
        have hl := sha_length (bs.take t)
        have ES : Hid ((Tryd.prog.info? 26).map (·.size) = some (bcells (sha (bs.take t))).size) := by rw [Hid, bcells_size, hl]; exact (zero_of_info info26).2
        have HsS : Hid ((bcells (zeroB 32)).size = (bcells (sha (bs.take t))).size) := by rw [Hid, bcells_size, bcells_size, hl]; rfl
        have heq1 : ∀ W, (Op.equalIn 10000 26 (.agg (bcells (sha (bs.take t)))) (.agg (bcells (sha (bs.take t))))).run Tryd.prog W = .ok true W := fun W => by
          have := run_equal_arr (P := Tryd.prog) 26 5 32 Tryd.underlying26 Tryd.underlying5 (by kernel_rfl) _ _ hl hl W
          rw [beq_self_eq_true] at this
          exact this
        have HLT := hid (show (bs.take t).length = t by rw [List.length_take, HBL.out]; omega)
        have HE1 := hid heq1
        clear heq1 hl
        have K := hid (Blk.new w6 26 (bcells (zeroB 32)))
        go_wp2_with ((refine wpList_store_blk rfl 26 _ _ rfl w6.heap.size _ rfl rfl 26 _ K.out ES.out HsS.out (bcells_oneCell _) ?_); refine Held.go ?_)
        obtain ⟨bx, k1⟩ := new_set w6 26 (bcells (zeroB 32)) (bcells (sha (bs.take t)))
        generalize (w6.alloc (.cells (bcells (zeroB 32)) 26)).setRow w6.heap.size (bcells (sha (bs.take t))) = w7 at bx k1 ⊢
        have B := hid (B.out.trans (bx.mono B.out.size)); have HH := hid (HH.out.keep bx)
        generalize w6.heap.size = g7 at k1 ⊢
        have K7 := hid k1
        clear bx k1 K hz
        unfold Held
        go_wp2_with fail
        refine wp_region_class (fun w' => Below w.heap.size w w' ∧ HashB w' g (bs.take t) ∧ Blk w' g7 _ _) (by kernel_rfl) (by kernel_rfl) ⟨B.out.drew, HH.out, K7.out.drew⟩ ?_
        intro S _ at_ hS hin
        have keep : ∀ (v : Value) (f : FuncId) (args : Array Value) (x : S), (Calls Tryd.prog f args (at_ x) fun e w' => e = .returned v ∧ Below (at_ x).heap.size (at_ x) w') → Calls Tryd.prog f args (at_ x) fun e w' => e = .returned v ∧ ∃ y, w' = at_ y := by
          intro v f args x h
          obtain ⟨B, HH, K7⟩ := hS x
          exact h.mono fun e w' ⟨he, bx⟩ => ⟨he, hin _ ⟨B.trans (bx.mono B.size), HH.keep bx, K7.keep bx⟩⟩
        have Hkeep := hid keep; have HhS := hid hS
        clear keep hS hin
        (refine wpQuiet_step (fun K hK => ?_); go_simp; refine hK _ ?_; clear hK K)
        (refine wpQuiet_step (fun K hK => ?_); go_simp; refine hK _ ?_; clear hK K)
        (refine wpQuiet_step (fun K hK => ?_); go_simp; refine hK _ ?_; clear hK K)
        (refine wpQuiet_step (fun K hK => ?_); (refine quiet_loadK rfl _ _ rfl g7 rfl _ _ (fun x => (HhS.out x).2.2) _ _ Tryd.underlying26 ES.out ?_); go_simp; refine hK _ ?_; clear hK K)
        (refine wpQuiet_step (fun K hK => ?_); go_simp; refine hK _ ?_; clear hK K)
        (refine wpQuiet_step (fun K hK => ?_); go_simp; refine hK _ ?_; clear hK K)
        (refine wpQuiet_step (fun K hK => ?_); go_simp; refine hK _ ?_; clear hK K)
        (refine wpQuiet_step (fun K hK => ?_); (refine quiet_callK rfl 12 #[.slice A t c] (fun w => by go_simp) _ (fun x => Hkeep.out _ _ _ x (sum_calls _ t c A (bs.take t) _ ((HS.out.keep (HhS.out x).1).take t htn) htcn (HG.out.keep (HhS.out x).1) (by omega))) ?_); go_simp; refine hK _ ?_; clear hK K)
        have heq1 := HE1.out
        (refine wpQuiet_step (fun K hK => ?_); go_simp; refine hK _ ?_; clear hK K)
        clear heq1
        (refine wpQuiet_step (fun K hK => ?_); go_simp; refine hK _ ?_; clear hK K)
        (refine wpQuiet_step (fun K hK => ?_); go_simp; refine hK _ ?_; clear hK K)
        (refine wpQuiet_step (fun K hK => ?_); go_simp; refine hK _ ?_; clear hK K)
        (refine wpQuiet_step (fun K hK => ?_); (refine quiet_callK rfl 29 #[.pointer (some ⟨g, 0, none⟩)] (fun w => by go_simp) (.int .i64 (t : Int)) (fun x => Hkeep.out _ _ _ x ((hlen_calls g (bs.take t) _ (HhS.out x).2.1).mono fun e w' h => ⟨by rw [h.1, HLT.out], h.2 ▸ Below.refl _ _⟩)) ?_); go_simp; refine hK _ ?_; clear hK K)
        repeat (refine wpQuiet_step (fun K hK => ?_); go_simp; refine hK _ ?_; clear hK K)
        refine wpQuiet_nil ?_
        rintro w' ⟨B, HH, -⟩
        have B := hid B; have HH := hid HH
        go_wp2_with fail
        go_roundw
        case rel => exact ⟨t, k + 1, by omega, by omega, rfl, by go_num, HF, B, HH⟩
        case measure => simp [intOf]; omega
      · have hkm' : ¬ (k : Int) < (m : Int) := by omega
        have hat : a ≤ n := ha
        have htn : n ≤ n := Nat.le_refl _
        have hat' : (a : Int) ≤ (n : Int) := by omega
        have htc : (n : Int) ≤ (c : Int) := by omega
        have htcn : n ≤ c := by omega
        have ht0 : (0 : Int) ≤ (n : Int) := by omega
        have hs4 := ((HS.out.keep B.out).drop (k := a) ha hc).take (n - a) (by omega)
        have HSB := hid ((HS.out.keep B.out).take n htn)
        generalize hA : (if c = a then A else A.map (·.add a)) = A3 at hs4
        have HS4 := hid hs4
        clear hs4
        go_wp2_with fail
        refine (copyBytes_calls _ (n - a) (c - a) A3 _ _ HS4.out (by omega)).mono ?_
        rintro _ w3 ⟨v3, rfl, ho, bx⟩
        obtain ⟨A4, c4, rfl, hc4, -, -⟩ := ho.sb
        have hgl := HH.out.lt
        have HX := hid (ho.sbx hgl)
        have HO := hid ho
        have B := hid (B.out.trans (bx.mono B.out.size)); have HH := hid (HH.out.keep bx)
        clear ho bx hA HS4 HSB
        go_wp2_with fail
        refine (hwrite_calls g _ _ (n - a) c4 A4 w3 HH.out HX.out hc4 (HG.out.keep B.out) (by omega) (by rw [List.length_take, HBL.out]; omega)).mono ?_
        rintro _ w4 ⟨rfl, gx, hh⟩
        rw [drop_take hat] at hh
        have HO := hid (HO.out.kept gx (.inr (fun e => by have := (HO.out.block g e).1; omega)))
        have B := hid (B.out.trans (below_of_grown gx B.out.size (fun g' e => by cases e; omega))); have HH := hid hh
        clear hh gx HX
        go_wp2_with fail
        refine (overBytes_calls _ (n - a) c4 A4 _ w4 HO.out (by omega)).mono ?_
        rintro _ w5 ⟨rfl, gx⟩
        have hne : ∀ g', (Value.slice A4 (n - a) c4).ownBlock = some g' → w.heap.size ≤ g' ∧ g < g' := fun g' e => by have := (HO.out.block g' e).1; omega
        have HH := hid (HH.out.grown gx (fun e => by have := (hne g e).2; omega))
        have B := hid (B.out.trans (below_of_grown gx B.out.size (fun g' e => (hne g' e).1)))
        clear hne gx HO hgl
        go_wp2_with fail
        refine (hsum_calls g (bs.take n) w5 HH.out (HG.out.keep B.out) (by rw [List.length_take, HBL.out]; omega)).mono ?_
        rintro _ w6 ⟨rfl, bx⟩
        have B := hid (B.out.trans (bx.mono B.out.size)); have HH := hid (HH.out.keep bx)
        clear bx
        have hz := (zero_of_info info26).1
        have hl := sha_length (bs.take n)
        have ES : Hid ((Tryd.prog.info? 26).map (·.size) = some (bcells (sha (bs.take n))).size) := by rw [Hid, bcells_size, hl]; exact (zero_of_info info26).2
        have HsS : Hid ((bcells (zeroB 32)).size = (bcells (sha (bs.take n))).size) := by rw [Hid, bcells_size, bcells_size, hl]; rfl
        have heq1 : ∀ W, (Op.equalIn 10000 26 (.agg (bcells (sha (bs.take n)))) (.agg (bcells (sha (bs.take n))))).run Tryd.prog W = .ok true W := fun W => by
          have := run_equal_arr (P := Tryd.prog) 26 5 32 Tryd.underlying26 Tryd.underlying5 (by kernel_rfl) _ _ hl hl W
          rw [beq_self_eq_true] at this
          exact this
        have HLT := hid (show (bs.take n).length = n by rw [List.length_take, HBL.out]; omega)
        have HE1 := hid heq1
        clear heq1 hl
        have K := hid (Blk.new w6 26 (bcells (zeroB 32)))
        go_wp2_with ((refine wpList_store_blk rfl 26 _ _ rfl w6.heap.size _ rfl rfl 26 _ K.out ES.out HsS.out (bcells_oneCell _) ?_); refine Held.go ?_)
        obtain ⟨bx, k1⟩ := new_set w6 26 (bcells (zeroB 32)) (bcells (sha (bs.take n)))
        generalize (w6.alloc (.cells (bcells (zeroB 32)) 26)).setRow w6.heap.size (bcells (sha (bs.take n))) = w7 at bx k1 ⊢
        have B := hid (B.out.trans (bx.mono B.out.size)); have HH := hid (HH.out.keep bx)
        generalize w6.heap.size = g7 at k1 ⊢
        have K7 := hid k1
        clear bx k1 K hz
        unfold Held
        go_wp2_with fail
        refine wp_region_class (fun w' => Below w.heap.size w w' ∧ HashB w' g (bs.take n) ∧ Blk w' g7 _ _) (by kernel_rfl) (by kernel_rfl) ⟨B.out.drew, HH.out, K7.out.drew⟩ ?_
        intro S _ at_ hS hin
        have keep : ∀ (v : Value) (f : FuncId) (args : Array Value) (x : S), (Calls Tryd.prog f args (at_ x) fun e w' => e = .returned v ∧ Below (at_ x).heap.size (at_ x) w') → Calls Tryd.prog f args (at_ x) fun e w' => e = .returned v ∧ ∃ y, w' = at_ y := by
          intro v f args x h
          obtain ⟨B, HH, K7⟩ := hS x
          exact h.mono fun e w' ⟨he, bx⟩ => ⟨he, hin _ ⟨B.trans (bx.mono B.size), HH.keep bx, K7.keep bx⟩⟩
        have Hkeep := hid keep; have HhS := hid hS
        clear keep hS hin
        (refine wpQuiet_step (fun K hK => ?_); go_simp; refine hK _ ?_; clear hK K)
        (refine wpQuiet_step (fun K hK => ?_); go_simp; refine hK _ ?_; clear hK K)
        (refine wpQuiet_step (fun K hK => ?_); go_simp; refine hK _ ?_; clear hK K)
        (refine wpQuiet_step (fun K hK => ?_); (refine quiet_loadK rfl _ _ rfl g7 rfl _ _ (fun x => (HhS.out x).2.2) _ _ Tryd.underlying26 ES.out ?_); go_simp; refine hK _ ?_; clear hK K)
        (refine wpQuiet_step (fun K hK => ?_); go_simp; refine hK _ ?_; clear hK K)
        (refine wpQuiet_step (fun K hK => ?_); go_simp; refine hK _ ?_; clear hK K)
        (refine wpQuiet_step (fun K hK => ?_); go_simp; refine hK _ ?_; clear hK K)
        (refine wpQuiet_step (fun K hK => ?_); (refine quiet_callK rfl 12 #[.slice A n c] (fun w => by go_simp) _ (fun x => Hkeep.out _ _ _ x (sum_calls _ n c A (bs.take n) _ ((HS.out.keep (HhS.out x).1).take n htn) htcn (HG.out.keep (HhS.out x).1) (by omega))) ?_); go_simp; refine hK _ ?_; clear hK K)
        have heq1 := HE1.out
        (refine wpQuiet_step (fun K hK => ?_); go_simp; refine hK _ ?_; clear hK K)
        clear heq1
        (refine wpQuiet_step (fun K hK => ?_); go_simp; refine hK _ ?_; clear hK K)
        (refine wpQuiet_step (fun K hK => ?_); go_simp; refine hK _ ?_; clear hK K)
        (refine wpQuiet_step (fun K hK => ?_); go_simp; refine hK _ ?_; clear hK K)
        (refine wpQuiet_step (fun K hK => ?_); (refine quiet_callK rfl 29 #[.pointer (some ⟨g, 0, none⟩)] (fun w => by go_simp) (.int .i64 (n : Int)) (fun x => Hkeep.out _ _ _ x ((hlen_calls g (bs.take n) _ (HhS.out x).2.1).mono fun e w' h => ⟨by rw [h.1, HLT.out], h.2 ▸ Below.refl _ _⟩)) ?_); go_simp; refine hK _ ?_; clear hK K)
        repeat (refine wpQuiet_step (fun K hK => ?_); go_simp; refine hK _ ?_; clear hK K)
        refine wpQuiet_nil ?_
        rintro w' ⟨B, HH, -⟩
        have B := hid B; have HH := hid HH
        go_wp2_with fail
        go_roundw
        case rel => exact ⟨n, k + 1, by omega, by omega, rfl, by go_num, fun _ => rfl, B, HH⟩
        case measure => simp [intOf]; omega
    · have hlt' : ¬ (k : Int) ≤ (m : Int) := by omega
      obtain rfl : a = n := HFIN.out (by omega)
      go_wp2_with fail
      go_ret
      exact ⟨rfl, B.out⟩
end Go.Proofs.YtajojeajibonpaaDoor
