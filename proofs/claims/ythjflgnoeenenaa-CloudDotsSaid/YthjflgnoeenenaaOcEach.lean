/- Contracts of clouds: an iterator over a list of dots, each call of it; merge. Written by tools/mkoc7.py. -/
import Derived.Test.YthjflgnoeenenaaOcCmp
import Derived.Test.YthjflgnoeenenaaItOwn
namespace Go.Proofs.Ythjflgnoeenenaa
open Go Go.RowKit Go.Shelf Cl
attribute [local go_sem] vc_mkf

theorem ocEach_calls (n c : Nat) (A : Option Addr) (w : World) :
    Calls Try.prog 59 #[.slice A n c] w fun e w' => e = .returned (.func (.func 81) #[] #[.pointer (some ⟨w.heap.size, 0, none⟩)]) ∧ w' = w.alloc (.cells #[.slice A n c] 23) := by
  go_enter Try.func59, Try.ntmps59
  go_wp2_with fail
  go_ret
  exact ⟨rfl, rfl⟩
theorem ocMerge_calls (f1 f2 : FuncId) (c1 c2 : Array Value) (w : World) :
    Calls Try.prog 58 #[.func (.func f1) #[] c1, .func (.func f2) #[] c2] w fun e w' => e = .returned (.func (.func 78) #[] #[.pointer (some ⟨w.heap.size, 0, none⟩), .pointer (some ⟨w.heap.size + 1, 0, none⟩)]) ∧ w' = (w.alloc (.cells #[.func (.func f1) #[] c1] 77)).alloc (.cells #[.func (.func f2) #[] c2] 77) := by
  go_enter Try.func58, Try.ntmps58
  go_wp2_with fail
  go_ret
  exact ⟨by simp, rfl⟩
/-- a list that an iterator still has: its box x -/
structure EaB (W : World) (x : Nat) (Ab : Nat → Prop) (ds : List Dt) : Prop where
  ex : ∃ A c, Blk W x 23 #[.slice A ds.length c] ∧ ds.length ≤ c ∧ ND W A ds.length ds ∧ ∀ b off, A = some ⟨b, off, none⟩ → 0 < ds.length → Ab b
theorem EaB.keep {W W' : World} {x : Nat} {Ab : Nat → Prop} {ds : List Dt} (h : EaB W x Ab ds) (hx : W'.heap[x]? = W.heap[x]?) (hb : ∀ b, Ab b → W'.heap[b]? = W.heap[b]?) : EaB W' x Ab ds := by
  obtain ⟨A, c, h1, h2, h3, h4⟩ := h.ex
  refine ⟨A, c, hx.trans h1, h2, ⟨h3.1, fun hn => ?_⟩, h4⟩
  obtain ⟨b, off, e, hc⟩ := h3.2 hn
  exact ⟨b, off, e, fun j u hj => (World.cell?_of_block (a := ⟨b, off + j, none⟩) (hb b (h4 b off e hn))).trans (hc j u hj)⟩
set_option maxRecDepth 20000 in
set_option maxHeartbeats 1000000 in
theorem ocTake_calls (x : Nat) (Ab : Nat → Prop) (ds : List Dt) (w : World) (h : EaB w x Ab ds) (hne : ¬ Ab x) (hn : ds.length ≤ 1000000) :
    Calls Try.prog 81 #[.pointer (some ⟨x, 0, none⟩)] w fun e w' => e = .returned (dvv (ds.headD endD)) ∧ EaB w' x Ab ds.tail ∧ w.grownBy w' (some x) := by
  have hz := (zero_of_info info_dot0).1
  obtain ⟨A, c, hk, hc, hnd, hab⟩ := h.ex
  have HK := hid hk; have HH := hid h
  have k0 := Blk.new w 27 #[.int .i64 0, .int .i64 0]
  have b0 := below_new w (.cells #[.int .i64 0, .int .i64 0] 27)
  obtain ⟨q, hq⟩ : ∃ q, w.heap.size = q := ⟨_, rfl⟩
  obtain ⟨w1, hw1⟩ : ∃ w1, w.alloc (.cells #[.int .i64 0, .int .i64 0] 27) = w1 := ⟨_, rfl⟩
  have s0 := size_new w (.cells #[.int .i64 0, .int .i64 0] 27)
  rw [hw1] at k0 b0 s0
  rw [hq] at k0
  have HW1 := hid hw1; have HQ := hid hq; have K0 := hid k0; have B0 := hid b0; have S0 := hid s0
  have c0 : (w.alloc (.cells #[.int .i64 0, .int .i64 0] 27)).cell? ⟨x, 0, none⟩ = some (.slice A ds.length c) := (hk.keep (below_new w _)).cell 0 rfl
  have HX := hid hk.lt
  cases ds with
  | nil =>
    clear h hk hc hnd hab k0 b0 s0 hw1 hq
    have HE := hid (fun W => ocEnd_calls W)
    have c1 : (w.alloc (.cells #[.int .i64 0, .int .i64 0] 27)).cell? ⟨x, 0, none⟩ = some (.slice A 0 c) := c0
    clear c0
    show Calls Try.prog 81 #[.pointer (some ⟨x, 0, none⟩)] w fun e w' => e = .returned (dvv endD) ∧ EaB w' x Ab [] ∧ w.grownBy w' (some x)
    go_enter Try.func81, Try.ntmps81
    go_wp2_with fail
    rw [HW1.out, HQ.out]
    refine (HE.out w1).mono ?_
    rintro e W2 ⟨rfl, hb2⟩
    have HK2 := hid (K0.out.keep hb2)
    have HB2 := hid hb2
    clear hb2 HE c1
    unfold dvv
    go_wp2_with (refine wpList_store_blk rfl 27 _ _ rfl q #[.int .i64 endD.1, .int .i64 endD.2] rfl rfl 27 _ HK2.out (by kernel_rfl) rfl (by rfl) ?_; refine Held.go ?_)
    have HR := hid (HK2.out.setRow #[.int .i64 endD.1, .int .i64 endD.2])
    have HF := hid (show EaB (W2.setRow q #[.int .i64 endD.1, .int .i64 endD.2]) x Ab [] ∧ w.grownBy (W2.setRow q #[.int .i64 endD.1, .int .i64 endD.2]) (some x) from by
      have hl := HX.out
      have hb : Below w.heap.size w (W2.setRow q #[.int .i64 endD.1, .int .i64 endD.2]) := (B0.out.trans (HB2.out.mono B0.out.size)).trans (below_of_grown (grown_setRow _ _ _) (Nat.le_trans B0.out.size HB2.out.size) (fun b e => by injection e with e; have := HQ.out; omega))
      refine ⟨?_, grown_of_below hb _⟩
      obtain ⟨A5, c5, h1, h2, h3, h4⟩ := HH.out.ex
      exact ⟨A5, c5, h1.keep hb, h2, ND.nil _ _, fun b off e hn => h4 b off e hn⟩)
    unfold Held
    go_wp2_with fail
    refine bodyPost_ret (v := dvv endD) (results_cell1 rfl _ _ ⟨q, 0, none⟩ _ rfl (run_load_dot (d := endD) HR.out)) rfl ?_
    exact ⟨rfl, HF.out⟩
  | cons d r =>
    obtain ⟨k, hk1⟩ : ∃ k, r.length = k := ⟨_, rfl⟩
    have hlen : (d :: r).length = k + 1 := by rw [List.length_cons, hk1]
    rw [hlen] at hk hc hnd hab c0 hn
    obtain ⟨b, off, d', rfl, hd', hc1, hc2⟩ := hnd.at_ (show 0 < k + 1 by omega)
    obtain rfl : d = d' := by simpa using hd'
    rw [Nat.zero_mul, Nat.add_zero] at hc1 hc2
    have hAb := hab b off rfl (by omega)
    have hbx : b ≠ x := fun e => hne (e ▸ hAb)
    have hbl := lt_of_cell hc1
    have hc1' : (w.alloc (.cells #[.int .i64 0, .int .i64 0] 27)).cell? ⟨b, off, none⟩ = some (.int .i64 d.1) := cell_keep hc1 (below_new w _)
    have hc2' : (w.alloc (.cells #[.int .i64 0, .int .i64 0] 27)).cell? ⟨b, off + 1, none⟩ = some (.int .i64 d.2) := cell_keep hc2 (below_new w _)
    have hki : ((k + 1 : Nat) : Int) = (k : Int) + 1 := by omega
    have hz1 : (((k + 1 : Nat) : Int) == 0) = false := by simp; omega
    have hlt1 : (0 : Int) < ((k + 1 : Nat) : Int) := by omega
    have hsub : ((k + 1 : Nat) : Int) - 1 = (k : Int) := by omega
    have hc1i : (1 : Int) ≤ ((k + 1 : Nat) : Int) := by omega
    have hcc : 1 ≤ c := by omega
    have hcc2 : (1 : Int) ≤ (c : Int) := by omega
    have hck : ((k + 1 : Nat) : Int) ≤ (c : Int) := by omega
    have hxl := HX.out
    have bA := below_new (w.alloc (.cells #[.int .i64 0, .int .i64 0] 27)) (.cells #[.int .i64 d.1, .int .i64 d.2] 27)
    have kA := (hk.keep (below_new w (.cells #[.int .i64 0, .int .i64 0] 27))).keep bA
    have cA := kA.cell 0 rfl
    have fA := kA.frozen 0
    have hnd2 := hnd
    clear h k0 b0 s0 hw1 hq hc1 hc2 hnd hab hki bA K0 B0 S0
    have HHN := hid hnd2; have HKK := hid kA; have HLL := hid hk1
    by_cases hc1c : c = 1
    · have HK0 := hid (show k = 0 from by omega)
      subst hc1c
      have HKB := hid (show Blk (((w.alloc (.cells #[.int .i64 0, .int .i64 0] 27)).alloc (.cells #[.int .i64 d.1, .int .i64 d.2] 27)).setCell ⟨x, 0, none⟩ (.slice (some ⟨b, off, none⟩) k 0)) (w.heap.size + 1) 27 #[.int .i64 d.1, .int .i64 d.2] from by
        have := Blk.new (w.alloc (.cells #[.int .i64 0, .int .i64 0] 27)) 27 #[.int .i64 d.1, .int .i64 d.2]
        rw [size_new] at this
        exact this.far (by show w.heap.size + 1 ≠ x; omega) _)
      have KQ := hid (show Blk (((w.alloc (.cells #[.int .i64 0, .int .i64 0] 27)).alloc (.cells #[.int .i64 d.1, .int .i64 d.2] 27)).setCell ⟨x, 0, none⟩ (.slice (some ⟨b, off, none⟩) k 0)) w.heap.size 27 #[.int .i64 0, .int .i64 0] from
        ((Blk.new w 27 #[.int .i64 0, .int .i64 0]).keep (below_new _ _)).far (by show w.heap.size ≠ x; omega) _)
      have cB0 := HKB.out.cell 0 rfl
      have cB1 := HKB.out.cell 1 rfl
      have HF := hid (show ∀ W, W = (((w.alloc (.cells #[.int .i64 0, .int .i64 0] 27)).alloc (.cells #[.int .i64 d.1, .int .i64 d.2] 27)).setCell ⟨x, 0, none⟩ (.slice (some ⟨b, off, none⟩) k 0)).setRow w.heap.size #[.int .i64 d.1, .int .i64 d.2] → Blk W w.heap.size 27 #[.int .i64 d.1, .int .i64 d.2] ∧ EaB W x Ab r ∧ w.grownBy W (some x) from by
        rintro W rfl
        have hgr : w.grownBy ((((w.alloc (.cells #[.int .i64 0, .int .i64 0] 27)).alloc (.cells #[.int .i64 d.1, .int .i64 d.2] 27)).setCell ⟨x, 0, none⟩ (.slice (some ⟨b, off, none⟩) k 0)).setRow w.heap.size #[.int .i64 d.1, .int .i64 d.2]) (some x) := by
          refine ⟨rfl, rfl, rfl, by simp; omega, fun g hg hne2 => ?_⟩
          have e1 : x ≠ g := fun e => hne2 (by rw [e])
          exact ((grown_setRow _ w.heap.size _).block g (by simp; omega) (fun e => by injection e with e; omega)).trans (((grown_setCell _ x 0 _).block g (by simp; omega) (fun e => e1 (by injection e with e; exact e.symm))).trans (((below_new w _).trans ((below_new _ _).mono (by simp))).block g hg))
        refine ⟨KQ.out.setRow _, ⟨some ⟨b, off, none⟩, 0, ?_, ?_, ⟨rfl, fun hr => ?_⟩, fun b2 o2 e2 _ => by cases e2; exact hAb⟩, hgr⟩
        · have := (kA.set_ 0 (.slice (some ⟨b, off, none⟩) k 0)).grown (grown_setRow _ w.heap.size #[.int .i64 d.1, .int .i64 d.2]) (fun e => by injection e with e; omega)
          rw [hk1]
          simpa using this
        · rw [hk1]; omega
        · exact absurd hr (by have := HK0.out; omega))
      clear hc hck
      clear hnd2 kA hk1 hk hlen hAb hbx hbl hn hd' hxl
      go_enter Try.func81, Try.ntmps81
      go_wp2_with (refine wpList_store_blk rfl 27 _ _ rfl w.heap.size #[.int .i64 d.1, .int .i64 d.2] rfl rfl 27 _ KQ.out (by kernel_rfl) rfl (by rfl) ?_; refine Held.go ?_)
      have HFF := hid (HF.out _ rfl)
      unfold Held
      go_wp2_with fail
      refine bodyPost_ret (v := dvv d) (results_cell1 rfl _ _ ⟨w.heap.size, 0, none⟩ _ rfl (run_load_dot (d := d) HFF.out.1)) rfl ?_
      exact ⟨rfl, HFF.out.2⟩
    · have HKB := hid (show Blk (((w.alloc (.cells #[.int .i64 0, .int .i64 0] 27)).alloc (.cells #[.int .i64 d.1, .int .i64 d.2] 27)).setCell ⟨x, 0, none⟩ (.slice (some ⟨b, off + 2, none⟩) k (c - 1))) (w.heap.size + 1) 27 #[.int .i64 d.1, .int .i64 d.2] from by
        have := Blk.new (w.alloc (.cells #[.int .i64 0, .int .i64 0] 27)) 27 #[.int .i64 d.1, .int .i64 d.2]
        rw [size_new] at this
        exact this.far (by show w.heap.size + 1 ≠ x; omega) _)
      have KQ := hid (show Blk (((w.alloc (.cells #[.int .i64 0, .int .i64 0] 27)).alloc (.cells #[.int .i64 d.1, .int .i64 d.2] 27)).setCell ⟨x, 0, none⟩ (.slice (some ⟨b, off + 2, none⟩) k (c - 1))) w.heap.size 27 #[.int .i64 0, .int .i64 0] from
        ((Blk.new w 27 #[.int .i64 0, .int .i64 0]).keep (below_new _ _)).far (by show w.heap.size ≠ x; omega) _)
      have cB0 := HKB.out.cell 0 rfl
      have cB1 := HKB.out.cell 1 rfl
      have HF := hid (show ∀ W, W = (((w.alloc (.cells #[.int .i64 0, .int .i64 0] 27)).alloc (.cells #[.int .i64 d.1, .int .i64 d.2] 27)).setCell ⟨x, 0, none⟩ (.slice (some ⟨b, off + 2, none⟩) k (c - 1))).setRow w.heap.size #[.int .i64 d.1, .int .i64 d.2] → Blk W w.heap.size 27 #[.int .i64 d.1, .int .i64 d.2] ∧ EaB W x Ab r ∧ w.grownBy W (some x) from by
        rintro W rfl
        have hgr : w.grownBy ((((w.alloc (.cells #[.int .i64 0, .int .i64 0] 27)).alloc (.cells #[.int .i64 d.1, .int .i64 d.2] 27)).setCell ⟨x, 0, none⟩ (.slice (some ⟨b, off + 2, none⟩) k (c - 1))).setRow w.heap.size #[.int .i64 d.1, .int .i64 d.2]) (some x) := by
          refine ⟨rfl, rfl, rfl, by simp; omega, fun g hg hne2 => ?_⟩
          have e1 : x ≠ g := fun e => hne2 (by rw [e])
          exact ((grown_setRow _ w.heap.size _).block g (by simp; omega) (fun e => by injection e with e; omega)).trans (((grown_setCell _ x 0 _).block g (by simp; omega) (fun e => e1 (by injection e with e; exact e.symm))).trans (((below_new w _).trans ((below_new _ _).mono (by simp))).block g hg))
        refine ⟨KQ.out.setRow _, ⟨some ⟨b, off + 2, none⟩, (c - 1), ?_, ?_, ⟨rfl, fun hr => ?_⟩, fun b2 o2 e2 _ => by cases e2; exact hAb⟩, hgr⟩
        · have := (kA.set_ 0 (.slice (some ⟨b, off + 2, none⟩) k (c - 1))).grown (grown_setRow _ w.heap.size #[.int .i64 d.1, .int .i64 d.2]) (fun e => by injection e with e; omega)
          rw [hk1]
          simpa using this
        · rw [hk1]; omega
        · refine ⟨b, _, rfl, fun j u hj => ?_⟩
          obtain ⟨b3, o3, e3, hcell⟩ := hnd2.2 (by omega)
          cases e3
          have hj2 : (flatD (d :: r))[2 + j]? = some u := by
            have e : flatD (d :: r) = dcs d ++ flatD r := by unfold flatD; simp
            rw [e, List.getElem?_append_right (by simp [dcs])]
            simpa [dcs] using hj
          have h7 := hcell _ u hj2
          rw [← Nat.add_assoc] at h7
          exact (World.cell?_of_block (a := ⟨b, off + 2 + j, none⟩) (hgr.block b hbl (fun e => hbx (by injection e)))).trans h7)
      clear hnd2 kA hk1 hk hlen hAb hbx hbl hn hd' hxl
      go_enter Try.func81, Try.ntmps81
      go_wp2_with (refine wpList_store_blk rfl 27 _ _ rfl w.heap.size #[.int .i64 d.1, .int .i64 d.2] rfl rfl 27 _ KQ.out (by kernel_rfl) rfl (by rfl) ?_; refine Held.go ?_)
      have HFF := hid (HF.out _ rfl)
      unfold Held
      go_wp2_with fail
      refine bodyPost_ret (v := dvv d) (results_cell1 rfl _ _ ⟨w.heap.size, 0, none⟩ _ rfl (run_load_dot (d := d) HFF.out.1)) rfl ?_
      exact ⟨rfl, HFF.out.2⟩
end Go.Proofs.Ythjflgnoeenenaa
