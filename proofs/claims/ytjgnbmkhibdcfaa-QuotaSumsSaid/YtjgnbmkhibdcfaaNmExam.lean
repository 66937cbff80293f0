/- Contract: examine, over whatever machine: its states are function values over one block. -/
import Derived.Test.YtjgnbmkhibdcfaaNmFn
import Derived.Test.YtjgnbmkhibdcfaaBlk
namespace Go.Proofs.Ytjgnbmkhibdcfaa
open Go.RowKit

theorem decode_valid (s : ByteArray) (pos : Nat) : Utf8.valid ((Utf8.decode s pos).1 : Int) = true := by
  have hb : ∀ k, (s.get! (pos + k)).toNat < 256 := fun k => (s.get! (pos + k)).toNat_lt
  have h0 := hb 0; have h1 := hb 1; have h2 := hb 2; have h3 := hb 3
  simp only [Utf8.decode]
  repeat' split
  all_goals simp_all [Utf8.runeError, Utf8.valid]
  all_goals omega
theorem decode_wide (s : ByteArray) (pos : Nat) (h : pos < s.size) : 1 ≤ (Utf8.decode s pos).2 ∧ pos + (Utf8.decode s pos).2 ≤ s.size := by
  simp only [Utf8.decode]
  repeat' split
  all_goals simp_all
  all_goals omega

theorem grown_row {w wr : World} {row : Option Nat} (h : w.grownBy wr row) {k : Nat} (hk : w.heap.size ≤ k) (cs : Array Value) : w.grownBy (wr.setRow k cs) row :=
  ⟨h.os, h.tape, h.output, by simpa using h.size, fun i hi hne => (setRow_other wr k i cs (by omega)).trans (h.block i hi hne)⟩
def SomeBool (w : World) (e : Ending) (w' : World) : Prop := ∃ b : Bool, e = .returned (.bool b) ∧ w = w'
theorem lite_prefix (s p : ByteArray) (w : World) (_hs : s.size ≤ 1099511627776) (_hp : p.size ≤ 1099511627776) :
    Calls Try.prog 101 #[.string s, .string p] w (SomeBool w) := by
  by_cases h : p.size ≤ s.size
  · have h1 : (p.size : Int) ≤ (s.size : Int) := by omega
    go_enter Try.func101, Try.ntmps101
    go_wp2_with fail
    go_ret
    exact ⟨_, rfl, rfl⟩
  · have h1 : ¬ (p.size : Int) ≤ (s.size : Int) := by omega
    have h2 : decide ((p.size : Int) ≤ (s.size : Int)) = false := by simpa using h1
    go_enter Try.func101, Try.ntmps101
    go_wp2_with fail
    go_ret
    exact ⟨_, rfl, rfl⟩
theorem prefix_calls (s p : ByteArray) (w : World) (hs : s.size ≤ 1099511627776) (hp : p.size ≤ 1099511627776) :
    Calls Try.prog 90 #[.string s, .string p] w (SomeBool w) := by
  have h := hid (lite_prefix s p w hs hp)
  clear hs hp
  go_enter Try.func90, Try.ntmps90
  go_wp2_with fail
  refine h.out.mono ?_
  rintro _ _ ⟨b, rfl, rfl⟩
  go_wp2_with fail
  go_ret
  exact ⟨_, rfl, rfl⟩

theorem eqIn_func (d : Nat) (fn : Fn) (first cap : Array Value) (W : World) : (Op.equalIn (d + 1) 111 (.func fn first cap) .nilFunc).run Try.prog W = .ok false W := by
  simp [Op.equalIn, run_underlying Try.underlying111]
theorem eqIn_none (d : Nat) (W : World) : (Op.equalIn (d + 1) 111 .nilFunc .nilFunc).run Try.prog W = .ok true W := by
  simp [Op.equalIn, run_underlying Try.underlying111]
theorem eql_func (fn : Fn) (first cap : Array Value) (W : World) : (binOp .eql 111 (.func fn first cap) .nilFunc).run Try.prog W = .ok (.bool false) W := by
  simp only [binOp]
  simp [Op.equal, Op.maxDepth, eqIn_func 9999 fn first cap W]
theorem eql_none (W : World) : (binOp .eql 111 .nilFunc .nilFunc).run Try.prog W = .ok (.bool true) W := by
  simp only [binOp]
  simp [Op.equal, Op.maxDepth, eqIn_none 9999 W]
attribute [local go_sem] eql_func eql_none
theorem infoFault : (Try.prog.info? 97).map (fun i => (i.zero, i.size)) = some (some (.agg #[.int .i64 0, .int .i64 0]), 2) := by kernel_rfl
/-- what a state leaves that is asked with a char: the end of the road, or the next state -/
def Took (g : Nat) (T : TypeId) (wr : World) (Stop : Prop) (Next : FuncId → Array Value → Array Value → Prop) (e : Ending) (w' : World) : Prop :=
  wr.grownBy w' (some g) ∧ ((e = .returned .nilFunc ∧ Stop) ∨ ∃ k first cs, e = .returned (.func (.func k) first #[]) ∧ Next k first cs ∧ Blk w' g T cs)
/-- what examine leaves -/
def Seen (g : Nat) (T : TypeId) (w : World) (err : Int) (Stop : Nat → Prop) (Done : Array Value → Prop) (e : Ending) (w' : World) : Prop :=
  w.grownBy w' (some g) ∧ ((∃ pos : Nat, Stop pos ∧ e = .returned (.agg #[.int .i64 err, .int .i64 (pos : Int)])) ∨ (e = .returned (.agg #[.int .i64 0, .int .i64 0]) ∧ ∃ cs, Done cs ∧ Blk w' g T cs))

theorem grown_iterAt {w wr : World} {row : Option Nat} (h : w.grownBy wr row) {k : Nat} (hk : w.heap.size ≤ k) (s : ByteArray) (p : Nat) : w.grownBy (wr.iterAt k s p) row :=
  ⟨h.os, h.tape, h.output, by rw [Lib.iterAt_size]; exact h.size, fun i hi hne => (Lib.iterAt_other wr k i s p (by omega)).trans (h.block i hi hne)⟩
theorem Blk.iterAt {w : World} {g k : Nat} {t : TypeId} {cs : Array Value} (h : Blk w g t cs) (hk : g ≠ k) (s : ByteArray) (p : Nat) : Blk (w.iterAt k s p) g t cs := (Lib.iterAt_other w k g s p hk).trans h
set_option maxHeartbeats 4000000 in
set_option maxRecDepth 100000 in
theorem examine_calls (s : ByteArray) (g : Nat) (T : TypeId) (I : Nat → FuncId → Array Value → Array Value → Prop) (Gl : World → Prop) (Stop : Nat → Prop) (Done : Array Value → Prop) (err : Int)
    (hGl : ∀ w w' : World, Gl w → w.grownBy w' (some g) → Gl w')
    (hstep : ∀ pos k first cs c wr, pos < s.size → I pos k first cs → Blk wr g T cs → Gl wr → IsChar c → (c = (Utf8.decode s pos).1 ∨ (Utf8.decode s pos).1 = 65533 ∧ c = -2) →
      Enters' k ∧ Calls Try.prog k (first ++ #[.int .i32 c]) wr (Took g T wr (Stop pos) (I (pos + (Utf8.decode s pos).2))))
    (hend : ∀ k first cs wr, I s.size k first cs → Blk wr g T cs → Gl wr → Enters' k ∧ Calls Try.prog k (first ++ #[.int .i32 (-1)]) wr (Took g T wr (Stop s.size) (fun _ _ cs => Done cs)))
    (k0 : FuncId) (first0 cs0 : Array Value) (w : World) (h0 : I 0 k0 first0 cs0) (hb : Blk w g T cs0) (hg : Gl w) (hs : s.size ≤ 1099511627776) :
    Calls Try.prog 74 #[.string s, .func (.func k0) first0 #[], .int .i64 err] w (Seen g T w err Stop Done) := by
  have lg := hb.lt
  have hz := (zero_of_info infoFault).1
  have kf := Blk.new w 97 #[.int .i64 0, .int .i64 0]
  have HGL := hid hGl; have HST := hid hstep; have HEN := hid hend; have H0 := hid h0; have HB := hid hb; have HG := hid hg; have KF := hid kf
  clear hGl hstep hend h0 hb hg kf
  go_enter Try.func74, Try.ntmps74
  go_wp2_with fail
  have hit0 : ((w.alloc (.cells #[.int .i64 0, .int .i64 0] 97)).iter s 0).heap[w.heap.size + 1]? = some (.stringIter s 0) := by
    have := World.iter_heap (w.alloc (.cells #[.int .i64 0, .int .i64 0] 97)) s 0
    simpa using this
  have g0 : w.grownBy ((w.alloc (.cells #[.int .i64 0, .int .i64 0] 97)).iter s 0) (some g) :=
    grown_of_below (((Below.refl w.heap.size w).alloc (Nat.le_refl _) _).alloc (by simp) _) _
  have kf0 : Blk ((w.alloc (.cells #[.int .i64 0, .int .i64 0] 97)).iter s 0) w.heap.size 97 #[.int .i64 0, .int .i64 0] := KF.out.alloc _
  have hb0 : Blk ((w.alloc (.cells #[.int .i64 0, .int .i64 0] 97)).iter s 0) g T cs0 := (HB.out.alloc _).alloc _
  generalize (w.alloc (.cells #[.int .i64 0, .int .i64 0] 97)).iter s 0 = w0 at hit0 g0 kf0 hb0 ⊢
  clear hz KF HB
  have EF : Hid ((Try.prog.info? 97).map (·.size) = some 2) := (zero_of_info infoFault).2
  have HIT0 := hid hit0; have GR0 := hid g0; have KF0 := hid kf0; have HB0 := hid hb0
  clear hit0 g0 kf0 hb0
  go_loopw [1] (fun v1 wr => ∃ (pos : Nat) (k : FuncId) (first cs : Array Value), pos ≤ s.size ∧ v1 = .func (.func k) first #[] ∧ Hid (I pos k first cs) ∧ Hid (Blk wr g T cs) ∧ Hid (w.grownBy wr (some g)) ∧ Hid (Blk wr w.heap.size 97 #[.int .i64 0, .int .i64 0]) ∧ Hid (wr.heap[w.heap.size + 1]? = some (.stringIter s pos))) (fun _ wr => s.size - wr.iterPos (w.heap.size + 1))
  case atStart => exact ⟨0, k0, first0, cs0, by omega, rfl, H0, HB0, GR0, KF0, HIT0⟩
  case round =>
    clear HIT0 GR0 KF0 HB0 H0
    obtain ⟨pos, k, first, cs, hp, rfl, HI, HB, GR, KF, HIT⟩ := hrel
    by_cases hlt : pos < s.size
    · obtain ⟨r, wd, hrw⟩ : ∃ r wd, Utf8.decode s pos = (r, wd) := ⟨_, _, rfl⟩
      have hval := decode_valid s pos
      have hwide := decode_wide s pos hlt
      have hstp := HST.out pos k first cs
      have hnx : ∀ ty, (Instr.next (.pointer (some ⟨w.heap.size + 1, 0, none⟩)) true ty).run Try.prog wr = _ := fun ty => Lib.run_next_any_at wr (w.heap.size + 1) s pos ty HIT.out hlt
      rw [hrw] at hval hwide hstp hnx
      obtain ⟨hw1, hw2⟩ := hwide
      simp only at hval hw1 hw2 hstp hnx
      have lf := KF.out.lt
      have li : w.heap.size + 1 < wr.heap.size := (Array.getElem?_eq_some_iff.1 HIT.out).1
      have HIT1 := hid (Lib.iterAt_heap wr (w.heap.size + 1) s pos (pos + wd) HIT.out)
      have GR1 := hid (grown_iterAt GR.out (k := w.heap.size + 1) (by omega) s (pos + wd))
      have HB1 := hid (HB.out.iterAt (k := w.heap.size + 1) (by omega) s (pos + wd))
      have KF1 := hid (KF.out.iterAt (k := w.heap.size + 1) (by omega) s (pos + wd))
      have hsz := Lib.iterAt_size wr (w.heap.size + 1) s (pos + wd)
      generalize wr.iterAt (w.heap.size + 1) s (pos + wd) = w1 at hnx GR1 HB1 KF1 HIT1 hsz
      have li1 : w.heap.size + 1 < w1.heap.size := by rw [hsz]; exact li
      clear hsz li hrw
      have hpos : (pos : Int) ≤ (s.size : Int) := by omega
      by_cases h65 : r = 65533
      · subst h65
        go_wp2_with fail
        refine (prefix_calls _ _ _ (by rw [ByteArray.size_extract]; omega) (by decide)).mono ?_
        rintro _ _ ⟨b, rfl, rfl⟩
        cases b
        · skip
          obtain ⟨hE, hC⟩ := hstp (-2) w1 hlt HI.out HB1.out (HGL.out _ _ HG.out GR1.out) (.inr (.inl rfl)) (.inr (by simp))
          unfold Enters' at hE
          have HC := hid hC
          clear hC hstp
          go_wp2_with fail
          refine HC.out.mono ?_
          rintro e w2 ⟨gx, ⟨rfl, hst⟩ | ⟨k2, first2, cs2, rfl, hI2, hb2⟩⟩
          · have KF2 := hid (KF1.out.grown gx (fun e => by cases e; omega))
            have GR2 := hid (GR1.out.trans gx)
            have HST2 := hid hst
            clear gx hE hst hnx
            go_wp2_with (refine wpList_store_blk rfl 97 _ _ rfl w.heap.size #[.int .i64 err, .int .i64 pos] rfl rfl 97 _ KF2.out EF.out rfl (by rfl) ?_)
            refine bodyPost_ret (v := .agg #[.int .i64 err, .int .i64 pos]) (results_cell_row rfl _ _ w.heap.size 97 _ (0, 0) _ rfl (KF2.out.setRow _) Try.underlying97 rfl EF.out) rfl ⟨grown_row GR2.out (Nat.le_refl _) _, .inl ⟨pos, HST2.out, rfl⟩⟩
          · have KF2 := hid (KF1.out.grown gx (fun e => by cases e; omega))
            have GR2 := hid (GR1.out.trans gx)
            have HIT2 := hid ((gx.block _ li1 (fun e => by cases e; omega)).trans HIT1.out)
            have HI2 := hid hI2; have HB2 := hid hb2
            clear gx hE hnx hI2 hb2
            go_wp2_with fail
            go_roundw
            case rel => exact ⟨pos + wd, k2, first2, cs2, by omega, rfl, HI2, HB2, GR2, KF2, HIT2⟩
            case measure => rw [iterPos_of HIT.out, iterPos_of HIT2.out]; omega
        · skip
          obtain ⟨hE, hC⟩ := hstp ((65533 : Nat) : Int) w1 hlt HI.out HB1.out (HGL.out _ _ HG.out GR1.out) (.inr (.inr ⟨by omega, hval⟩)) (.inl rfl)
          unfold Enters' at hE
          have HC := hid hC
          clear hC hstp
          go_wp2_with fail
          refine HC.out.mono ?_
          rintro e w2 ⟨gx, ⟨rfl, hst⟩ | ⟨k2, first2, cs2, rfl, hI2, hb2⟩⟩
          · have KF2 := hid (KF1.out.grown gx (fun e => by cases e; omega))
            have GR2 := hid (GR1.out.trans gx)
            have HST2 := hid hst
            clear gx hE hst hnx
            go_wp2_with (refine wpList_store_blk rfl 97 _ _ rfl w.heap.size #[.int .i64 err, .int .i64 pos] rfl rfl 97 _ KF2.out EF.out rfl (by rfl) ?_)
            refine bodyPost_ret (v := .agg #[.int .i64 err, .int .i64 pos]) (results_cell_row rfl _ _ w.heap.size 97 _ (0, 0) _ rfl (KF2.out.setRow _) Try.underlying97 rfl EF.out) rfl ⟨grown_row GR2.out (Nat.le_refl _) _, .inl ⟨pos, HST2.out, rfl⟩⟩
          · have KF2 := hid (KF1.out.grown gx (fun e => by cases e; omega))
            have GR2 := hid (GR1.out.trans gx)
            have HIT2 := hid ((gx.block _ li1 (fun e => by cases e; omega)).trans HIT1.out)
            have HI2 := hid hI2; have HB2 := hid hb2
            clear gx hE hnx hI2 hb2
            go_wp2_with fail
            go_roundw
            case rel => exact ⟨pos + wd, k2, first2, cs2, by omega, rfl, HI2, HB2, GR2, KF2, HIT2⟩
            case measure => rw [iterPos_of HIT.out, iterPos_of HIT2.out]; omega
      · have hr : ((r : Int) == 65533) = false := by rw [beq_eq_false_iff_ne]; omega
        clear h65
        obtain ⟨hE, hC⟩ := hstp (r : Int) w1 hlt HI.out HB1.out (HGL.out _ _ HG.out GR1.out) (.inr (.inr ⟨by omega, hval⟩)) (.inl rfl)
        unfold Enters' at hE
        have HC := hid hC
        clear hC hstp
        go_wp2_with fail
        refine HC.out.mono ?_
        rintro e w2 ⟨gx, ⟨rfl, hst⟩ | ⟨k2, first2, cs2, rfl, hI2, hb2⟩⟩
        · have KF2 := hid (KF1.out.grown gx (fun e => by cases e; omega))
          have GR2 := hid (GR1.out.trans gx)
          have HST2 := hid hst
          clear gx hE hst hnx
          go_wp2_with (refine wpList_store_blk rfl 97 _ _ rfl w.heap.size #[.int .i64 err, .int .i64 pos] rfl rfl 97 _ KF2.out EF.out rfl (by rfl) ?_)
          refine bodyPost_ret (v := .agg #[.int .i64 err, .int .i64 pos]) (results_cell_row rfl _ _ w.heap.size 97 _ (0, 0) _ rfl (KF2.out.setRow _) Try.underlying97 rfl EF.out) rfl ⟨grown_row GR2.out (Nat.le_refl _) _, .inl ⟨pos, HST2.out, rfl⟩⟩
        · have KF2 := hid (KF1.out.grown gx (fun e => by cases e; omega))
          have GR2 := hid (GR1.out.trans gx)
          have HIT2 := hid ((gx.block _ li1 (fun e => by cases e; omega)).trans HIT1.out)
          have HI2 := hid hI2; have HB2 := hid hb2
          clear gx hE hnx hI2 hb2
          go_wp2_with fail
          go_roundw
          case rel => exact ⟨pos + wd, k2, first2, cs2, by omega, rfl, HI2, HB2, GR2, KF2, HIT2⟩
          case measure => rw [iterPos_of HIT.out, iterPos_of HIT2.out]; omega
    · have hnx : ∀ ty, (Instr.next (.pointer (some ⟨w.heap.size + 1, 0, none⟩)) true ty).run Try.prog wr = _ := fun ty => Lib.run_next_end_at wr (w.heap.size + 1) s pos ty HIT.out hlt
      obtain rfl : pos = s.size := by omega
      obtain ⟨hE, hC⟩ := HEN.out k first cs wr HI.out HB.out (HGL.out _ _ HG.out GR.out)
      unfold Enters' at hE
      have HC := hid hC
      have lf := KF.out.lt
      clear hC
      go_wp2_with fail
      refine HC.out.mono ?_
      rintro e w2 ⟨gx, ⟨rfl, hst⟩ | ⟨k2, first2, cs2, rfl, hI2, hb2⟩⟩
      · have KF2 := hid (KF.out.grown gx (fun e => by cases e; omega))
        have GR2 := hid (GR.out.trans gx)
        have HST2 := hid hst
        clear gx hE hst hnx
        go_wp2_with (refine wpList_store_blk rfl 97 _ _ rfl w.heap.size #[.int .i64 err, .int .i64 (s.size : Int)] rfl rfl 97 _ KF2.out EF.out rfl (by rfl) ?_)
        refine bodyPost_ret (v := .agg #[.int .i64 err, .int .i64 (s.size : Int)]) (results_cell_row rfl _ _ w.heap.size 97 _ (0, 0) _ rfl (KF2.out.setRow _) Try.underlying97 rfl EF.out) rfl ⟨grown_row GR2.out (Nat.le_refl _) _, .inl ⟨s.size, HST2.out, rfl⟩⟩
      · have KF2 := hid (KF.out.grown gx (fun e => by cases e; omega))
        have GR2 := hid (GR.out.trans gx)
        have HI2 := hid hI2; have HB2 := hid (Blk.grown hb2 (grown_setRow w2 w.heap.size #[.int .i64 0, .int .i64 0]) (by simp; omega))
        clear gx hE hnx hI2 hb2
        go_wp2_with (refine wpList_store_blk rfl 97 _ _ rfl w.heap.size #[.int .i64 0, .int .i64 0] rfl rfl 97 _ KF2.out EF.out rfl (by rfl) ?_)
        refine bodyPost_ret (v := .agg #[.int .i64 0, .int .i64 0]) (results_cell_row rfl _ _ w.heap.size 97 _ (0, 0) _ rfl (KF2.out.setRow _) Try.underlying97 rfl EF.out) rfl ⟨grown_row GR2.out (Nat.le_refl _) _, .inr ⟨rfl, cs2, HI2.out, HB2.out⟩⟩
end Go.Proofs.Ytjgnbmkhibdcfaa
