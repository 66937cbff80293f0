/- Contracts: the iterators over a session's pieces, and over their bytes. -/
import Derived.RangeFuncBox
import Derived.RangeFuncCalls
import Derived.Shelf.Abstract
import Derived.WalkKit
import Derived.OwnWalkIn
import Derived.TacticsInMore
import Derived.LoopNIn
import Derived.LoopIn
import Derived.Test.YtgacdimjbpkgoaaDoorItOver
import Derived.Test.YtgacdimjbpkgoaaDoorUpSess
import Derived.Test.YtgacdimjbpkgoaaDoorUpNoneW
import Derived.Test.YtgacdimjbpkgoaaDoorOwnCut
namespace Go.Proofs.YtgacdimjbpkgoaaDoor
open Go.RowKit Go.Shelf
attribute [local go_sem] Oper.semAt_some

/-- what a round keeps: the blocks of G -/
def KpG (G : Nat → Prop) (W W' : World) : Prop := W.heap.size ≤ W'.heap.size ∧ ∀ b, G b → W'.heap[b]? = W.heap[b]?
theorem KpG.refl (G : Nat → Prop) (W : World) : KpG G W W := ⟨Nat.le_refl _, fun _ _ => rfl⟩
theorem KpG.trans {G : Nat → Prop} {A B C : World} (h : KpG G A B) (k : KpG G B C) : KpG G A C := ⟨Nat.le_trans h.1 k.1, fun b h1 => (k.2 b h1).trans (h.2 b h1)⟩
theorem KpG.cell {G : Nat → Prop} {A B : World} (h : KpG G A B) {b : Nat} (h1 : G b) (j : Nat) : B.cell? ⟨b, j, none⟩ = A.cell? ⟨b, j, none⟩ := World.cell?_of_block (a := ⟨b, j, none⟩) (h.2 b h1)
theorem KpG.put {G : Nat → Prop} {w : World} (hG : ∀ b, G b → b < w.heap.size) (W : World) (o o' : Obj) (_ : W.heap[w.heap.size + 1]? = some o) : KpG G W (W.putObj (w.heap.size + 1) o') :=
  ⟨by simp, fun b h => World.putObj_heap_other (by have := hG b h; omega)⟩
/-- what a round keeps: all but the blocks of X -/
def KpX (X : Nat → Prop) (W W' : World) : Prop := W.heap.size ≤ W'.heap.size ∧ ∀ b, b < W.heap.size → ¬ X b → W'.heap[b]? = W.heap[b]?
theorem KpX.trans {X : Nat → Prop} {A B C : World} (h : KpX X A B) (k : KpX X B C) : KpX X A C := ⟨Nat.le_trans h.1 k.1, fun b h1 h2 => (k.2 b (Nat.lt_of_lt_of_le h1 h.1) h2).trans (h.2 b h1 h2)⟩
theorem wide_ok {n : Nat} : Fence.wide.depth.isSome = true → 1 ≤ n := fun h => (by simp [Fence.wide] at h)
set_option maxRecDepth 100000 in
set_option maxHeartbeats 2000000 in
theorem up_values_seq (n Bs c : Nat) (A : Option Addr) (us : List Value) (G : Nat → Prop) (w0 : World) (hBs : w0.cell? ⟨Bs, 0, none⟩ = some (.slice A us.length c)) (hA : 0 < us.length → ∃ b off, A = some ⟨b, off, none⟩ ∧ G b ∧ ∀ j u, us[j]? = some u → w0.cell? ⟨b, off + j, none⟩ = some u) (hN : us.length ≤ 1000000) :
    SeqO 0 n Tryd.prog 73 #[.pointer (some ⟨Bs, 0, none⟩)] id (KpG G) (fun xs => xs = us) (fun pre x => pre = us.take pre.length ∧ us[pre.length]? = some x) w0 := by
  intro l J W hW _ hJ hY h0
  have hBs' : W.cell? ⟨Bs, 0, none⟩ = some (.slice A us.length c) := (hW.cell (p := ⟨Bs, 0, none⟩) (lt_of_cell hBs)).trans hBs
  have HA := hid (show ∀ k u, us[k]? = some u → ∃ b off, A = some ⟨b, off, none⟩ ∧ G b ∧ W.cell? ⟨b, off + k, none⟩ = some u from fun k u hk => by
    obtain ⟨b, off, e, hg, hc⟩ := hA (by have := (List.getElem?_eq_some_iff.1 hk).1; omega)
    exact ⟨b, off, e, hg, (hW.cell (p := ⟨b, off + k, none⟩) (lt_of_cell (hc k u hk))).trans (hc k u hk)⟩)
  have HY := hid hY; have HN := hid hN
  clear hA hBs hW hJ hY hN
  refine callsIn_of_wp Tryd.func73 rfl trivial ?_ rfl
  simp only [Tryd.ntmps73, List.size_toArray, List.length_cons, List.length_nil, Nat.reduceAdd, Nat.reduceSub, Array.replicate_succ, Array.replicate_zero, List.push_toArray, List.append_toArray, List.nil_append, List.cons_append]
  gi_wp2
  gi_loopw [7] (fun i wr => ∃ k : Nat, k ≤ us.length ∧ i = .int .i64 (k : Int) ∧ Hid (J (us.take k) wr) ∧ Hid (KpG G W wr)) (fun i _ => us.length - (intOf i).toNat)
  case atStart => exact ⟨0, Nat.zero_le _, rfl, hid h0, hid (KpG.refl _ _)⟩
  case round =>
    obtain ⟨k, hk, rfl, HJ, HK⟩ := hrel
    clear hBs'
    by_cases hlt : k < us.length
    · have hlt' : (k : Int) < (us.length : Int) := by omega
      have hkb : k < 1000000 := by have := HN.out; omega
      have p0 : (0 : Int) ≤ (k : Int) := by omega
      obtain ⟨u, hu⟩ : ∃ u, us[k]? = some u := ⟨us[k], List.getElem?_eq_getElem hlt⟩
      obtain ⟨b, off, rfl, hg, hc⟩ := HA.out k u hu
      have hcw := (HK.out.cell hg (off + k)).trans hc
      have HT := hid (show us.take (k + 1) = us.take k ++ [u] from by rw [List.take_add_one, hu]; rfl)
      obtain ⟨fn, tmps, assign, body, hy, hR⟩ := HY.out (us.take k) u wr HJ.out (by rw [List.length_take, Nat.min_eq_left hk]; exact ⟨rfl, hu⟩)
      have hy2 : (Instr.yield l #[u]).run Tryd.prog wr = .ok (.round l fn tmps assign body) wr := hy
      clear hy hu hc
      gi_wp2
      refine ⟨wide_ok, hR.mono ?_⟩
      rintro e W3 ⟨rfl, hJ3, hk3⟩
      rw [← HT.out] at hJ3
      have HJ := hid hJ3; have HK := hid (HK.out.trans hk3)
      clear hJ3 hk3 hR hcw hy2
      gi_wp2
      go_roundw
      case rel => exact ⟨k + 1, hlt, by go_num, HJ, HK⟩
      case measure => simp [intOf]; omega
    · obtain rfl : k = us.length := by omega
      have HJ := hid (show J us wr from by have := HJ.out; rwa [List.take_length] at this)
      gi_wp2
      go_end0
      exact ⟨⟨_, rfl⟩, _, rfl, HJ.out⟩
theorem up_mkf' (fn : Fn) (first cap : Array Value) (w : World) : (Instr.makeFunc fn first cap).run Tryd.prog w = .ok (.func fn first cap) w := rfl
/-- what can be read of pieces: each in a block of G -/
def PcsR (w : World) (G : Nat → Prop) (l : List (List UInt8)) (us : List Value) : Prop :=
  us.length = l.length ∧ ∀ (k : Nat) x u, l[k]? = some x → us[k]? = some u → ∃ A c, u = .slice A x.length c ∧ (0 < x.length → ∃ b off, A = some ⟨b, off, none⟩ ∧ G b ∧ ∀ j y, x[j]? = some y → w.cell? ⟨b, off + j, none⟩ = some (bv y))
theorem flat_take {l : List (List UInt8)} {k : Nat} {x : List UInt8} (h : l[k]? = some x) : (l.take (k + 1)).flatten = (l.take k).flatten ++ x := by
  rw [List.take_add_one, h]; simp
theorem flat_le {l : List (List UInt8)} {k : Nat} : (l.take k).flatten.length ≤ l.flatten.length := by
  conv => rhs; rw [← List.take_append_drop k l]
  rw [List.flatten_append, List.length_append]; omega
/-- between two rounds over the pieces -/
structure FlI (J : List UInt8 → World → Prop) (G : Nat → Prop) (W0 : World) (lo y : Nat) (l : List (List UInt8)) (us : List Value) (pre : List Value) (W : World) : Prop where
  fst : pre = us.take pre.length
  j : J (l.take pre.length).flatten W
  box : Blk W y 130 #[.func (.yield lo) #[] #[]]
  kp : KpG G W0 W
theorem FlI.own {J : List UInt8 → World → Prop} {G : Nat → Prop} {W0 : World} {B B' lo y : Nat} {l : List (List UInt8)} {us : List Value} (hJ : OwnFrom B' J) (hB : B' ≤ B) (hG0 : ∀ b, G b → b < W0.heap.size) (hW0 : W0.heap.size ≤ B) : OwnFrom B (FlI J G W0 lo y l us) := fun pre A C row h hg hr =>
  ⟨h.fst, hJ _ A C row h.j hg (fun r e => ⟨Nat.le_trans hB (hr r e).1, (hr r e).2⟩), h.box.grown hg (fun e => by
    obtain ⟨o, ho, hc⟩ := (hr y e).2
    have hb := h.box
    unfold Blk at hb
    rw [hb] at ho
    cases ho
    cases hc), h.kp.trans ⟨hg.size, fun b hb => by
      have hb0 := hG0 b hb
      exact hg.block b (Nat.lt_of_lt_of_le hb0 h.kp.1) (fun e => by have := (hr b e.symm).1; omega)⟩⟩
set_option maxRecDepth 100000 in
set_option maxHeartbeats 4000000 in
theorem up_flat_seq (m n B1 Bs c : Nat) (X : Nat → Prop) (hX : ∀ b, X b → b < m) (A : Option Addr) (us : List Value) (l : List (List UInt8)) (G : Nat → Prop) (w0 : World) (hG0 : ∀ b, G b → b < w0.heap.size ∧ ¬ X b) (hB1 : w0.cell? ⟨B1, 0, none⟩ = some (.func (.func 73) #[] #[.pointer (some ⟨Bs, 0, none⟩)]))
    (hBs : w0.cell? ⟨Bs, 0, none⟩ = some (.slice A us.length c)) (hA : 0 < us.length → ∃ b off, A = some ⟨b, off, none⟩ ∧ G b ∧ ∀ j u, us[j]? = some u → w0.cell? ⟨b, off + j, none⟩ = some u) (hp : PcsR w0 G l us) (hN : us.length ≤ 1000000) (hM : l.flatten.length ≤ 1000000) :
    SeqO m n Tryd.prog 72 #[.pointer (some ⟨B1, 0, none⟩)] bv (KpX X) (fun xs => xs = l.flatten) (fun pre x => l.flatten[pre.length]? = some x) w0 := by
  intro lo J W hW hmW hJ hY h0
  have hsq := up_values_seq (n - 1) Bs c A us G w0 hBs hA hN
  have hc1 : W.cell? ⟨B1, 0, none⟩ = some (.func (.func 73) #[] #[.pointer (some ⟨Bs, 0, none⟩)]) := (hW.cell (p := ⟨B1, 0, none⟩) (lt_of_cell hB1)).trans hB1
  have hbn := below_new W (.cells #[.func (.yield lo) #[] #[]] 130)
  have hc2 : (W.alloc (.cells #[.func (.yield lo) #[] #[]] 130)).cell? ⟨B1, 0, none⟩ = some (.func (.func 73) #[] #[.pointer (some ⟨Bs, 0, none⟩)]) := (hbn.cell (p := ⟨B1, 0, none⟩) (lt_of_cell hc1)).trans hc1
  have hkb := Blk.new W 130 #[.func (.yield lo) #[] #[]]
  clear hc1
  have HSQ := hid hsq; have HY := hid hY; have HW := hid hW; have HJ := hid hJ; have HP := hid hp; have H0 := hid h0; have HN := hid hN; have HM := hid hM; have HG0 := hid hG0; have HBN := hid hbn; have HKB := hid hkb; have HX := hid hX; have HMW := hid hmW
  have HEG := hid (enters_of Tryd.func73 (by kernel_rfl) rfl)
  clear hsq hY hW hJ hp h0 hN hM hG0 hA hBs hB1 hbn hkb hX hmW
  refine callsIn_of_wp_marks Tryd.func72 rfl trivial ?_
  simp only [Tryd.ntmps72, List.size_toArray, List.length_cons, List.length_nil, Nat.reduceAdd, Nat.reduceSub, Array.replicate_succ, Array.replicate_zero, List.push_toArray, List.append_toArray, List.nil_append, List.cons_append]
  gi_wp2
  obtain ⟨W1, hW1⟩ : ∃ W1, W1 = W.alloc (.cells #[.func (.yield lo) #[] #[]] 130) := ⟨_, rfl⟩
  rw [← hW1] at HBN HKB ⊢
  clear hc2 hW1
  refine rangeO (n := n) rfl HEG.out (Nat.zero_le _) HSQ.out (fun h k => KpG.trans h k) (KpG.put (fun b hb => Nat.lt_of_lt_of_le (HG0.out b hb).1 (Nat.le_trans HW.out.size HBN.out.size))) (HW.out.trans (HBN.out.mono HW.out.size)) (FlI J G W lo W.heap.size l us) (FlI.own HJ.out HBN.out.size (fun b hb => Nat.lt_of_lt_of_le (HG0.out b hb).1 HW.out.size) HBN.out.size) ?_ (fun x => { tmps := #[.func (.yield lo) #[] #[], .pointer (some ⟨B1, 0, none⟩), .pointer (some ⟨W.heap.size, 0, none⟩), x, undef, undef, .func (.func 73) #[] #[.pointer (some ⟨Bs, 0, none⟩)], x, undef, undef, undef, undef, undef, undef, undef, undef, undef, undef, undef], defers := [] }) ?assign ?body ?done
  · exact ⟨rfl, HJ.out _ _ _ none H0.out (grown_of_below HBN.out none) (fun r e => by cases e), HKB.out, ⟨HBN.out.size, fun b hb => HBN.out.block b (Nat.lt_of_lt_of_le (HG0.out b hb).1 HW.out.size)⟩⟩
  case assign =>
    intro l x W K hK
    gi_wp2
    simpa using hK
  case done =>
    intro D xs W2 hD hxs hI hk
    subst hxs
    have hf := hI.fst
    have hj := hI.j
    have hlt := HP.out.1
    rw [hlt, List.take_length] at hj
    gi_wp2
    refine ⟨by simp, .inl ⟨_, _, rfl, run_takeDeferred hk, ?_⟩⟩
    refine ⟨_, results_none rfl _ _ _, ⟨_, rfl⟩, _, rfl, ?_⟩
    exact HJ.out.putObj _ hj (Nat.le_trans HBN.out.size hD) hk rfl
  case body =>
    rintro l2 pre x W2 hI ⟨hpr, hux⟩
    obtain ⟨k, hk⟩ : ∃ k, pre.length = k := ⟨_, rfl⟩
    rw [hk] at hpr hux
    have hkl : k < us.length := (List.getElem?_eq_some_iff.1 hux).1
    have hlt := HP.out.1
    obtain ⟨bs, hbs⟩ : ∃ bs, l[k]? = some bs := ⟨l[k]'(by omega), List.getElem?_eq_getElem (by omega)⟩
    obtain ⟨A2, c2, rfl, hcs⟩ := HP.out.2 k bs x hbs hux
    have hj := hI.j
    rw [hk] at hj
    have hfl := flat_take hbs
    have hle : (l.take k).flatten.length + bs.length ≤ l.flatten.length := by
      have := flat_le (l := l) (k := k + 1)
      rw [hfl, List.length_append] at this
      exact this
    have hnx : ∀ j y, bs[j]? = some y → l.flatten[(l.take k).flatten.length + j]? = some y := fun j y hj => by
      have e : l.flatten = (l.take (k + 1)).flatten ++ (l.drop (k + 1)).flatten := by rw [← List.flatten_append, List.take_append_drop]
      rw [e, hfl, List.append_assoc, List.getElem?_append_right (by omega), Nat.add_sub_cancel_left, List.getElem?_append_left (List.getElem?_eq_some_iff.1 hj).1]
      exact hj
    have HBX := hid hI.box; have HKP := hid hI.kp; have HJ0 := hid hj; have HCS := hid hcs; have HNX := hid hnx; have HFL := hid hfl; have HPR := hid hpr; have HUX := hid hux
    have hN6 : bs.length ≤ 1000000 := by have := HM.out; omega
    have HK := hid hk
    clear hI hj hcs hnx hfl hpr hux hk hle HSQ HEG H0 HN
    have cb : W2.cell? ⟨W.heap.size, 0, none⟩ = some (.func (.yield lo) #[] #[]) := HBX.out.cell 0 rfl
    gi_wp2
    gi_loopw [10, 5] (fun i _ wr => ∃ j : Nat, j ≤ bs.length ∧ i = .int .i64 (j : Int) ∧ Hid (J ((l.take k).flatten ++ bs.take j) wr) ∧ Hid (KpG G W wr) ∧ Hid (Blk wr W.heap.size 130 #[.func (.yield lo) #[] #[]]) ∧ Hid (KeepsFrom W1.heap.size W2 wr) ∧ Hid (KpG G W2 wr)) (fun i _ _ => bs.length - (intOf i).toNat)
    case atStart => exact ⟨0, Nat.zero_le _, rfl, hid (by simpa using HJ0.out), HKP, HBX, hid (KeepsFrom.refl _ _), hid (KpG.refl _ _)⟩
    case round =>
      obtain ⟨j, hj, rfl, HJ1, HK1, HB1, HF1, HW1⟩ := hrel
      clear cb HBX HKP HJ0
      have cb : wr.cell? ⟨W.heap.size, 0, none⟩ = some (.func (.yield lo) #[] #[]) := HB1.out.cell 0 rfl
      by_cases hjl : j < bs.length
      · have hjl' : (j : Int) < (bs.length : Int) := by omega
        have j0 : (0 : Int) ≤ (j : Int) := by omega
        have hjb : j < 1000000 := by omega
        obtain ⟨y, hy⟩ : ∃ y, bs[j]? = some y := ⟨bs[j], List.getElem?_eq_getElem hjl⟩
        obtain ⟨b, off, rfl, hgb, hce⟩ := HCS.out (by omega)
        have hcw : wr.cell? ⟨b, off + j, none⟩ = some (bv y) := (HK1.out.cell hgb (off + j)).trans ((HW.out.cell (p := ⟨b, off + j, none⟩) (HG0.out b hgb).1).trans (hce j y hy))
        have HT := hid (show (l.take k).flatten ++ bs.take (j + 1) = ((l.take k).flatten ++ bs.take j) ++ [y] from by rw [List.take_add_one, hy, List.append_assoc]; rfl)
        obtain ⟨fn, tmps, assign, body, hyl, hR⟩ := HY.out _ y wr HJ1.out (by rw [List.length_append, List.length_take, Nat.min_eq_left hj]; exact HNX.out j y hy)
        unfold bv at hyl hcw
        clear hy hce
        gi_wp2
        refine ⟨wide_ok, round_any (hR.mono ?_)⟩
        rintro e W3 ⟨rfl, hJ3, hk3⟩
        rw [← HT.out] at hJ3
        have hge : ∀ b, W.heap.size ≤ b → ¬ X b := fun b hb hx => by have := HX.out b hx; have := HMW.out; omega
        have hws : W.heap.size ≤ wr.heap.size := HK1.out.1
        have HJ := hid hJ3
        have HK := hid (show KpG G W W3 from HK1.out.trans ⟨hk3.1, fun b hb => hk3.2 b (by have := (HG0.out b hb).1; have := HW.out.size; omega) (HG0.out b hb).2⟩)
        have HB := hid (show Blk W3 W.heap.size 130 #[.func (.yield lo) #[] #[]] from (hk3.2 _ HB1.out.lt (hge _ (Nat.le_refl _))).trans HB1.out)
        have HF := hid (show KeepsFrom W1.heap.size W2 W3 from HF1.out.trans ⟨hk3.1, fun i o hi ho _ => (hk3.2 i (Array.getElem?_eq_some_iff.1 ho).1 (hge i (Nat.le_trans HBN.out.size hi))).trans ho⟩)
        have HWW := hid (show KpG G W2 W3 from HW1.out.trans ⟨hk3.1, fun b hb => hk3.2 b (by have := (HG0.out b hb).1; have := HW.out.size; omega) (HG0.out b hb).2⟩)
        clear hJ3 hk3 hR hcw hyl cb hge hws
        gi_wp2
        go_roundw
        case rel => exact ⟨j + 1, hjl, by go_num, HJ, HK, HB, HF, HWW⟩
        case measure => simp [intOf]; omega
      · obtain rfl : j = bs.length := by omega
        have hjl' : ¬ (bs.length : Int) < (bs.length : Int) := by omega
        have HEnd := hid (show KeepsFrom W1.heap.size W2 wr ∧ KpG G W2 wr ∧ FlI J G W lo W.heap.size l us (pre ++ [.slice A2 bs.length c2]) wr from ⟨HF1.out, HW1.out, by
          have hlen1 : (pre ++ [Value.slice A2 bs.length c2]).length = k + 1 := by simp [HK.out]
          refine ⟨?_, ?_, HB1.out, HK1.out⟩
          · rw [hlen1, HPR.out, List.take_add_one, HUX.out]; rfl
          · rw [hlen1, HFL.out]
            have := HJ1.out
            rwa [List.take_length] at this⟩)
        clear HJ1 HK1 HF1 HW1 cb HB1
        gi_wp2
        exact HEnd.out
end Go.Proofs.YtgacdimjbpkgoaaDoor
/- Contract: slices.AppendSeq of bytes, within the capacity. -/
namespace Go.Proofs.YtgacdimjbpkgoaaDoor
open Go.RowKit Go.Shelf
attribute [local go_sem] Oper.semAt_some

/-- between two rounds: the box holds what has come -/
structure AqI (w : World) (base r N : Nat) (pre : List UInt8) (W : World) : Prop where
  box : Blk W w.heap.size 22 #[.slice (some ⟨r, 0, none⟩) pre.length N]
  row : W.ownsRow base 5 1 (.slice (some ⟨r, 0, none⟩) pre.length N) pre.length (pre.map bv)
  chg : Chg [r] w W
theorem AqI.own {w : World} {base r N B : Nat} (hB : w.heap.size < B) : OwnFrom B (AqI w base r N) := fun pre A C row h hg hr => by
  have hnb : row ≠ some w.heap.size := fun e => by have := (hr _ e).1; omega
  have hnr : row ≠ some r := fun e => by
    obtain ⟨o, ho, hc⟩ := (hr _ e).2
    obtain ⟨cs, z, hh⟩ := (show ∃ cs z, A.heap[r]? = some (.cells cs 5 z) from by
      rcases h.row.2 with ⟨h1, _⟩ | ⟨g, cap, cur, h1, _, hgb, _⟩
      · cases h1
      · cases h1; exact ⟨_, _, hgb⟩)
    rw [hh] at ho
    cases ho
    cases hc
  exact ⟨h.box.grown hg hnb, World.ownsRow.kept h.row hg (.inr (fun e => hnr (by rw [← e]; rfl))), h.chg.trans (Chg.of_grown (L := row.toList) hg (fun g e => by rw [e]; simp)) (fun b hb => .inr (by
    have := (hr b (by simpa using hb)).1; omega))⟩
/-- the blocks that AppendSeq changes between two rounds -/
def aqX (w : World) (r : Nat) (b : Nat) : Prop := b = r ∨ (w.heap.size ≤ b ∧ b < w.heap.size + 3)
set_option maxRecDepth 100000 in
set_option maxHeartbeats 4000000 in
theorem up_appendSeq (base r N B1 : Nat) (bs : List UInt8) (hN : bs.length ≤ N) (w : World) (hrow : w.ownsRow base 5 1 (.slice (some ⟨r, 0, none⟩) 0 N) 0 [])
    (hseq : SeqO (w.heap.size + 3) 2 Tryd.prog 72 #[.pointer (some ⟨B1, 0, none⟩)] bv (KpX (aqX w r)) (fun xs => xs = bs) (fun pre x => bs[pre.length]? = some x) w) :
    Calls Tryd.prog 61 #[.slice (some ⟨r, 0, none⟩) 0 N, .func (.func 72) #[] #[.pointer (some ⟨B1, 0, none⟩)]] w fun e w' => e = .returned (.slice (some ⟨r, 0, none⟩) bs.length N) ∧ w'.ownsRow base 5 1 (.slice (some ⟨r, 0, none⟩) bs.length N) bs.length (bs.map bv) ∧ Chg [r] w w' := by
  have hbn := below_new w (.cells #[.slice (some ⟨r, 0, none⟩) 0 N] 22)
  have hkb := Blk.new w 22 #[.slice (some ⟨r, 0, none⟩) 0 N]
  have hsz := size_new w (.cells #[.slice (some ⟨r, 0, none⟩) 0 N] 22)
  have hrl := (World.ownsRow.lt hrow r rfl).2
  have HR := hid hrow; have HSEQ := hid hseq; have HN := hid hN; have HRL := hid hrl
  have HEG := hid (enters_of Tryd.func72 (by kernel_rfl) rfl)
  have HBN := hid hbn; have HKB := hid hkb; have HSZ := hid hsz
  clear hrow hseq hN hrl hbn hkb hsz
  refine (callsIn_wide (n := 3)).1 (callsIn_of_wp_marks Tryd.func61 rfl trivial ?_)
  simp only [Tryd.ntmps61, List.size_toArray, List.length_cons, List.length_nil, Nat.reduceAdd, Nat.reduceSub, Array.replicate_succ, Array.replicate_zero, List.push_toArray, List.append_toArray, List.nil_append, List.cons_append]
  gi_wp2
  obtain ⟨W1, hW1⟩ : ∃ W1, W1 = w.alloc (.cells #[.slice (some ⟨r, 0, none⟩) 0 N] 22) := ⟨_, rfl⟩
  rw [← hW1] at HBN HKB HSZ ⊢
  clear hW1
  refine rangeO (n := 3) rfl HEG.out (by have := HSZ.out; omega) HSEQ.out (fun h k => KpX.trans h k) (fun W o o' _ => ⟨by simp, fun b hb hx => World.putObj_heap_other (fun e => hx (.inr (by have := HSZ.out; omega)))⟩) HBN.out (AqI w base r N) (AqI.own (by have := HSZ.out; omega)) ⟨HKB.out, kept_below HR.out HBN.out, Chg.of_below HBN.out⟩
    (fun x => { tmps := #[.slice (some ⟨r, 0, none⟩) 0 N, .func (.func 72) #[] #[.pointer (some ⟨B1, 0, none⟩)], .pointer (some ⟨w.heap.size, 0, none⟩), undef, .slice none 0 0, .int .u8 ((x.toNat : Nat) : Int), .func (.func 72) #[] #[.pointer (some ⟨B1, 0, none⟩)], .int .u8 ((x.toNat : Nat) : Int), undef, undef, undef, undef, undef], defers := [] }) ?assign ?body ?done
  case assign =>
    intro l x W K hK
    gi_wp2
    simpa [bv] using hK
  case done =>
    rintro D xs W2 hD rfl hI hk
    have c0 : W2.cell? ⟨w.heap.size, 0, none⟩ = some (.slice (some ⟨r, 0, none⟩) xs.length N) := hI.box.cell 0 rfl
    have HI := hid hI; have HK := hid hk; have HD := hid hD
    clear hI hk hD
    have hnr : some r ≠ some D := fun e => by cases e; have := HRL.out; have := HBN.out.size; have := HD.out; omega
    have hrow : (W2.putObj D (.deferred none)).ownsRow base 5 1 (.slice (some ⟨r, 0, none⟩) xs.length N) xs.length (xs.map bv) := World.ownsRow.kept HI.out.row (grownBy_putObj' W2 D _) (.inr hnr)
    have hch : Chg [r] w (W2.putObj D (.deferred none)) := HI.out.chg.trans (Chg.of_grown (L := [D]) (grownBy_putObj' W2 D _) (fun g e => by cases e; simp)) (fun b hb => .inr (by rw [List.mem_singleton.1 hb]; have := HBN.out.size; have := HD.out; omega))
    have HEnd := hid (⟨hrow, hch⟩ : _ ∧ _)
    clear hrow hch hnr HR HSEQ
    gi_wp2
    refine ⟨by simp, .inl ⟨_, _, rfl, run_takeDeferred HK.out, ?_⟩⟩
    exact ⟨_, results_tmp rfl _ _ _, rfl, HEnd.out⟩
  case body =>
    rintro l pre x W hI hnx
    have hpl : pre.length < bs.length := (List.getElem?_eq_some_iff.1 hnx).1
    obtain ⟨k, hk⟩ : ∃ k, pre.length = k := ⟨_, rfl⟩
    have hbx := hI.box; have hrw := hI.row
    rw [hk] at hbx hrw hpl
    have HBX := hid hbx; have HRW := hid hrw; have HCH := hid hI.chg; have HK := hid hk
    have hkN : k + 1 ≤ N := by have := HN.out; omega
    have c0 : W.cell? ⟨w.heap.size, 0, none⟩ = some (.slice (some ⟨r, 0, none⟩) k N) := hbx.cell 0 rfl
    clear hI hnx hbx hrw hk HSEQ HR HEG
    have hb1 := below_new W (.cells #[.int .u8 ((x.toNat : Nat) : Int)] 5)
    have hone := cell_one_new W (.int .u8 ((x.toNat : Nat) : Int)) 5
    obtain ⟨i0, hi, hz0, hz1, hz2⟩ := info_parts up_info_u8
    have HRW1 := hid (kept_below HRW.out hb1)
    clear hb1
    gi_wp2_with (gi_at_builtin; refine wpListIn_append_fits _ rfl _ _ 22 rfl base 5 i0 1 Tryd.underlying22 hi hz1 r k N (pre.map bv) rfl HRW1.out ⟨W.heap.size, 0, none⟩ 1 1 [.int .u8 ((x.toNat : Nat) : Int)] rfl rfl hone (fun u hu => by rw [List.mem_singleton.1 hu]; rfl) hkN ?_; intro w3 hown hgr; refine Held.go ?_)
    have hrl := HRL.out
    have hb1 := below_new W (.cells #[.int .u8 ((x.toNat : Nat) : Int)] 5)
    have b3 := (HBX.out.keep hb1).grown hgr (by simp; omega)
    have d3 : w3.cell? ⟨w.heap.size, 0, none⟩ = some (.slice (some ⟨r, 0, none⟩) k N) := b3.cell 0 rfl
    have z3 := b3.frozen 0
    have hg2 := grown_setCell w3 w.heap.size 0 (.slice (some ⟨r, 0, none⟩) (k + 1) N)
    have hcg : Chg [w.heap.size, r] W (w3.setCell ⟨w.heap.size, 0, none⟩ (.slice (some ⟨r, 0, none⟩) (k + 1) N)) :=
      ((Chg.of_below (L := [w.heap.size, r]) hb1).trans (Chg.of_grown (L := [w.heap.size, r]) hgr (fun g e => by cases e; simp)) (fun b hb => .inl hb)).trans (Chg.of_grown (L := [w.heap.size, r]) hg2 (fun g e => by cases e; simp)) (fun b hb => .inl hb)
    have hb4 : Blk (w3.setCell ⟨w.heap.size, 0, none⟩ (.slice (some ⟨r, 0, none⟩) (k + 1) N)) w.heap.size 22 #[.slice (some ⟨r, 0, none⟩) (k + 1) N] := by have := b3.set_ 0 (.slice (some ⟨r, 0, none⟩) (k + 1) N); simpa using this
    have hr4 := World.ownsRow.kept hown hg2 (.inr (by simp [Value.ownBlock]; omega))
    have HEnd := hid (show KeepsFrom W1.heap.size W (w3.setCell ⟨w.heap.size, 0, none⟩ (.slice (some ⟨r, 0, none⟩) (k + 1) N)) ∧ KpX (aqX w r) W (w3.setCell ⟨w.heap.size, 0, none⟩ (.slice (some ⟨r, 0, none⟩) (k + 1) N)) ∧ AqI w base r N (pre ++ [x]) (w3.setCell ⟨w.heap.size, 0, none⟩ (.slice (some ⟨r, 0, none⟩) (k + 1) N)) from by
      refine ⟨⟨hcg.size, fun i o hi ho _ => (hcg.block i (Array.getElem?_eq_some_iff.1 ho).1 (fun hm => ?_)).trans ho⟩, ⟨hcg.size, fun b hb hx => hcg.block b hb (fun hm => hx ?_)⟩, ?_, ?_, HCH.out.trans hcg (fun b hb => ?_)⟩
      · have := HSZ.out
        rcases List.mem_cons.1 hm with rfl | hm
        · omega
        · rw [List.mem_singleton.1 hm] at hi; omega
      · rcases List.mem_cons.1 hm with rfl | hm
        · exact .inr ⟨Nat.le_refl _, by omega⟩
        · exact .inl (List.mem_singleton.1 hm)
      · rw [List.length_append, HK.out]; exact hb4
      · rw [List.length_append, HK.out, List.map_append]; exact hr4
      · rcases List.mem_cons.1 hb with rfl | hb
        · exact .inr (Nat.le_refl _)
        · exact .inl hb)
    clear hone hi hz0 hz1 hz2 HRW1 hown hgr hb1 b3 hg2 hcg hb4 hr4 c0 HBX HRW HCH
    unfold Held
    gi_wp2
    exact HEnd.out
end Go.Proofs.YtgacdimjbpkgoaaDoor
/- Contracts: the bytes of all pieces, joined; a session, told. -/
namespace Go.Proofs.YtgacdimjbpkgoaaDoor
open Go.RowKit Go.Shelf
attribute [local go_sem] up_mkf'

theorem up_values (A : Option Addr) (n c : Nat) (w : World) : Calls Tryd.prog 63 #[.slice A n c] w fun e w' => e = .returned (.func (.func 73) #[] #[.pointer (some ⟨w.heap.size, 0, none⟩)]) ∧ w' = w.alloc (.cells #[.slice A n c] 72) := by
  go_enter Tryd.func63, Tryd.ntmps63
  go_wp2_with fail
  go_ret
  exact ⟨rfl, rfl⟩
theorem up_flat (fn : Fn) (x y : Array Value) (w : World) : Calls Tryd.prog 62 #[.func fn x y] w fun e w' => e = .returned (.func (.func 72) #[] #[.pointer (some ⟨w.heap.size, 0, none⟩)]) ∧ w' = w.alloc (.cells #[.func fn x y] 119) := by
  go_enter Tryd.func62, Tryd.ntmps62
  go_wp2_with fail
  go_ret
  exact ⟨rfl, rfl⟩
/-- the pieces of a session, for the iterators -/
theorem SessB.iter {w W : World} {base q : Nat} {s : US} {pv : Value} {us : List Value} (h : SessB w base q s pv us) (hb : Below w.heap.size w W) : ∃ A c, pv = .slice A us.length c ∧ (0 < us.length → ∃ b off, A = some ⟨b, off, none⟩ ∧ (pv.ownBlock = some b ∨ ∃ u ∈ us, u.ownBlock = some b) ∧ ∀ j u, us[j]? = some u → W.cell? ⟨b, off + j, none⟩ = some u) ∧ PcsR W (fun b => pv.ownBlock = some b ∨ ∃ u ∈ us, u.ownBlock = some b) s.ps us := by
  have hk := (h.keep hb).recs
  have hrow := hk.row
  have hlen := hk.len
  have key : PcsR W (fun b => pv.ownBlock = some b ∨ ∃ u ∈ us, u.ownBlock = some b) s.ps us := ⟨hlen, fun k x u hx hu => by
    have ho := hk.each k x u hx hu
    rcases ho.2 with ⟨e, h0⟩ | ⟨g, cap, cur, e, -, -, -⟩
    · exact ⟨none, 0, by rw [e, h0], fun hp => absurd hp (by omega)⟩
    · refine ⟨some ⟨g, 0, none⟩, cap, e, fun _ => ⟨g, 0, rfl, .inr ⟨u, List.mem_of_getElem? hu, by rw [e]; rfl⟩, fun j y hy => ?_⟩⟩
      have := World.ownsRow.cells ho (g := g) (by rw [e]; rfl) j (bv y) (by simp [hy])
      rwa [Addr.add_lit] at this⟩
  rcases hk.row.2 with ⟨e, h0⟩ | ⟨g, cap, cur, e, -, -, -⟩
  · exact ⟨none, 0, by rw [e, hlen, h0], fun hp => absurd hp (by omega), key⟩
  · refine ⟨some ⟨g, 0, none⟩, cap, by rw [e, hlen], fun _ => ⟨g, 0, rfl, .inl (by rw [e]; rfl), fun j u hu => ?_⟩, key⟩
    have := World.ownsRow.cells hrow (g := g) (by rw [e]; rfl) j u hu
    rwa [Addr.add_lit] at this
structure JoS (w : World) (pv : Value) (N : Nat) (bs : List UInt8) (f : Nat → Bool) (gh : Nat → Value) (W : World) : Prop where
  below : f 11 = false → Below w.heap.size w W
  mkb : f 11 = false → f 4 = true → ∃ r, gh 4 = .slice (some ⟨r, 0, none⟩) 0 N ∧ w.heap.size ≤ r ∧ W.ownsRow w.heap.size 5 1 (.slice (some ⟨r, 0, none⟩) 0 N) 0 []
  vab : f 11 = false → f 9 = true → ∃ Bs, gh 9 = .func (.func 73) #[] #[.pointer (some ⟨Bs, 0, none⟩)] ∧ w.heap.size ≤ Bs ∧ Blk W Bs 72 #[pv]
  flb : f 11 = false → f 10 = true → f 9 = true ∧ ∃ B1, gh 10 = .func (.func 72) #[] #[.pointer (some ⟨B1, 0, none⟩)] ∧ w.heap.size ≤ B1 ∧ Blk W B1 119 #[gh 9]
  ap : f 11 = true → ∃ r, gh 11 = .slice (some ⟨r, 0, none⟩) bs.length N ∧ W.ownsRow w.heap.size 5 1 (.slice (some ⟨r, 0, none⟩) bs.length N) bs.length (bs.map bv) ∧ Below w.heap.size w W
  la : f 12 = true → f 11 = true ∧ gh 12 = gh 11
section
variable {w W W' : World} {pv : Value} {N : Nat} {bs : List UInt8} {f : Nat → Bool} {gh : Nat → Value}
theorem JoS.start : JoS w pv N bs (fun j => decide (13 ≤ j)) (fun _ => .pointer none) w.drew := ⟨fun _ => (Below.refl _ _).drew, fun _ h => absurd h (by decide), fun _ h => absurd h (by decide), fun _ h => absurd h (by decide), fun h => absurd h (by decide), fun h => absurd h (by decide)⟩
theorem JoS.step (h : JoS w pv N bs f gh W) (hb : Below W.heap.size W W') (i : Nat) (v : Value) (n1 : 4 ≠ i ∧ 9 ≠ i ∧ 10 ≠ i ∧ 11 ≠ i ∧ 12 ≠ i) : JoS w pv N bs (upd f i) (updN gh i v) W' := by
  obtain ⟨n4, n9, n10, n11, n12⟩ := n1
  refine ⟨fun e => ?_, fun e e4 => ?_, fun e e9 => ?_, fun e e10 => ?_, fun e => ?_, fun e => ?_⟩
  · rw [ap_ne n11] at e; exact (h.below e).trans (hb.mono (h.below e).size)
  · rw [ap_ne n11] at e; rw [ap_ne n4] at e4; rw [apN_ne n4]
    obtain ⟨r, k1, k2, k3⟩ := h.mkb e e4
    exact ⟨r, k1, k2, kept_below k3 hb⟩
  · rw [ap_ne n11] at e; rw [ap_ne n9] at e9; rw [apN_ne n9]
    obtain ⟨r, k1, k2, k3⟩ := h.vab e e9
    exact ⟨r, k1, k2, k3.keep hb⟩
  · rw [ap_ne n11] at e; rw [ap_ne n10] at e10; rw [ap_ne n9, apN_ne n10, apN_ne n9]
    obtain ⟨k0, r, k1, k2, k3⟩ := h.flb e e10
    exact ⟨k0, r, k1, k2, k3.keep hb⟩
  · rw [ap_ne n11] at e; rw [apN_ne n11]
    obtain ⟨r, k1, k2, k3⟩ := h.ap e
    exact ⟨r, k1, kept_below k2 hb, k3.trans (hb.mono k3.size)⟩
  · rw [ap_ne n12] at e; rw [ap_ne n11, apN_ne n12, apN_ne n11]; exact h.la e
theorem JoS.no12 (h : JoS w pv N bs f gh W) (e : f 11 = false) : f 12 = false := by
  cases hh : f 12 with
  | false => rfl
  | true => rw [(h.la hh).1] at e; cases e
theorem JoS.mak (h : JoS w pv N bs f gh W) (e : f 11 = false) (hb : Below W.heap.size W W') (_hf : f 4 = false) (hown : W'.ownsRow w.heap.size 5 1 (.slice (some ⟨W.heap.size, 0, none⟩) 0 N) 0 []) : JoS w pv N bs (upd f 4) (updN gh 4 (.slice (some ⟨W.heap.size, 0, none⟩) 0 N)) W' := by
  have hw := h.below e
  refine ⟨fun _ => hw.trans (hb.mono hw.size), fun _ _ => ⟨W.heap.size, by rw [apN_eq], hw.size, hown⟩, fun _ e9 => ?_, fun _ e10 => ?_, fun e2 => ?_, fun e2 => ?_⟩
  · rw [ap_ne (by decide)] at e9; rw [apN_ne (by decide)]
    obtain ⟨r, k1, k2, k3⟩ := h.vab e e9
    exact ⟨r, k1, k2, k3.keep hb⟩
  · rw [ap_ne (by decide)] at e10; rw [ap_ne (by decide), apN_ne (by decide), apN_ne (by decide)]
    obtain ⟨k0, r, k1, k2, k3⟩ := h.flb e e10
    exact ⟨k0, r, k1, k2, k3.keep hb⟩
  · rw [ap_ne (by decide), e] at e2; cases e2
  · rw [ap_ne (by decide), h.no12 e] at e2; cases e2
theorem JoS.va (h : JoS w pv N bs f gh W) (e : f 11 = false) (_hf : f 9 = false) (n10 : f 10 = false) (hc : pv.cells = #[pv]) : JoS w pv N bs (upd f 9) (updN gh 9 (.func (.func 73) #[] #[.pointer (some ⟨W.heap.size, 0, none⟩)])) (W.alloc (.cells pv.cells 72)) := by
  have hw := h.below e
  have hb := below_new W (.cells pv.cells 72)
  refine ⟨fun _ => hw.trans (hb.mono hw.size), fun _ e4 => ?_, fun _ _ => ⟨W.heap.size, by rw [apN_eq], hw.size, by have := Blk.new W 72 pv.cells; rw [hc] at this ⊢; exact this⟩, fun _ e10 => ?_, fun e2 => ?_, fun e2 => ?_⟩
  · rw [ap_ne (by decide)] at e4; rw [apN_ne (by decide)]
    obtain ⟨r, k1, k2, k3⟩ := h.mkb e e4
    exact ⟨r, k1, k2, kept_below k3 hb⟩
  · rw [ap_ne (by decide), n10] at e10; cases e10
  · rw [ap_ne (by decide), e] at e2; cases e2
  · rw [ap_ne (by decide), h.no12 e] at e2; cases e2
theorem JoS.fl (h : JoS w pv N bs f gh W) (e : f 11 = false) (_hf : f 10 = false) (e9 : f 9 = true) {Bs : Nat} (h9 : gh 9 = .func (.func 73) #[] #[.pointer (some ⟨Bs, 0, none⟩)]) : JoS w pv N bs (upd f 10) (updN gh 10 (.func (.func 72) #[] #[.pointer (some ⟨W.heap.size, 0, none⟩)])) (W.alloc (.cells (Value.func (.func 73) #[] #[.pointer (some ⟨Bs, 0, none⟩)]).cells 119)) := by
  have hw := h.below e
  have hb := below_new W (.cells (Value.func (.func 73) #[] #[.pointer (some ⟨Bs, 0, none⟩)]).cells 119)
  refine ⟨fun _ => hw.trans (hb.mono hw.size), fun _ e4 => ?_, fun _ e9 => ?_, fun _ _ => ?_, fun e2 => ?_, fun e2 => ?_⟩
  · rw [ap_ne (by decide)] at e4; rw [apN_ne (by decide)]
    obtain ⟨r, k1, k2, k3⟩ := h.mkb e e4
    exact ⟨r, k1, k2, kept_below k3 hb⟩
  · rw [ap_ne (by decide)] at e9; rw [apN_ne (by decide)]
    obtain ⟨r, k1, k2, k3⟩ := h.vab e e9
    exact ⟨r, k1, k2, k3.keep hb⟩
  · rw [ap_ne (by decide), apN_eq, apN_ne (by decide), h9]
    exact ⟨e9, W.heap.size, rfl, hw.size, Blk.new _ _ _⟩
  · rw [ap_ne (by decide), e] at e2; cases e2
  · rw [ap_ne (by decide), h.no12 e] at e2; cases e2
theorem JoS.app (h : JoS w pv N bs f gh W) (e : f 11 = false) {r : Nat} (hown : W'.ownsRow w.heap.size 5 1 (.slice (some ⟨r, 0, none⟩) bs.length N) bs.length (bs.map bv)) (hb : Below w.heap.size W W') : JoS w pv N bs (upd f 11) (updN gh 11 (.slice (some ⟨r, 0, none⟩) bs.length N)) W' := by
  have hw := h.below e
  refine ⟨fun e2 => ?_, fun e2 => ?_, fun e2 => ?_, fun e2 => ?_, fun _ => ⟨r, by rw [apN_eq], hown, hw.trans hb⟩, fun e2 => ?_⟩
  · rw [ap_eq] at e2; cases e2
  · rw [ap_eq] at e2; cases e2
  · rw [ap_eq] at e2; cases e2
  · rw [ap_eq] at e2; cases e2
  · rw [ap_ne (by decide), h.no12 e] at e2; cases e2
theorem JoS.last (h : JoS w pv N bs f gh W) (e : f 11 = true) {v : Value} (he : gh 11 = v) : JoS w pv N bs (upd f 12) (updN gh 12 v) W := by
  refine ⟨fun e2 => ?_, fun e2 => ?_, fun e2 => ?_, fun e2 => ?_, fun _ => ?_, fun _ => ?_⟩
  · rw [ap_ne (by decide), e] at e2; cases e2
  · rw [ap_ne (by decide), e] at e2; cases e2
  · rw [ap_ne (by decide), e] at e2; cases e2
  · rw [ap_ne (by decide), e] at e2; cases e2
  · rw [apN_ne (by decide)]; exact h.ap e
  · rw [ap_ne (by decide), apN_eq, apN_ne (by decide)]; exact ⟨e, he.symm⟩
end
def joVal (q N : Nat) (Ap : Option Addr) (np cp : Nat) : Nat → Value → Value
  | 0, _ => .pointer (some ⟨q, 0, none⟩)
  | 1, _ => .pointer (some ⟨q, 0, none⟩)
  | 2, _ => .pointer (some ⟨q, 3, none⟩)
  | 3, _ => .int .i64 (N : Int)
  | 4, k => k
  | 5, _ => .pointer (some ⟨q, 0, none⟩)
  | 6, _ => .pointer (some ⟨q, 0, none⟩)
  | 7, _ => .pointer (some ⟨q, 2, none⟩)
  | 8, _ => .slice Ap np cp
  | 9, k => k
  | 10, k => k
  | 11, k => k
  | 12, k => k
  | _, _ => undef
set_option maxRecDepth 20000 in
set_option maxHeartbeats 4000000 in
theorem up_join {w : World} {base q : Nat} {s : US} {pv : Value} {us : List Value} (h : SessB w base q s pv us) (hl : s.len ≤ 1000000) :
    Calls Tryd.prog 50 #[.pointer (some ⟨q, 0, none⟩)] w fun e w' => ∃ v, e = .returned v ∧ Own w' w.heap.size 5 v s.len s.ps.flatten ∧ Below w.heap.size w w' := by
  obtain ⟨N, hN⟩ : ∃ N, s.len = N := ⟨_, rfl⟩
  have hfl : s.ps.flatten.length = N := hN
  obtain ⟨bs, hbs⟩ : ∃ bs, s.ps.flatten = bs := ⟨_, rfl⟩
  have hul : us.length ≤ 1000000 := by
    have h1 := flat_pos s.ps h.pos
    have h2 := h.recs.len
    omega
  have hC : ∀ W, Below w.heap.size w W → W.cell? ⟨q, 3, none⟩ = some (.int .i64 (N : Int)) ∧ W.cell? ⟨q, 2, none⟩ = some pv := fun W hb => by
    have hk := (h.keep hb).hd
    exact ⟨by rw [← hN]; exact hk.cell 3 rfl, hk.cell 2 rfl⟩
  have hMK : ∀ W : World, w.heap.size ≤ W.heap.size → ∃ W', (Instr.makeSlice 22 (.int .i64 0) (.int .i64 (N : Int))).run Tryd.prog W = .ok (.slice (some ⟨W.heap.size, 0, none⟩) 0 N) W' ∧ W'.ownsRow w.heap.size 5 1 (.slice (some ⟨W.heap.size, 0, none⟩) 0 N) 0 [] ∧ W.grownBy W' none := fun W hs => by
    obtain ⟨i, hi, hz, hsz, hby⟩ := info_parts up_info_u8
    exact run_make_own (P := Tryd.prog) W w.heap.size 22 5 i _ 1 Tryd.underlying22 hi hz hsz .i64 .i64 N (by rw [hby]; omega) (by simp [maxLen]; omega) hs
  have hAP : ∀ (W : World) (r B1 Bs : Nat), Below w.heap.size w W → w.heap.size ≤ r → W.ownsRow w.heap.size 5 1 (.slice (some ⟨r, 0, none⟩) 0 N) 0 [] → Blk W B1 119 #[.func (.func 73) #[] #[.pointer (some ⟨Bs, 0, none⟩)]] → Blk W Bs 72 #[pv] →
      Calls Tryd.prog 61 #[.slice (some ⟨r, 0, none⟩) 0 N, .func (.func 72) #[] #[.pointer (some ⟨B1, 0, none⟩)]] W fun e w' => e = .returned (.slice (some ⟨r, 0, none⟩) bs.length N) ∧ w'.ownsRow w.heap.size 5 1 (.slice (some ⟨r, 0, none⟩) bs.length N) bs.length (bs.map bv) ∧ Chg [r] W w' := fun W r B1 Bs hb hr hrow hb1 hbs2 => by
    obtain ⟨A, c, epv, hA, hp⟩ := h.iter hb
    have hrl := (World.ownsRow.lt hrow r rfl).2
    refine up_appendSeq w.heap.size r N B1 bs (by rw [← hbs]; omega) W hrow ?_
    rw [← hbs]
    refine up_flat_seq (W.heap.size + 3) 2 B1 Bs c (aqX W r) (fun b hx => ?_) A us s.ps (fun b => pv.ownBlock = some b ∨ ∃ u ∈ us, u.ownBlock = some b) W (fun b hx => ?_) (hb1.cell 0 rfl) (by rw [← epv]; exact hbs2.cell 0 rfl) hA hp hul (by omega)
    · rcases hx with rfl | hx
      · omega
      · exact hx.2
    · have h1 := (h.recs.lt b hx).2
      have h2 := hb.size
      refine ⟨by omega, fun hx2 => ?_⟩
      rcases hx2 with rfl | hx2 <;> omega
  have hpc : pv.cells = #[pv] ∧ ∃ A n c, pv = .slice A n c := by
    obtain ⟨A, c, epv, -, -⟩ := h.iter (Below.refl _ _)
    exact ⟨by rw [epv]; rfl, A, us.length, c, epv⟩
  obtain ⟨hpc, Ap, np, cp, epv⟩ := hpc
  have HC := hid hC; have HMK := hid hMK; have HAP := hid hAP; have HPC := hid hpc
  have HEND := hid (show bs.length = N from by rw [← hbs]; exact hfl)
  rw [hN, hbs]
  clear hC hMK hAP hpc h hl hfl hul hN hbs
  subst epv
  go_enter Tryd.func50, Tryd.ntmps50
  go_wp2_with fail
  refine wp_region_invG 15 (.pointer none) (joVal q N Ap np cp) (JoS w (.slice Ap np cp) N bs) (by kernel_rfl) (by kernel_rfl) (by exact Nat.le_refl 15) ?_ ?_ ?_
  · exact JoS.start
  · intro i o f gh a W hi hf hdep hsame hcl hval hS
    rcases i with _ | _ | _ | _ | _ | _ | _ | _ | _ | _ | _ | _ | _ | i
    all_goals simp only [List.getElem?_cons_succ, List.getElem?_cons_zero, List.getElem?_nil, Option.some.injEq, reduceCtorEq] at hi
    all_goals subst hi
    · have E0 : a.tmps[0]? = some (.pointer (some ⟨q, 0, none⟩)) := (same_of hsame 0 (by rfl)).trans rfl
      refine g_plain rfl ?_
      exact does_value (w' := W) (v := .pointer (some ⟨q, 0, none⟩)) (by go_simp) ⟨.pointer none, .inr rfl, hS.step (Below.refl _ _) 0 (.pointer none) (by decide)⟩
    · have E3 := hval 0 _ 3 rfl rfl (dep_of hdep 0 (by rfl))
      unfold joVal at E3
      refine g_plain rfl ?_
      exact does_value (w' := W) (v := .pointer (some ⟨q, 0, none⟩)) (by go_simp) ⟨.pointer none, .inr rfl, hS.step (Below.refl _ _) 1 (.pointer none) (by decide)⟩
    · have E4 := hval 1 _ 4 rfl rfl (dep_of hdep 1 (by rfl))
      unfold joVal at E4
      refine g_plain rfl ?_
      exact does_value (w' := W) (v := .pointer (some ⟨q, 3, none⟩)) (by go_simp) ⟨.pointer none, .inr rfl, hS.step (Below.refl _ _) 2 (.pointer none) (by decide)⟩
    · have E5 := hval 2 _ 5 rfl rfl (dep_of hdep 2 (by rfl))
      unfold joVal at E5
      have n4 := not_yet hcl hf 4 (by rfl)
      have n11 := not_yet hcl n4 11 (by rfl)
      have c0 := (HC.out W (hS.below n11)).1
      refine g_plain rfl ?_
      exact does_value (w' := W) (v := .int .i64 (N : Int)) (by go_simp) ⟨.pointer none, .inr rfl, hS.step (Below.refl _ _) 3 (.pointer none) (by decide)⟩
    · have E6 := hval 3 _ 6 rfl rfl (dep_of hdep 3 (by rfl))
      unfold joVal at E6
      refine g_plain rfl ?_
      have n11 := not_yet hcl hf 11 (by rfl)
      obtain ⟨W', hr, hown, hg⟩ := HMK.out W (hS.below n11).size
      exact does_value (w' := W') (v := .slice (some ⟨W.heap.size, 0, none⟩) 0 N) (by unfold execOp; simp [Act.eval, E6, hr]) ⟨_, .inr rfl, hS.mak n11 (below_of_grown hg (Nat.le_refl _) (fun g e => by cases e)) hf hown⟩
    · have E0 : a.tmps[0]? = some (.pointer (some ⟨q, 0, none⟩)) := (same_of hsame 0 (by rfl)).trans rfl
      refine g_plain rfl ?_
      exact does_value (w' := W) (v := .pointer (some ⟨q, 0, none⟩)) (by go_simp) ⟨.pointer none, .inr rfl, hS.step (Below.refl _ _) 5 (.pointer none) (by decide)⟩
    · have E8 := hval 5 _ 8 rfl rfl (dep_of hdep 5 (by rfl))
      unfold joVal at E8
      refine g_plain rfl ?_
      exact does_value (w' := W) (v := .pointer (some ⟨q, 0, none⟩)) (by go_simp) ⟨.pointer none, .inr rfl, hS.step (Below.refl _ _) 6 (.pointer none) (by decide)⟩
    · have E9 := hval 6 _ 9 rfl rfl (dep_of hdep 6 (by rfl))
      unfold joVal at E9
      refine g_plain rfl ?_
      exact does_value (w' := W) (v := .pointer (some ⟨q, 2, none⟩)) (by go_simp) ⟨.pointer none, .inr rfl, hS.step (Below.refl _ _) 7 (.pointer none) (by decide)⟩
    · have E10 := hval 7 _ 10 rfl rfl (dep_of hdep 7 (by rfl))
      unfold joVal at E10
      have n9 := not_yet hcl hf 9 (by rfl)
      have n10 := not_yet hcl n9 10 (by rfl)
      have n11 := not_yet hcl n10 11 (by rfl)
      have c0 := (HC.out W (hS.below n11)).2
      refine g_plain rfl ?_
      exact does_value (w' := W) (v := .slice Ap np cp) (by go_simp) ⟨.pointer none, .inr rfl, hS.step (Below.refl _ _) 8 (.pointer none) (by decide)⟩
    · have E11 := hval 8 _ 11 rfl rfl (dep_of hdep 8 (by rfl))
      unfold joVal at E11
      refine g_plain rfl ?_
      refine does_call 63 #[.slice Ap np cp] (by go_simp) ((up_values Ap np cp W).mono ?_)
      rintro _ W' ⟨rfl, rfl⟩
      have n10 := not_yet hcl hf 10 (by rfl)
      have n11 := not_yet hcl n10 11 (by rfl)
      exact ⟨_, rfl, _, .inr rfl, hS.va n11 hf n10 rfl⟩
    · have E12 := hval 9 _ 12 rfl rfl (dep_of hdep 9 (by rfl))
      unfold joVal at E12
      refine g_plain rfl ?_
      have n11 := not_yet hcl hf 11 (by rfl)
      obtain ⟨Bs, e9, h9, -⟩ := hS.vab n11 (dep_of hdep 9 (by rfl))
      rw [e9] at E12
      refine does_call 62 #[.func (.func 73) #[] #[.pointer (some ⟨Bs, 0, none⟩)]] (by go_simp) ((up_flat _ _ _ W).mono ?_)
      rintro _ W' ⟨rfl, rfl⟩
      exact ⟨_, rfl, _, .inr rfl, hS.fl n11 hf (dep_of hdep 9 (by rfl)) e9⟩
    · have E7 := hval 4 _ 7 rfl rfl (dep_of hdep 4 (by rfl))
      have E13 := hval 10 _ 13 rfl rfl (dep_of hdep 10 (by rfl))
      unfold joVal at E7 E13
      refine g_plain rfl ?_
      obtain ⟨r, e4, h4, hrow⟩ := hS.mkb hf (dep_of hdep 4 (by rfl))
      obtain ⟨h9, B1, e10, h10, hb1⟩ := hS.flb hf (dep_of hdep 10 (by rfl))
      obtain ⟨Bs, e9, h9b, hbs⟩ := hS.vab hf h9
      rw [e4] at E7
      rw [e10] at E13
      rw [e9] at hb1
      refine does_call 61 #[.slice (some ⟨r, 0, none⟩) 0 N, .func (.func 72) #[] #[.pointer (some ⟨B1, 0, none⟩)]] (by go_simp) ((HAP.out W r B1 Bs (hS.below hf) h4 hrow hb1 hbs).mono ?_)
      rintro _ W' ⟨rfl, hown, hch⟩
      exact ⟨_, rfl, _, .inr rfl, hS.app hf hown (hch.below (B := w.heap.size) (fun b hb => by rw [List.mem_singleton.1 hb]; exact h4) (hS.below hf).size)⟩
    · have E14 := hval 11 _ 14 rfl rfl (dep_of hdep 11 (by rfl))
      unfold joVal at E14
      refine g_plain rfl ?_
      obtain ⟨r, e11, -, -⟩ := hS.ap (dep_of hdep 11 (by rfl))
      rw [e11] at E14
      exact does_value (w' := W) (v := .slice (some ⟨r, 0, none⟩) bs.length N) (by go_simp) ⟨_, .inr rfl, hS.last (dep_of hdep 11 (by rfl)) e11⟩
  · intro gh W hS
    obtain ⟨e11, e12⟩ := hS.la rfl
    obtain ⟨r, e3, hown, hbel⟩ := hS.ap e11
    rw [e3] at e12
    have HE := hid (show Own W w.heap.size 5 (.slice (some ⟨r, 0, none⟩) bs.length N) N bs ∧ Below w.heap.size w W from ⟨by have h2 := HEND.out; rw [Own, ← h2]; rw [h2]; exact h2 ▸ hown, hbel⟩)
    simp only [putAll, joVal, Nat.reduceAdd, Nat.zero_add, Act.put, List.setIfInBounds_toArray, List.set_cons_zero, List.set_cons_succ]
    rw [e12]
    clear hS e11 e12 e3 hown hbel HC HMK HAP
    go_wp2_with fail
    go_ret
    exact ⟨_, rfl, HE.out⟩
end Go.Proofs.YtgacdimjbpkgoaaDoor
/- Contract: a session, told. -/
namespace Go.Proofs.YtgacdimjbpkgoaaDoor
open Go.RowKit

theorem run_store_all {P : Program} {o : Oper} {a : Act} {w : World} {t : TypeId} {x y : Operand} {g : Nat} {cs old : Array Value} (ho : o.op = .store t x y) (hx : a.eval x = .pointer (some ⟨g, 0, none⟩)) (hy : a.eval y = .agg cs)
    (hb : Blk w g t old) (hi : (P.info? t).map (·.size) = some cs.size) (hold : old.size = cs.size) (h1 : cs.all (·.oneCell') = true) : (execOp a.eval o).run P w = .ok .skip (w.setRow g cs) := by
  unfold execOp
  simp only [ho, hx, hy, Instr.storeAt, Instr.sureAddr, Sem.run_bind, Sem.run_pure, Result.andThen_ok, run_storeVar_row w g t t old cs hb hi hold h1]
structure TeS (w1 : World) (K : Nat) (z : Int) (r : ByteArray) (bs : List UInt8) (f : Nat → Bool) (gh : Nat → Value) (W : World) : Prop where
  below : f 11 = false → Below w1.heap.size w1 W
  jo : f 9 = true → Own W w1.heap.size 5 (gh 9) bs.length bs
  bu : f 10 = true → f 9 = true ∧ gh 10 = .agg #[.int .i64 z, .string r, gh 9]
  st : f 11 = true → f 9 = true ∧ Blk W K 37 #[.int .i64 z, .string r, gh 9] ∧ Chg [K] w1 W
section
variable {w1 W W' : World} {K : Nat} {z : Int} {r : ByteArray} {bs : List UInt8} {f : Nat → Bool} {gh : Nat → Value}
theorem TeS.start : TeS w1 K z r bs (fun j => decide (12 ≤ j)) (fun _ => .pointer none) w1.drew := ⟨fun _ => (Below.refl _ _).drew, fun h => absurd h (by decide), fun h => absurd h (by decide), fun h => absurd h (by decide)⟩
theorem TeS.step (h : TeS w1 K z r bs f gh W) (hb : Below W.heap.size W W') (i : Nat) (v : Value) (n1 : 9 ≠ i ∧ 10 ≠ i ∧ 11 ≠ i) : TeS w1 K z r bs (upd f i) (updN gh i v) W' := by
  obtain ⟨n9, n10, n11⟩ := n1
  refine ⟨fun e => ?_, fun e => ?_, fun e => ?_, fun e => ?_⟩
  · rw [ap_ne n11] at e; exact (h.below e).trans (hb.mono (h.below e).size)
  · rw [ap_ne n9] at e; rw [apN_ne n9]; exact kept_below (h.jo e) hb
  · rw [ap_ne n10] at e; rw [ap_ne n9, apN_ne n10, apN_ne n9]; exact h.bu e
  · rw [ap_ne n11] at e; rw [ap_ne n9, apN_ne n9]
    exact ⟨(h.st e).1, (h.st e).2.1.keep hb, (h.st e).2.2.trans (Chg.of_below (L := []) hb) (fun b hb => by cases hb)⟩
theorem TeS.call (h : TeS w1 K z r bs f gh W) (hf : f 9 = false) (hb : Below W.heap.size W W') (v : Value) (ho : Own W' w1.heap.size 5 v bs.length bs) : TeS w1 K z r bs (upd f 9) (updN gh 9 v) W' := by
  refine ⟨fun e => ?_, fun _ => by rw [apN_eq]; exact ho, fun e => ?_, fun e => ?_⟩
  · rw [ap_ne (by decide)] at e; exact (h.below e).trans (hb.mono (h.below e).size)
  · rw [ap_ne (by decide)] at e; rw [(h.bu e).1] at hf; cases hf
  · rw [ap_ne (by decide)] at e; rw [(h.st e).1] at hf; cases hf
theorem TeS.bld (h : TeS w1 K z r bs f gh W) (h9 : f 9 = true) (v : Value) (hv : v = .agg #[.int .i64 z, .string r, gh 9]) : TeS w1 K z r bs (upd f 10) (updN gh 10 v) W := by
  refine ⟨fun e => ?_, fun e => ?_, fun _ => ?_, fun e => ?_⟩
  · rw [ap_ne (by decide)] at e; exact h.below e
  · rw [ap_ne (by decide)] at e; rw [apN_ne (by decide)]; exact h.jo e
  · rw [ap_ne (by decide), apN_eq, apN_ne (by decide)]; exact ⟨h9, hv⟩
  · rw [ap_ne (by decide)] at e; rw [ap_ne (by decide), apN_ne (by decide)]; exact h.st e
theorem TeS.put (h : TeS w1 K z r bs f gh W) (h9 : f 9 = true) (hf : f 11 = false) (hK : Blk w1 K 37 sesZ) (v : Value) {A : Option Addr} {n c : Nat} (hg : gh 9 = .slice A n c) : TeS w1 K z r bs (upd f 11) (updN gh 11 v) (W.setRow K #[.int .i64 z, .string r, .slice A n c]) := by
  have hb := h.below hf
  have ho := h.jo h9
  refine ⟨fun e => ?_, fun e => ?_, fun e => ?_, fun _ => ?_⟩
  · rw [ap_eq] at e; cases e
  · rw [apN_ne (by decide)]
    exact World.ownsRow.kept ho (grown_setRow W K _) (.inr (fun e => by
      have h1 := (World.ownsRow.lt ho K e).1
      have h2 := hK.lt
      omega))
  · rw [ap_ne (by decide)] at e; rw [ap_ne (by decide), apN_ne (by decide), apN_ne (by decide)]; exact h.bu e
  · rw [ap_ne (by decide), apN_ne (by decide), hg]
    exact ⟨h9, (hK.keep hb).setRow _, (Chg.of_below hb).trans (Chg.of_grown (L := [K]) (grown_setRow W K _) (fun g e => by cases e; simp)) (fun b hb => .inl (by simpa using hb))⟩
end
theorem up_results1 {fn : Func} {p : Tmp} (h : fn.results = #[.cell p 37]) (tmps : Array Value) (w : World) (g1 : Nat) (cs : Array Value) (hp : tmps.getD p undef = .pointer (some ⟨g1, 0, none⟩))
    (h1 : Blk w g1 37 cs) (h3 : cs.size = 3) : (results fn tmps).run Tryd.prog w = .ok (.agg cs) w := by
  have hp' : tmps[p]?.getD undef = .pointer (some ⟨g1, 0, none⟩) := by simpa using hp
  obtain ⟨fs, hu⟩ : ∃ fs, Tryd.prog.underlying 37 = some (.struct fs) := by
    have h := up_under_ses
    split at h
    · rename_i fs he
      exact ⟨fs, he⟩
    · cases h
  have hl := run_loadVar_row (P := Tryd.prog) w g1 37 37 cs (0, 0) _ h1 hu rfl (by rw [h3]; exact up_size_ses)
  simp only [results, h]
  simp [hp', hl, asAddr]
def teVal (q : Nat) (z : Int) (r : ByteArray) : Nat → Value → Value
  | 0, _ => .pointer (some ⟨q, 0, none⟩)
  | 1, _ => .pointer (some ⟨q, 0, none⟩)
  | 2, _ => .pointer (some ⟨q, 0, none⟩)
  | 3, _ => .int .i64 z
  | 4, _ => .pointer (some ⟨q, 0, none⟩)
  | 5, _ => .pointer (some ⟨q, 0, none⟩)
  | 6, _ => .pointer (some ⟨q, 1, none⟩)
  | 7, _ => .string r
  | 8, _ => .pointer (some ⟨q, 0, none⟩)
  | 9, k => k
  | 10, k => k
  | _, _ => undef
set_option maxRecDepth 20000 in
set_option maxHeartbeats 4000000 in
theorem up_tell {w : World} {base q : Nat} {s : US} {pv : Value} {us : List Value} (h : SessB w base q s pv us) (hl : s.len ≤ 1000000) :
    Calls Tryd.prog 36 #[.pointer (some ⟨q, 0, none⟩)] w fun e w' => ∃ v, e = .returned (.agg #[.int .i64 s.n, .string s.repo, v]) ∧ Own w' w.heap.size 5 v s.len s.ps.flatten ∧ Below w.heap.size w w' := by
  have hbn := below_new w (.cells sesZ 37)
  have hkn := Blk.new w 37 sesZ
  have hsz := size_new w (.cells sesZ 37)
  have hs1 := h.keep hbn
  obtain ⟨w1, hw1⟩ : ∃ w1, w1 = w.alloc (.cells sesZ 37) := ⟨_, rfl⟩
  rw [← hw1] at hbn hkn hsz hs1
  obtain ⟨z, hz⟩ : ∃ z, s.n = z := ⟨_, rfl⟩
  obtain ⟨r, hr⟩ : ∃ r, s.repo = r := ⟨_, rfl⟩
  obtain ⟨bs, hbs⟩ : ∃ bs, s.ps.flatten = bs := ⟨_, rfl⟩
  have hN : s.len = bs.length := by rw [← hbs]; rfl
  have hC : ∀ W, Below w1.heap.size w1 W → W.cell? ⟨q, 0, none⟩ = some (.int .i64 z) ∧ W.cell? ⟨q, 1, none⟩ = some (.string r) := fun W hb => by
    have hk := (hs1.keep hb).hd
    exact ⟨by rw [← hz]; exact hk.cell 0 rfl, by rw [← hr]; exact hk.cell 1 rfl⟩
  have hJ : ∀ W, Below w1.heap.size w1 W → Calls Tryd.prog 50 #[.pointer (some ⟨q, 0, none⟩)] W fun e w' => ∃ v, e = .returned v ∧ Own w' w1.heap.size 5 v bs.length bs ∧ Below W.heap.size W w' := fun W hb => by
    refine (up_join (hs1.keep hb) hl).mono ?_
    rintro e w' ⟨v, e1, e2, e3⟩
    rw [hbs, hN] at e2
    exact ⟨v, e1, e2.lower hb.size, e3⟩
  have HC := hid hC; have HJ := hid hJ; have HB := hid hbn; have HK := hid hkn; have HSZ := hid hsz; have HW := hid hw1
  have HLT := hid (show w.heap.size < w1.heap.size by omega)
  rw [hz, hr, hbs, hN]
  clear hC hJ hbn hkn hsz hs1 h hl hz hr hbs hN hw1
  go_enter Tryd.func36, Tryd.ntmps36
  go_wp2_with fail
  first | rw [show w.alloc (.cells #[.int .i64 0, .string ⟨#[]⟩, .slice none 0 0] 37) = w1 from HW.out.symm] | skip
  obtain ⟨K, hK⟩ : ∃ K, w.heap.size = K := ⟨_, rfl⟩
  have HKK := hid hK
  rw [hK] at HK ⊢
  clear hK
  refine wp_region_invG 14 (.pointer none) (teVal q z r) (TeS w1 K z r bs) (by kernel_rfl) (by kernel_rfl) (by exact Nat.le_refl 14) ?_ ?_ ?_
  · exact TeS.start
  · intro i o f gh a W hi hf hdep hsame hcl hval hS
    rcases i with _ | _ | _ | _ | _ | _ | _ | _ | _ | _ | _ | _ | i
    all_goals simp only [List.getElem?_cons_succ, List.getElem?_cons_zero, List.getElem?_nil, Option.some.injEq, reduceCtorEq] at hi
    all_goals subst hi
    · have E0 : a.tmps[0]? = some (.pointer (some ⟨q, 0, none⟩)) := (same_of hsame 0 (by rfl)).trans rfl
      refine g_plain rfl ?_
      exact does_value (w' := W) (v := .pointer (some ⟨q, 0, none⟩)) (by go_simp) ⟨.pointer none, .inr rfl, hS.step (Below.refl _ _) 0 (.pointer none) (by decide)⟩
    · have E3 := hval 0 _ 3 rfl rfl (dep_of hdep 0 (by rfl))
      unfold teVal at E3
      refine g_plain rfl ?_
      exact does_value (w' := W) (v := .pointer (some ⟨q, 0, none⟩)) (by go_simp) ⟨.pointer none, .inr rfl, hS.step (Below.refl _ _) 1 (.pointer none) (by decide)⟩
    · have E4 := hval 1 _ 4 rfl rfl (dep_of hdep 1 (by rfl))
      unfold teVal at E4
      refine g_plain rfl ?_
      exact does_value (w' := W) (v := .pointer (some ⟨q, 0, none⟩)) (by go_simp) ⟨.pointer none, .inr rfl, hS.step (Below.refl _ _) 2 (.pointer none) (by decide)⟩
    · have E5 := hval 2 _ 5 rfl rfl (dep_of hdep 2 (by rfl))
      unfold teVal at E5
      have n10 := not_yet hcl hf 10 (by rfl)
      have n11 := not_yet hcl n10 11 (by rfl)
      have c0 := (HC.out W (hS.below n11)).1
      refine g_plain rfl ?_
      exact does_value (w' := W) (v := .int .i64 z) (by go_simp) ⟨.pointer none, .inr rfl, hS.step (Below.refl _ _) 3 (.pointer none) (by decide)⟩
    · have E0 : a.tmps[0]? = some (.pointer (some ⟨q, 0, none⟩)) := (same_of hsame 0 (by rfl)).trans rfl
      refine g_plain rfl ?_
      exact does_value (w' := W) (v := .pointer (some ⟨q, 0, none⟩)) (by go_simp) ⟨.pointer none, .inr rfl, hS.step (Below.refl _ _) 4 (.pointer none) (by decide)⟩
    · have E7 := hval 4 _ 7 rfl rfl (dep_of hdep 4 (by rfl))
      unfold teVal at E7
      refine g_plain rfl ?_
      exact does_value (w' := W) (v := .pointer (some ⟨q, 0, none⟩)) (by go_simp) ⟨.pointer none, .inr rfl, hS.step (Below.refl _ _) 5 (.pointer none) (by decide)⟩
    · have E8 := hval 5 _ 8 rfl rfl (dep_of hdep 5 (by rfl))
      unfold teVal at E8
      refine g_plain rfl ?_
      exact does_value (w' := W) (v := .pointer (some ⟨q, 1, none⟩)) (by go_simp) ⟨.pointer none, .inr rfl, hS.step (Below.refl _ _) 6 (.pointer none) (by decide)⟩
    · have E9 := hval 6 _ 9 rfl rfl (dep_of hdep 6 (by rfl))
      unfold teVal at E9
      have n10 := not_yet hcl hf 10 (by rfl)
      have n11 := not_yet hcl n10 11 (by rfl)
      have c0 := (HC.out W (hS.below n11)).2
      refine g_plain rfl ?_
      exact does_value (w' := W) (v := .string r) (by go_simp) ⟨.pointer none, .inr rfl, hS.step (Below.refl _ _) 7 (.pointer none) (by decide)⟩
    · have E0 : a.tmps[0]? = some (.pointer (some ⟨q, 0, none⟩)) := (same_of hsame 0 (by rfl)).trans rfl
      refine g_plain rfl ?_
      exact does_value (w' := W) (v := .pointer (some ⟨q, 0, none⟩)) (by go_simp) ⟨.pointer none, .inr rfl, hS.step (Below.refl _ _) 8 (.pointer none) (by decide)⟩
    · have E11 := hval 8 _ 11 rfl rfl (dep_of hdep 8 (by rfl))
      unfold teVal at E11
      have n10 := not_yet hcl hf 10 (by rfl)
      have n11 := not_yet hcl n10 11 (by rfl)
      refine g_plain rfl ?_
      refine does_call 50 #[.pointer (some ⟨q, 0, none⟩)] (by go_simp) ((HJ.out W (hS.below n11)).mono ?_)
      rintro _ W' ⟨v, rfl, ho, hb⟩
      exact ⟨v, rfl, v, .inr rfl, hS.call hf hb v ho⟩
    · have E6 := hval 3 _ 6 rfl rfl (dep_of hdep 3 (by rfl))
      have E10 := hval 7 _ 10 rfl rfl (dep_of hdep 7 (by rfl))
      have E12 := hval 9 _ 12 rfl rfl (dep_of hdep 9 (by rfl))
      unfold teVal at E6 E10 E12
      refine g_plain rfl ?_
      have f9 := dep_of hdep 9 (by rfl)
      obtain ⟨A, c, e9, -, -, -⟩ := (hS.jo f9).sb
      rw [e9] at E12
      exact does_value (w' := W) (v := .agg #[.int .i64 z, .string r, .slice A bs.length c]) (by go_simp) ⟨_, .inr rfl, hS.bld f9 _ (by rw [e9])⟩
    · have E13 := hval 10 _ 13 rfl rfl (dep_of hdep 10 (by rfl))
      have E2 : a.tmps[2]? = some (.pointer (some ⟨K, 0, none⟩)) := (same_of hsame 2 (by rfl)).trans rfl
      unfold teVal at E13
      refine g_plain rfl ?_
      obtain ⟨f9, e10⟩ := hS.bu (dep_of hdep 10 (by rfl))
      obtain ⟨A, c, e9, -, -, -⟩ := (hS.jo f9).sb
      rw [e10, e9] at E13
      have kb := HK.out.keep (hS.below hf)
      exact does_skip (w' := W.setRow K #[.int .i64 z, .string r, .slice A bs.length c]) (run_store_all rfl (by rw [eval_getD, E2]; rfl) (by rw [eval_getD, E13]; rfl) kb up_size_ses rfl (by simp [Value.oneCell'])) ⟨.pointer none, .inl rfl, hS.put f9 hf HK.out _ e9⟩
  · intro gh W hS
    obtain ⟨e9, hblk, hch⟩ := hS.st rfl
    have hown := hS.jo e9
    obtain ⟨v, hv⟩ : ∃ v, gh 9 = v := ⟨_, rfl⟩
    rw [hv] at hblk hown
    have HE := hid (show Own W w1.heap.size 5 v bs.length bs ∧ Below w.heap.size w W from ⟨hown, HB.out.trans (hch.below (B := w.heap.size) (fun b hb => by rw [List.mem_singleton.1 hb, ← HKK.out]; exact Nat.le_refl _) HB.out.size)⟩)
    have HBL := hid hblk
    simp only [putAll, teVal, Nat.reduceAdd, Nat.zero_add, Act.put, List.setIfInBounds_toArray, List.set_cons_zero, List.set_cons_succ]
    clear hS e9 hblk hch hown
    go_wp2_with fail
    refine bodyPost_ret (v := .agg #[.int .i64 z, .string r, v]) (up_results1 rfl _ _ K _ rfl HBL.out rfl) rfl ⟨v, rfl, HE.out.1.lower (Nat.le_of_lt HLT.out), HE.out.2⟩
end Go.Proofs.YtgacdimjbpkgoaaDoor
/- Contract: does a digest name the bytes? -/
namespace Go.Proofs.YtgacdimjbpkgoaaDoor
open Go.RowKit Crc

set_option maxRecDepth 20000 in
set_option maxHeartbeats 4000000 in
theorem up_names {w : World} {t B n c : Nat} {width next : Int} {sv : Value} {A : Option Addr} {bs d : List UInt8} (hT : Blk w t 29 (upCells t width next sv)) (hd : d.length = 32) (hs : SB w B A n bs) (hc : n ≤ c) (hG : Glob w) (hn : n ≤ 1099511627776) (h1 : 1 ≤ width) (h2 : width ≤ 32) :
    Calls Tryd.prog 37 #[.pointer (some ⟨t, 0, none⟩), .agg (bcells d), .slice A n c] w fun e w' => e = .returned (.bool (cutB (sha bs) width == d)) ∧ Below w.heap.size w w' := by
  have hz := (zero_of_info info26).1
  have hb1 := below_new w (.cells (bcells d) 24)
  have hk1 := Blk.new w 24 (bcells d)
  have c1 : (w.alloc (.cells (bcells d) 24)).cell? ⟨t, 1, none⟩ = some (.int .i64 width) := (hT.keep hb1).cell 1 rfl
  have ES : Hid ((Tryd.prog.info? 24).map (·.size) = some (bcells d).size) := by rw [Hid, bcells_size, hd]; exact (zero_of_info info26).2
  have HO := hid (own_of_calls B n c A bs width (w.alloc (.cells (bcells d) 24)) (hs.keep hb1) hc (hG.keep hb1) hn)
  have HE0 := hid (show cutE width = 0 from by rw [cutE, if_neg (by omega)])
  have hlo := cutB_length (sha bs) width (sha_length bs)
  generalize cutB (sha bs) width = lC at hlo HO ⊢
  have EC : Hid ((Tryd.prog.info? 24).map (·.size) = some (bcells lC).size) := by rw [Hid, bcells_size, hlo]; exact (zero_of_info info26).2
  have Hsz : Hid ((bcells (zeroB 32)).size = (bcells lC).size) := by rw [Hid, bcells_size, bcells_size, hlo]; rfl
  have HEQ := hid (show ∀ W, (Op.equalIn 10000 24 (.agg (bcells lC)) (.agg (bcells d))).run Tryd.prog W = .ok (lC == d) W from fun W => run_equal_arr (P := Tryd.prog) 24 5 32 Tryd.underlying24 Tryd.underlying5 (by kernel_rfl) lC d hlo hd W)
  have HB := hid hb1; have HK := hid hk1
  clear hb1 hk1 hs hc hG hn h1 h2 hlo hd hT
  go_enter Tryd.func37, Tryd.ntmps37
  go_wp2_with (refine wpList_box_blk rfl 24 _ rfl (bcells d) rfl ?_)
  obtain ⟨w1, hw1⟩ : ∃ w1, w1 = w.alloc (.cells (bcells d) 24) := ⟨_, rfl⟩
  rw [← hw1] at c1 HO HB HK ⊢
  clear hw1
  go_wp2_with fail
  refine HO.out.mono ?_
  rintro _ w2 ⟨rfl, b2⟩
  rw [HE0.out]
  have K1 := hid (HK.out.keep b2)
  have B2 := hid (HB.out.trans (b2.mono HB.out.size))
  have K2 := hid (Blk.new w2 24 (bcells (zeroB 32)))
  have K1b := hid ((HK.out.keep b2).keep (below_new w2 (.cells (bcells (zeroB 32)) 24)))
  have B3 := hid ((HB.out.trans (b2.mono HB.out.size)).trans ((below_new w2 (.cells (bcells (zeroB 32)) 24)).mono (HB.out.trans (b2.mono HB.out.size)).size))
  have HLT := hid (show w.heap.size < w2.heap.size from (HK.out.keep b2).lt)
  have HNE := hid (show w.heap.size ≠ w2.heap.size from Nat.ne_of_lt (HK.out.keep b2).lt)
  clear b2 c1 HO HK HB
  go_wp2_with (refine wpList_store_blk rfl 24 _ _ rfl w2.heap.size _ rfl rfl 24 _ K2.out EC.out Hsz.out (bcells_oneCell _) ?_; refine Held.go ?_)
  have B4 := hid (B3.out.trans (below_of_grown (grown_setRow (w2.alloc (.cells (bcells (zeroB 32)) 24)) w2.heap.size (bcells lC)) B3.out.size (fun g' e => by cases e; exact Nat.le_of_lt HLT.out)))
  have KA := hid (K2.out.setRow (bcells lC))
  have KB := hid (K1b.out.grown (grown_setRow (w2.alloc (.cells (bcells (zeroB 32)) 24)) w2.heap.size (bcells lC)) (fun e => HNE.out (Option.some.inj e).symm))
  obtain ⟨g2, hg2⟩ : ∃ g2, w2.heap.size = g2 := ⟨_, rfl⟩
  obtain ⟨w3, hw3⟩ : ∃ w3, w3 = (w2.alloc (.cells (bcells (zeroB 32)) 24)).setRow w2.heap.size (bcells lC) := ⟨_, rfl⟩
  rw [← hw3] at B4 KA KB ⊢
  clear hw3 hz
  rw [hg2] at KA ⊢
  have heq := HEQ.out w3
  unfold Held
  go_wp2_with (first | (refine wpList_load_blk_g (by rfl) 24 (.tmp 7) rfl g2 rfl 24 _ KA.out _ _ Tryd.underlying24 EC.out ?_) | (refine wpList_load_blk_g (by rfl) 24 (.tmp 4) rfl w.heap.size rfl 24 _ KB.out _ _ Tryd.underlying24 ES.out ?_))
  go_ret
  exact ⟨rfl, B4.out⟩
end Go.Proofs.YtgacdimjbpkgoaaDoor
