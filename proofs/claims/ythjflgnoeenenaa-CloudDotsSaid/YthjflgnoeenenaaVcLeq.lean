/- Contracts: sides; Leq and Same of the project. -/
import Derived.RangeFuncLeaves
import Derived.RangeFuncWrites
import Derived.Test.YthjflgnoeenenaaVcSides
namespace Go.Proofs.Ythjflgnoeenenaa
open Go Go.RowKit Go.Shelf
attribute [local go_sem] Oper.semAt_some

theorem vc_mkf (fn : Fn) (first cap : Array Value) (w : World) : (Instr.makeFunc fn first cap).run Try.prog w = .ok (.func fn first cap) w := rfl
attribute [local go_sem] vc_mkf
/-- a row that a loop's own book-keeping turns: no cells, from B on -/
def rowNC (B : Nat) (A : World) (row : Option Nat) : Prop := ∀ r, row = some r → B ≤ r ∧ ∃ o : Obj, A.heap[r]? = some o ∧ o.isCells = false
theorem blk_nc {B g : Nat} {A C : World} {row : Option Nat} {t : TypeId} {cs : Array Value} (h : Blk A g t cs) (hg : A.grownBy C row) (hr : rowNC B A row) : Blk C g t cs := h.grown hg (fun e => by
  obtain ⟨o, ho, hc⟩ := (hr g e).2
  unfold Blk at h
  rw [h] at ho
  cases ho
  cases hc)
theorem below_nc {m B : Nat} {w A C : World} {row : Option Nat} (h : Below m w A) (hm : m ≤ B) (hmA : m ≤ A.heap.size) (hg : A.grownBy C row) (hr : rowNC B A row) : Below m w C := h.grown hg hmA (fun k e => Nat.le_trans hm (hr k e).1)
theorem own_nc {B : Nat} {A C : World} {row : Option Nat} {base n : Nat} {v : Value} {zs : List Int} (h : OwnN A base v n zs) (hg : A.grownBy C row) (hr : rowNC B A row) : OwnN C base v n zs := by
  refine h.kept hg ?_
  rcases h.2 with ⟨rfl, _⟩ | ⟨g, cap, cur, rfl, _, hgb, _⟩
  · exact .inl rfl
  · refine .inr fun e => ?_
    obtain ⟨o, ho, hc⟩ := (hr g e.symm).2
    rw [hgb] at ho
    cases ho
    cases hc
/-- the blocks that a round over two vectors keeps -/
def vkS (A1 A2 : Option Addr) (n1 n2 B : Nat) (b : Nat) : Prop := b = B ∨ b = B + 1 ∨ (∃ off, A1 = some ⟨b, off, none⟩ ∧ 0 < n1) ∨ (∃ off, A2 = some ⟨b, off, none⟩ ∧ 0 < n2)
theorem ni_lt {w : World} {A : Option Addr} {n : Nat} {zs : List Int} (h : NI w A n zs) {b off : Nat} (e : A = some ⟨b, off, none⟩) (hn : 0 < n) : b < w.heap.size := by
  obtain ⟨b2, o2, z, e2, _, hc⟩ := h.at_ hn
  rw [e2] at e
  cases e
  exact lt_of_cell hc
theorem vkS_lt {w w' : World} {A1 A2 : Option Addr} {n1 n2 : Nat} {v1 v2 : List Int} (h1 : NI w A1 n1 v1) (h2 : NI w A2 n2 v2) (hs : w.heap.size + 2 ≤ w'.heap.size) : ∀ b, vkS A1 A2 n1 n2 w.heap.size b → b < w'.heap.size := fun b h => by
  rcases h with rfl | rfl | ⟨off, e, hn⟩ | ⟨off, e, hn⟩
  · omega
  · omega
  · have := ni_lt h1 e hn; omega
  · have := ni_lt h2 e hn; omega
theorem vkS_old {w : World} {A1 A2 : Option Addr} {n1 n2 B b : Nat} {v1 v2 : List Int} (h1 : NI w A1 n1 v1) (h2 : NI w A2 n2 v2) (hb : vkS A1 A2 n1 n2 B b) (hB : w.heap.size ≤ B) : b < w.heap.size ∨ b = B ∨ b = B + 1 := by
  rcases hb with rfl | rfl | ⟨off, e, hn⟩ | ⟨off, e, hn⟩
  · exact .inr (.inl rfl)
  · exact .inr (.inr rfl)
  · exact .inl (ni_lt h1 e hn)
  · exact .inl (ni_lt h2 e hn)
def vSeq (n : Nat) (A1 A2 : Option Addr) (n1 n2 : Nat) (v1 v2 : List Int) (B : Nat) (w : World) : Prop :=
  SeqStopsK Fence.wide n Try.prog 92 #[.pointer (some ⟨B, 0, none⟩), .pointer (some ⟨B + 1, 0, none⟩)] (fun i : Nat => #[iv (nth v1 i), iv (nth v2 i)]) (VkG (vkS A1 A2 n1 n2 B)) (fun xs => xs = List.range (max n1 n2)) (fun pre => ∃ k, k ≤ max n1 n2 ∧ pre = List.range k) (max n1 n2) w
theorem sides_calls (n1 c1 n2 c2 : Nat) (A1 A2 : Option Addr) (v1 v2 : List Int) (w : World) (h1 : NI w A1 n1 v1) (h2 : NI w A2 n2 v2) (hn1 : n1 ≤ 1000000) (hn2 : n2 ≤ 1000000) :
    Calls Try.prog 82 #[.slice A1 n1 c1, .slice A2 n2 c2] w fun e w' => e = .returned (.func (.func 92) #[] #[.pointer (some ⟨w.heap.size, 0, none⟩), .pointer (some ⟨w.heap.size + 1, 0, none⟩)]) ∧ w'.heap.size = w.heap.size + 2 ∧ Below w.heap.size w w' ∧ ∀ n, vSeq n A1 A2 n1 n2 v1 v2 w.heap.size w' := by
  have hb1 := below_new w (.cells #[.slice A1 n1 c1] 22)
  have hb2 := below_new (w.alloc (.cells #[.slice A1 n1 c1] 22)) (.cells #[.slice A2 n2 c2] 22)
  have hs1 := size_new w (.cells #[.slice A1 n1 c1] 22)
  have hs2 := size_new (w.alloc (.cells #[.slice A1 n1 c1] 22)) (.cells #[.slice A2 n2 c2] 22)
  have hb := hb1.trans (hb2.mono hb1.size)
  have k1 := (Blk.new w 22 #[.slice A1 n1 c1]).keep hb2
  have k2 := Blk.new (w.alloc (.cells #[.slice A1 n1 c1] 22)) 22 #[.slice A2 n2 c2]
  rw [hs1] at k2
  have HX := hid (show ((w.alloc (.cells #[.slice A1 n1 c1] 22)).alloc (.cells #[.slice A2 n2 c2] 22)).heap.size = w.heap.size + 2 ∧ Below w.heap.size w ((w.alloc (.cells #[.slice A1 n1 c1] 22)).alloc (.cells #[.slice A2 n2 c2] 22)) ∧ ∀ n, vSeq n A1 A2 n1 n2 v1 v2 w.heap.size ((w.alloc (.cells #[.slice A1 n1 c1] 22)).alloc (.cells #[.slice A2 n2 c2] 22)) from
    ⟨by rw [hs2, hs1], hb, fun n => vSides1 n w.heap.size (w.heap.size + 1) n1 c1 n2 c2 A1 A2 v1 v2 _ _ (k1.cell 0 rfl) (k2.cell 0 rfl) (h1.keep hb) (h2.keep hb) (.inl rfl) (.inr (.inl rfl)) (fun b off e hn => .inr (.inr (.inl ⟨off, e, hn⟩))) (fun b off e hn => .inr (.inr (.inr ⟨off, e, hn⟩))) hn1 hn2 _ rfl⟩)
  clear hb1 hb2 hs1 hs2 hb k1 k2 h1 h2
  go_enter Try.func82, Try.ntmps82
  go_wp2_with fail
  go_ret
  exact ⟨by simp, HX.out⟩
/-- is each number of v at most that of w? -/
def leqV (v1 v2 : List Int) : Bool := (List.range (max v1.length v2.length)).all fun i => decide (nth v1 i ≤ nth v2 i)
/-- what holds between two rounds -/
structure LqI (w : World) (v1 v2 : List Int) (pre : List Nat) (W : World) : Prop where
  box : Blk W w.heap.size 4 #[.bool false]
  bel : Below w.heap.size w W
  all : (pre.all fun i => decide (nth v1 i ≤ nth v2 i)) = true
structure LqX (w : World) (v1 v2 : List Int) (pre : List Nat) (W : World) : Prop where
  box : Blk W w.heap.size 4 #[.bool false]
  bel : Below w.heap.size w W
  any : (pre.all fun i => decide (nth v1 i ≤ nth v2 i)) = false
theorem LqI.own {w : World} {v1 v2 : List Int} {B : Nat} (hB : w.heap.size ≤ B) : OwnFrom B (LqI w v1 v2) := fun _ _ _ _ h hg hr => ⟨blk_nc h.box hg hr, below_nc h.bel hB h.bel.size hg hr, h.all⟩
theorem LqX.own {w : World} {v1 v2 : List Int} {B : Nat} (hB : w.heap.size ≤ B) (c : Code) : OwnFrom B (fun pre W => c = .ret ∧ LqX w v1 v2 pre W) := fun _ _ _ _ h hg hr => ⟨h.1, blk_nc h.2.box hg hr, below_nc h.2.bel hB h.2.bel.size hg hr, h.2.any⟩
theorem results_cell1 {fn : Func} {p : Tmp} {t : TypeId} (h : fn.results = #[.cell p t]) (tmps : Array Value) (w : World) (a1 : Addr) (v1 : Value) (hp : tmps.getD p undef = .pointer (some a1)) (h1 : (loadVar t a1).run Try.prog w = .ok v1 w) : (results fn tmps).run Try.prog w = .ok v1 w := by
  have hp' : tmps[p]?.getD undef = .pointer (some a1) := by simpa using hp
  simp only [results, h]
  simp [hp', h1, asAddr]
theorem load_boolT (w : World) (ad : Addr) (v : Value) (h : w.cell? ad = some v) : (loadVar 4 ad).run Try.prog w = .ok v w := by
  have hagg : (isAgg 4).run Try.prog w = .ok false w := by
    unfold isAgg
    rw [Sem.run_bind, run_underlying Try.underlying4 w]
    simp
  simp [loadVar, Sem.run_bind, hagg, h]
set_option maxRecDepth 100000 in
set_option maxHeartbeats 2000000 in
theorem leq_calls (n1 c1 n2 c2 : Nat) (A1 A2 : Option Addr) (v1 v2 : List Int) (w : World) (h1 : NI w A1 n1 v1) (h2 : NI w A2 n2 v2) (hn1 : n1 ≤ 1000000) (hn2 : n2 ≤ 1000000) :
    Calls Try.prog 60 #[.slice A1 n1 c1, .slice A2 n2 c2] w fun e w' => e = .returned (.bool (leqV v1 v2)) ∧ Below w.heap.size w w' := by
  have hl1 := h1.1; have hl2 := h2.1
  have hb0 := below_new w (.cells #[.bool false] 4)
  have hk0 := Blk.new w 4 #[.bool false]
  have hs0 := size_new w (.cells #[.bool false] 4)
  have HSD := hid (sides_calls n1 c1 n2 c2 A1 A2 v1 v2 _ (h1.keep hb0) (h2.keep hb0) hn1 hn2)
  have HN1 := hid h1; have HN2 := hid h2; have HL1 := hid hl1; have HL2 := hid hl2
  have HB0 := hid hb0; have HK0 := hid hk0; have HS0 := hid hs0
  have HEG := hid (enters_of Try.func92 (by kernel_rfl) rfl)
  clear h1 h2 hl1 hl2 hb0 hk0 hs0
  refine (callsIn_wide (n := 3)).1 (callsIn_of_wp_marks Try.func60 rfl trivial (wpIn_wide.2 ?_))
  simp only [Try.ntmps60, List.size_toArray, List.length_cons, List.length_nil, Nat.reduceAdd, Nat.reduceSub, Array.replicate_succ, Array.replicate_zero, List.push_toArray, List.append_toArray, List.nil_append, List.cons_append]
  go_wp2_with fail
  obtain ⟨W0, hW0⟩ : ∃ W0, W0 = w.alloc (.cells #[.bool false] 4) := ⟨_, rfl⟩
  rw [← hW0] at HSD HB0 HK0 HS0 ⊢
  clear hW0
  refine HSD.out.mono ?_
  rintro e W1 ⟨rfl, hs1, hb1, hsq⟩
  have HSQ := hid (hsq 2); have HB1 := hid hb1; have HS1 := hid hs1
  have h0 : LqI w v1 v2 [] W1 := ⟨HK0.out.keep hb1, HB0.out.trans (hb1.mono HB0.out.size), rfl⟩
  have hws : w.heap.size + 1 ≤ W0.heap.size := by have := HS0.out; omega
  have HG := hid (show ∀ b, vkS A1 A2 n1 n2 W0.heap.size b → b < W1.heap.size from vkS_lt (HN1.out.keep HB0.out) (HN2.out.keep HB0.out) (by have := HS1.out; omega))
  have HGO := hid (show ∀ b, vkS A1 A2 n1 n2 W0.heap.size b → b < w.heap.size ∨ w.heap.size + 1 ≤ b from fun b hb => by
    rcases vkS_old HN1.out HN2.out hb (by omega) with h | rfl | rfl
    · exact .inl h
    · exact .inr (by omega)
    · exact .inr (by omega))
  have hw2 : w.heap.size < W1.heap.size := by omega
  have hw1 : w.heap.size ≤ W1.heap.size := by omega
  clear hsq hb1 HSD HB0 HK0 hs1
  go_wp2_with fail
  refine wpIn_wide.1 (wpIn_rangeFunc_ownG (F := Fence.wide) (n := 3) rfl (by omega) rfl trivial HEG.out HSQ.out (fun h k => VkG.trans h k) (VkG.put HG.out) (Below.refl _ _) (fun _ => rfl) (LqI w v1 v2) (fun c pre W => c = .ret ∧ LqX w v1 v2 pre W) (LqI.own hw1) (fun c => LqX.own hw1 c) h0 (fun i => { tmps := #[.slice A1 n1 c1, .slice A2 n2 c2, undef, undef, .pointer (some ⟨w.heap.size, 0, none⟩), .int .i64 (nth v1 i), .int .i64 (nth v2 i), .slice A1 n1 c1, .slice A2 n2 c2, .func (.func 92) #[] #[.pointer (some ⟨W0.heap.size, 0, none⟩), .pointer (some ⟨W0.heap.size + 1, 0, none⟩)], .int .i64 (nth v1 i), .int .i64 (nth v2 i), undef, undef, undef], defers := [] }) ?assign ?body ?done ?stop)
  case assign =>
    intro l x W K hK
    unfold iv
    gi_wp2
    simpa using hK
  case body =>
    intro l pre i W hI hlt
    have HI := hid hI
    have cb := hI.box.cell 0 rfl
    have fb := hI.box.frozen 0
    obtain ⟨x, hx⟩ : ∃ x, nth v1 i = x := ⟨_, rfl⟩
    obtain ⟨y, hy⟩ : ∃ y, nth v2 i = y := ⟨_, rfl⟩
    have hall : ∀ b : Bool, decide (x ≤ y) = b → (pre ++ [i]).all (fun i => decide (nth v1 i ≤ nth v2 i)) = b := fun b hb => by
      rw [List.all_append, hI.all, List.all_cons, hx, hy, hb]
      simp
    rw [hx, hy]
    clear hI hx hy h0 HSQ hlt HN1 HN2 HL1 HL2
    by_cases hg : y < x
    · have HA := hid (hall false (by simpa using hg))
      have hgs := grown_setCell W w.heap.size 0 (.bool false)
      have HX := hid (show KeepsFrom W1.heap.size W (W.setCell ⟨w.heap.size, 0, none⟩ (.bool false)) ∧ LqX w v1 v2 (pre ++ [i]) (W.setCell ⟨w.heap.size, 0, none⟩ (.bool false)) from
        ⟨KeepsFrom.of_grownBy hgs (fun j e => by cases e; omega), by have := HI.out.box.set_ 0 (.bool false); simpa using this, HI.out.bel.setCell (p := ⟨w.heap.size, 0, none⟩) (Nat.le_refl _) _, HA.out⟩)
      clear hall hgs
      gi_wp2
      exact ⟨HX.out.1, rfl, HX.out.2⟩
    · have HA := hid (hall true (by simpa using hg))
      have HX := hid (show KeepsFrom W1.heap.size W W ∧ VkG (vkS A1 A2 n1 n2 W0.heap.size) W W ∧ LqI w v1 v2 (pre ++ [i]) W from ⟨KeepsFrom.refl _ _, VkG.refl _ _, HI.out.box, HI.out.bel, HA.out⟩)
      clear hall
      gi_wp2
      exact HX.out
  case done =>
    intro D xs W hD hxs hI hK
    subst hxs
    have cb := hI.box.cell 0 rfl
    have fb := hI.box.frozen 0
    have hA : leqV v1 v2 = true := by
      unfold leqV
      rw [HL1.out, HL2.out]
      exact hI.all
    have hgs := grown_setCell W w.heap.size 0 (.bool true)
    have hD2 : D ≠ w.heap.size := by omega
    have hK2 : (W.setCell ⟨w.heap.size, 0, none⟩ (.bool true)).heap[D]? = some (.deferred (some [])) := (hgs.block D (Array.getElem?_eq_some_iff.1 hK).1 (fun e => hD2 (Option.some.inj e))).trans hK
    have hx2 : Blk (W.setCell ⟨w.heap.size, 0, none⟩ (.bool true)) w.heap.size 4 #[.bool true] := by have := hI.box.set_ 0 (.bool true); simpa using this
    have hgp := grownBy_putObj' (W.setCell ⟨w.heap.size, 0, none⟩ (.bool true)) D (.deferred none)
    have hrw : rowNC w.heap.size (W.setCell ⟨w.heap.size, 0, none⟩ (.bool true)) (some D) := fun r e => by cases e; exact ⟨by omega, _, hK2, rfl⟩
    have hx3 := blk_nc hx2 hgp hrw
    have hbl := hI.bel.setCell (p := ⟨w.heap.size, 0, none⟩) (Nat.le_refl _) (.bool true)
    have HB := hid (below_nc hbl (Nat.le_refl _) hbl.size hgp hrw)
    have HX3 := hid hx3; have HK2 := hid hK2; have HA := hid hA
    clear hI hK hA hgs hK2 hx2 hgp hrw hx3 hbl h0 HSQ HEG HN1 HN2 HL1 HL2 HG HGO hD2
    go_wp2_with fail
    refine ⟨by simp, .inl ⟨_, _, rfl, run_takeDeferred HK2.out, ?_⟩⟩
    refine ⟨_, results_cell1 rfl _ _ ⟨w.heap.size, 0, none⟩ _ rfl (load_boolT _ _ _ (HX3.out.cell 0 rfl)), ?_⟩
    exact ⟨ret_bool HA.out.symm, HB.out⟩
  case stop =>
    rintro D c pre W hD ⟨k, hk, rfl⟩ ⟨rfl, hx⟩ hK
    have hA : leqV v1 v2 = false := by
      unfold leqV
      rw [HL1.out, HL2.out]
      have h := hx.any
      rw [List.all_eq_false] at h ⊢
      obtain ⟨i, hi, hf⟩ := h
      rw [List.mem_range] at hi
      exact ⟨i, List.mem_range.2 (Nat.lt_of_lt_of_le hi hk), hf⟩
    have hgp := grownBy_putObj' W D (.deferred none)
    have hrw : rowNC w.heap.size W (some D) := fun r e => by cases e; exact ⟨by omega, _, hK, rfl⟩
    have HX3 := hid (blk_nc hx.box hgp hrw)
    have HB := hid (below_nc hx.bel (Nat.le_refl _) hx.bel.size hgp hrw)
    have HK2 := hid hK; have HA := hid hA
    clear hx hK hA hgp hrw h0 HSQ HEG HN1 HN2 HL1 HL2 HG HGO
    refine wpIn_wide.2 ?_
    go_wp2_with fail
    refine ⟨by simp, .inl ⟨_, _, rfl, run_takeDeferred HK2.out, ?_⟩⟩
    refine ⟨_, results_cell1 rfl _ _ ⟨w.heap.size, 0, none⟩ _ rfl (load_boolT _ _ _ (HX3.out.cell 0 rfl)), ?_⟩
    exact ⟨ret_bool HA.out.symm, HB.out⟩
theorem leqV_self_comm (a b : List Int) : leqV a b = ((List.range (max b.length a.length)).all fun i => decide (nth a i ≤ nth b i)) := by unfold leqV; rw [Nat.max_comm]
end Go.Proofs.Ythjflgnoeenenaa
