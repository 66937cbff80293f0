/- Contracts: the iterators over the parts of a record. -/
import Derived.RangeFuncBox
import Derived.RangeFuncLeaves
import Derived.RangeFuncWrites
import Derived.RangeFuncCalls
import Derived.Shelf.Abstract
import Derived.WalkKit
import Derived.OwnWalkIn
import Derived.TacticsInMore
import Derived.LoopNIn
import Derived.LoopIn
import Derived.Test.YtiejndkchcljdaaLgBlank
import Derived.Test.YtiejndkchcljdaaQuietC
import Derived.OrdersIn
import Derived.OrdersHeld
import Derived.Test.YtiejndkchcljdaaPhaseT
namespace Go.Proofs.Ytiejndkchcljdaa
open Go.RowKit Go.Shelf
attribute [local go_sem] Oper.semAt_some

/-- what a round keeps: the blocks from lo on below hi -/
def KpR (lo hi : Nat) (W W' : World) : Prop := W.heap.size ≤ W'.heap.size ∧ ∀ b, lo ≤ b → b < hi → W'.heap[b]? = W.heap[b]?
theorem KpR.refl (lo hi : Nat) (W : World) : KpR lo hi W W := ⟨Nat.le_refl _, fun _ _ _ => rfl⟩
theorem KpR.trans {lo hi : Nat} {A B C : World} (h : KpR lo hi A B) (k : KpR lo hi B C) : KpR lo hi A C := ⟨Nat.le_trans h.1 k.1, fun b h1 h2 => (k.2 b h1 h2).trans (h.2 b h1 h2)⟩
theorem KpR.cell {lo hi : Nat} {A B : World} (h : KpR lo hi A B) {b : Nat} (h1 : lo ≤ b) (h2 : b < hi) (j : Nat) : B.cell? ⟨b, j, none⟩ = A.cell? ⟨b, j, none⟩ := World.cell?_of_block (a := ⟨b, j, none⟩) (h.2 b h1 h2)
theorem KpR.drew {lo hi : Nat} {A B : World} (h : KpR lo hi A B) : KpR lo hi A B.drew := h
theorem KpR.put {lo hi : Nat} {w : World} (hi_ : hi ≤ w.heap.size) (W : World) (l : Nat) (o o' : Obj) (hl : w.heap.size ≤ l) (_ : W.heap[l]? = some o) (_ : o.isCells = false) (_ : o.isWalk = false) : KpR lo hi W (W.putObj l o') :=
  ⟨by simp, fun b _ h2 => World.putObj_heap_other (by omega)⟩
/-- the value of the part i of a record of n bytes -/
def partV (A : Option Addr) (n i : Nat) : Value := if n = 0 then .slice none 0 0 else .slice (A.map (·.add (i * 49))) (min 49 (n - i * 49)) (min 49 (n - i * 49))
theorem wide_room {n : Nat} : Fence.wide.depth.isSome = true → 1 ≤ n := fun h => (by simp [Fence.wide] at h)
theorem grown_drew (W : World) : W.grownBy W.drew none := ⟨rfl, rfl, rfl, Nat.le_refl _, fun _ _ _ => rfl⟩

set_option maxRecDepth 100000 in
set_option maxHeartbeats 2000000 in
theorem values1_in (n l Bs b lo hi : Nat) (A : Option Addr) (J Jx : List Nat → World → Prop)
    (hY : ∀ pre (x : Nat) W, J pre W → pre.length < 1 → YieldAt Fence.wide (n - 1) Try.prog l #[partV A 0 x] W fun e W' =>
      (e = .returned (.bool true) ∧ J (pre ++ [x]) W' ∧ KpR lo hi W W') ∨ (e = .returned (.bool false) ∧ Jx (pre ++ [x]) W'))
    (W : World) (hBs : W.cell? ⟨Bs, 0, none⟩ = some (.slice (some ⟨b, 0, none⟩) 1 1)) (hc : W.cell? ⟨b, 0, none⟩ = some (.slice none 0 0)) (h0 : J [] W) :
    CallsIn Fence.wide n Try.prog 88 #[.func (.yield l) #[] #[], .pointer (some ⟨Bs, 0, none⟩)] W fun e W' => (∃ v, e = .returned v) ∧
      ((∃ ys, ys = [0] ∧ J ys W') ∨ (∃ pre : List Nat, (∃ k, k ≤ 1 ∧ pre = List.range k) ∧ Jx pre W')) := by
  refine callsIn_of_wp Try.func88 rfl trivial ?_ rfl
  simp only [Try.ntmps88, List.size_toArray, List.length_cons, List.length_nil, Nat.reduceAdd, Nat.reduceSub, Array.replicate_succ, Array.replicate_zero, List.push_toArray, List.append_toArray, List.nil_append, List.cons_append]
  gi_wp2
  gi_loopw [7] (fun i wr => (i = .int .i64 0 ∧ wr = W) ∨ (i = .int .i64 1 ∧ J [0] wr)) (fun i _ => 1 - (intOf i).toNat)
  case atStart => exact .inl ⟨rfl, rfl⟩
  case round =>
    rcases hrel with ⟨rfl, rfl⟩ | ⟨rfl, hJ⟩
    · obtain ⟨fn, tmps, assign, body, hy, hR⟩ := hY [] 0 wr h0 (by simp)
      have hy2 : (Instr.yield l #[.slice none 0 0]).run Try.prog wr = .ok (.round l fn tmps assign body) wr := hy
      gi_wp2
      refine ⟨wide_room, hR.mono ?_⟩
      rintro e W3 (⟨rfl, hJ3, hk3⟩ | ⟨rfl, hJx3⟩)
      · gi_wp2
        go_roundw
        case rel => exact .inr ⟨by go_num, hJ3⟩
        case measure => simp [intOf]
      · gi_wp2
        refine bodyPost_ret (results_none rfl _ _ _) rfl ?_
        exact ⟨⟨_, rfl⟩, .inr ⟨[0], ⟨1, Nat.le_refl _, rfl⟩, hJx3⟩⟩
    · gi_wp2
      go_end0
      exact ⟨⟨_, rfl⟩, .inl ⟨_, rfl, hJ⟩⟩
attribute [local irreducible] wpQuiet
set_option maxRecDepth 100000 in
set_option maxHeartbeats 4000000 in
theorem chunk1_in (n l B1 B2 lo hi b off m c : Nat) (hm : 0 < m) (hm2 : m ≤ 1048576) (hmc : m ≤ c) (h1 : lo ≤ B1) (h2 : B1 < hi) (h3 : lo ≤ B2) (h4 : B2 < hi) (J Jx : List Nat → World → Prop) (W : World)
    (hJd : ∀ pre A, J pre A → J pre A.drew)
    (hY : ∀ pre (x : Nat) W, J pre W → pre.length < needN m → YieldAt Fence.wide (n - 1) Try.prog l #[partV (some ⟨b, off, none⟩) m x] W fun e W' =>
      (e = .returned (.bool true) ∧ J (pre ++ [x]) W' ∧ KpR lo hi W W') ∨ (e = .returned (.bool false) ∧ Jx (pre ++ [x]) W'))
    (hc1 : W.cell? ⟨B1, 0, none⟩ = some (.slice (some ⟨b, off, none⟩) m c)) (hc2 : W.cell? ⟨B2, 0, none⟩ = some (.int .i64 49)) (h0 : J [] W) :
    CallsIn Fence.wide n Try.prog 89 #[.func (.yield l) #[] #[], .pointer (some ⟨B1, 0, none⟩), .pointer (some ⟨B2, 0, none⟩)] W fun e W' => (∃ v, e = .returned v) ∧
      ((∃ ys, ys = List.range (needN m) ∧ J ys W') ∨ (∃ pre : List Nat, (∃ k, k ≤ needN m ∧ pre = List.range k) ∧ Jx pre W')) := by
  have HN := hid (show needN m = (m + 48) / 49 from by unfold needN; omega)
  refine callsIn_of_wp Try.func89 rfl trivial ?_ rfl
  simp only [Try.ntmps89, List.size_toArray, List.length_cons, List.length_nil, Nat.reduceAdd, Nat.reduceSub, Array.replicate_succ, Array.replicate_zero, List.push_toArray, List.append_toArray, List.nil_append, List.cons_append]
  gi_wp2
  gi_loopw [4] (fun i wr => ∃ k : Nat, k ≤ needN m ∧ i = .int .i64 ((k * 49 : Nat) : Int) ∧ Hid (J (List.range k) wr) ∧ Hid (KpR lo hi W wr)) (fun i _ => 1048676 - (intOf i).toNat)
  case atStart => exact ⟨0, Nat.zero_le _, rfl, hid h0, hid (KpR.refl _ _ _)⟩
  case round =>
    obtain ⟨k, hk, rfl, HJ, HK⟩ := hrel
    have d1 := (HK.out.cell h1 h2 0).trans hc1
    have d2 := (HK.out.cell h3 h4 0).trans hc2
    have hc1' := hid hc1; have hc2' := hid hc2
    clear hc1 hc2
    by_cases hlt : k * 49 < m
    · have hlt' : ((k * 49 : Nat) : Int) < (m : Int) := by omega
      have hkN : k < needN m := by rw [HN.out]; omega
      obtain ⟨fn, tmps, assign, body, hy, hR⟩ := hY _ k wr.drew (hJd _ _ HJ.out) (by rw [List.length_range]; exact hkN)
      obtain ⟨j, hj⟩ : ∃ j, k * 49 = j := ⟨_, rfl⟩
      by_cases hq : 49 ≤ m - j
      · have hq' : (49 : Int) ≤ ((m - j : Nat) : Int) := by omega
        have hsum2 : IntKind.i64.wrap ((j : Int) + 49) = ((j + 49 : Nat) : Int) := by rw [IntWalk.i64_in _ (by omega)]; omega
        have hle2 : j + 49 ≤ c := by omega
        have hle3 : (j : Int) + 49 ≤ (c : Int) := by omega
        have e49 : ((j : Int) + 49).toNat = j + 49 := by omega
        have hy2 : (Instr.yield l #[.slice (some ⟨b, off + j, none⟩) (49) (49)]).run Try.prog wr.drew = .ok (.round l fn tmps assign body) wr.drew := by
          have e : partV (some ⟨b, off, none⟩) m k = .slice (some ⟨b, off + j, none⟩) (49) (49) := by
            unfold partV
            rw [if_neg (by omega), hj, show min 49 (m - j) = 49 by omega]
            simp [Addr.add_lit]
          rw [e] at hy
          exact hy
        have hcj : ¬ c = j := by omega
        have hjm : j ≤ m := by omega
        have hle1 : j + 49 ≤ m ∨ True := .inr trivial
        have hmcj : m ≤ c := hmc
        rw [hj] at hlt hlt' ⊢
        have Hj := hid hj
        clear hj hy hle1
        gi_wp2
        refine wpIn_wide.2 ?_
        refine wp_region_class (fun w' => w' = wr.drew) (by kernel_rfl) (by kernel_rfl) rfl ?_
        intro S _ at_ hS hin
        have HhS := hid hS; have Hin := hid hin
        have e1 : ∀ x, (at_ x).cell? ⟨B1, 0, none⟩ = some (.slice (some ⟨b, off, none⟩) m c) := fun x => by rw [HhS.out x]; exact d1
        have e2 : ∀ x, (at_ x).cell? ⟨B2, 0, none⟩ = some (.int .i64 49) := fun x => by rw [HhS.out x]; exact d2
        clear hS hin
        (refine wpQuiet_step (fun K hK => ?_); go_simp; refine hK _ ?_; clear hK K)
        (refine wpQuiet_step (fun K hK => ?_); go_simp; refine hK _ ?_; clear hK K)
        (refine wpQuiet_step (fun K hK => ?_); go_simp; refine hK _ ?_; clear hK K)
        (refine wpQuiet_step (fun K hK => ?_); go_simp; refine hK _ ?_; clear hK K)
        (refine wpQuiet_step (fun K hK => ?_); go_simp; refine hK _ ?_; clear hK K)
        (refine wpQuiet_step (fun K hK => ?_); go_simp; refine hK _ ?_; clear hK K)
        (refine wpQuiet_step (fun K hK => ?_); go_simp; refine hK _ ?_; clear hK K)
        refine wpQuiet_nil ?_
        rintro _ rfl
        have d1' : wr.drew.cell? ⟨B1, 0, none⟩ = some (.slice (some ⟨b, off, none⟩) m c) := d1
        have d2' : wr.drew.cell? ⟨B2, 0, none⟩ = some (.int .i64 49) := d2
        clear e1 e2 HhS Hin
        gi_wp2
        refine ⟨wide_room, hR.mono ?_⟩
        rintro e W3 (⟨rfl, hJ3, hk3⟩ | ⟨rfl, hJx3⟩)
        · have HK3 := hid (HK.out.drew.trans hk3)
          have f1 := (HK3.out.cell h1 h2 0).trans hc1'.out
          have f2 := (HK3.out.cell h3 h4 0).trans hc2'.out
          clear d1 d2 d1' d2' hk3 HK
          gi_wp2
          go_roundw
          case rel => exact ⟨k + 1, hkN, by rw [← Hj.out]; go_num, by rw [List.range_succ]; exact hid hJ3, HK3⟩
          case measure => simp [intOf]; omega
        · gi_wp2
          refine bodyPost_ret (results_none rfl _ _ _) rfl ?_
          exact ⟨⟨_, rfl⟩, .inr ⟨_, ⟨k + 1, hkN, List.range_succ.symm⟩, hJx3⟩⟩
      · have hq' : ((m - j : Nat) : Int) ≤ 49 := by omega
        have hsum2 : IntKind.i64.wrap ((j : Int) + 49) = ((j + 49 : Nat) : Int) := by rw [IntWalk.i64_in _ (by omega)]; omega
        have hsum : IntKind.i64.wrap ((j : Int) + ((m - j : Nat) : Int)) = (m : Int) := by rw [IntWalk.i64_in _ (by omega)]; omega
        have hy2 : (Instr.yield l #[.slice (some ⟨b, off + j, none⟩) (m - j) (m - j)]).run Try.prog wr.drew = .ok (.round l fn tmps assign body) wr.drew := by
          have e : partV (some ⟨b, off, none⟩) m k = .slice (some ⟨b, off + j, none⟩) (m - j) (m - j) := by
            unfold partV
            rw [if_neg (by omega), hj, show min 49 (m - j) = m - j by omega]
            simp [Addr.add_lit]
          rw [e] at hy
          exact hy
        have hcj : ¬ c = j := by omega
        have hjm : j ≤ m := by omega
        have hle1 : j + 49 ≤ m ∨ True := .inr trivial
        have hmcj : m ≤ c := hmc
        rw [hj] at hlt hlt' ⊢
        have Hj := hid hj
        clear hj hy hle1
        gi_wp2
        refine wpIn_wide.2 ?_
        refine wp_region_class (fun w' => w' = wr.drew) (by kernel_rfl) (by kernel_rfl) rfl ?_
        intro S _ at_ hS hin
        have HhS := hid hS; have Hin := hid hin
        have e1 : ∀ x, (at_ x).cell? ⟨B1, 0, none⟩ = some (.slice (some ⟨b, off, none⟩) m c) := fun x => by rw [HhS.out x]; exact d1
        have e2 : ∀ x, (at_ x).cell? ⟨B2, 0, none⟩ = some (.int .i64 49) := fun x => by rw [HhS.out x]; exact d2
        clear hS hin
        (refine wpQuiet_step (fun K hK => ?_); go_simp; refine hK _ ?_; clear hK K)
        (refine wpQuiet_step (fun K hK => ?_); go_simp; refine hK _ ?_; clear hK K)
        (refine wpQuiet_step (fun K hK => ?_); go_simp; refine hK _ ?_; clear hK K)
        (refine wpQuiet_step (fun K hK => ?_); go_simp; refine hK _ ?_; clear hK K)
        (refine wpQuiet_step (fun K hK => ?_); go_simp; refine hK _ ?_; clear hK K)
        (refine wpQuiet_step (fun K hK => ?_); go_simp; refine hK _ ?_; clear hK K)
        (refine wpQuiet_step (fun K hK => ?_); go_simp; refine hK _ ?_; clear hK K)
        refine wpQuiet_nil ?_
        rintro _ rfl
        have d1' : wr.drew.cell? ⟨B1, 0, none⟩ = some (.slice (some ⟨b, off, none⟩) m c) := d1
        have d2' : wr.drew.cell? ⟨B2, 0, none⟩ = some (.int .i64 49) := d2
        clear e1 e2 HhS Hin
        gi_wp2
        refine ⟨wide_room, hR.mono ?_⟩
        rintro e W3 (⟨rfl, hJ3, hk3⟩ | ⟨rfl, hJx3⟩)
        · have HK3 := hid (HK.out.drew.trans hk3)
          have f1 := (HK3.out.cell h1 h2 0).trans hc1'.out
          have f2 := (HK3.out.cell h3 h4 0).trans hc2'.out
          clear d1 d2 d1' d2' hk3 HK
          gi_wp2
          go_roundw
          case rel => exact ⟨k + 1, hkN, by rw [← Hj.out]; go_num, by rw [List.range_succ]; exact hid hJ3, HK3⟩
          case measure => simp [intOf]; omega
        · gi_wp2
          refine bodyPost_ret (results_none rfl _ _ _) rfl ?_
          exact ⟨⟨_, rfl⟩, .inr ⟨_, ⟨k + 1, hkN, List.range_succ.symm⟩, hJx3⟩⟩
    · have hkN : k = needN m := by have := HN.out; omega
      have hlt' : ¬ ((k * 49 : Nat) : Int) < (m : Int) := by omega
      have HY := hid (show (∃ ys, ys = List.range (needN m) ∧ J ys wr) from ⟨_, rfl, by rw [← hkN]; exact HJ.out⟩)
      clear hkN HJ
      gi_wp2
      go_end0
      exact ⟨⟨_, rfl⟩, .inl (by simpa using HY.out)⟩
end Go.Proofs.Ytiejndkchcljdaa
/- A region inside of a round of a range over a function, walked as everywhere. Plain lemmas over any program. -/
namespace Go.Proofs.Ytiejndkchcljdaa
open Go Go.RowKit

def noDefer (o : Oper) : Bool := match o.op with
  | .defer _ => false
  | _ => true
section
variable {P : Program} {ops : Array Oper} {Q : Exit → Act → World → Prop} {l n : Nat} {md : Region.Mode}
theorem rowsIn_round {row : String} {args : Array Value} {w : World} {R : Value → World → Prop} (h : Rows P row args w R) : RowsIn (Fence.wide.inRound l) n P row args w R := fun c cs _ =>
  let ⟨v, w', r, s⟩ := h c cs
  ⟨v, w', r, stepsIn_wide.2 s⟩
theorem operIn_round {o : Oper} (hnd : noDefer o = true) {a : Act} {w : World} {K : Act → World → Prop} (h : o.wp P a w K Q) : o.wpIn (Fence.wide.inRound l) n P a w K Q := by
  unfold Oper.wpIn
  refine ⟨fun _ _ => trivial, ?_⟩
  rw [Oper.semAt_eq _ _ _ (fun c hc => by unfold noDefer at hnd; rw [hc] at hnd; cases hnd)]
  unfold Oper.wp at h
  generalize (execOp a.eval o).run P w = r at *
  have hd : (Fence.wide.inRound l).depth.isSome = true → 1 ≤ n := fun h => (by simp [Fence.wide] at h)
  cases r with
  | ok x w' =>
    cases x <;> simp only [Oper.upon, Oper.uponIn] at h ⊢ <;>
      first
        | exact h
        | exact ⟨hd, CallsIn.inRound l (callsIn_wide.2 h)⟩
        | exact ⟨hd, rowsIn_round h⟩
        | exact h.elim
  | halt x w' => cases x <;> simp only [Oper.upon, Oper.uponIn] at h ⊢ <;> exact h
theorem opIn_round (hnd : ops.toList.all noDefer = true) (hQ : ¬ LetsOut Q) {i : Nat} {a : Act} {w : World} {K K' : Act → World → Prop} (hK : ∀ a w, K a w → K' a w) (h : wpOp P ops Q i K a w) : wpOpIn (Fence.wide.inRound l) n P ops Q i K' a w := by
  unfold wpOp at h
  unfold wpOpIn
  split
  · rename_i ho; simp only [ho] at h; exact hK _ _ h
  · rename_i o ho
    simp only [ho] at h
    have hno : noDefer o = true := by
      rw [List.all_eq_true] at hnd
      exact hnd o (by
        have := Array.mem_of_getElem? ho
        exact Array.mem_toList_iff.2 this)
    split
    · rename_i hw
      simp only [hw, if_true] at h
      rcases h with h | h
      · exact Oper.wpIn_mono hK (operIn_round hno h)
      · exact absurd h.2 hQ
    · rename_i hw
      simp only [hw] at h
      exact ⟨fun _ _ => trivial, hK _ _ h⟩
theorem anyIn_round (hnd : ops.toList.all noDefer = true) (hQ : ¬ LetsOut Q) : ∀ (fuel : Nat) (listed : Array Bool) (a : Act) (w : World), wpAny P md ops Q fuel listed a w → wpAnyIn (Fence.wide.inRound l) n P md ops Q fuel listed a w
  | 0, _, _, _, h => h
  | fuel + 1, _, _, _, h => ⟨h.1, fun i hi => opIn_round hnd hQ (fun a w h => anyIn_round hnd hQ fuel _ a w h) (h.2 i hi)⟩
/-- a region that draws its order, in a round -/
theorem wpIn_region_round {id : Nat} {a : Act} {w : World} (hm : P.follows .mixedOrders = true) (hnd : ops.toList.all noDefer = true) (hQ : ¬ LetsOut Q)
    (h : wpAny P .any ops Q ops.size (Array.replicate ops.size false) a w.drew) : (Code.region id ops true).wpIn (Fence.wide.inRound l) n P Q a w :=
  wpIn_region_any hm (anyIn_round hnd hQ _ _ _ _ h)
end
section
variable {P : Program} {ops : Array Oper} {Q : Exit → Act → World → Prop} {md : Region.Mode} {S : World → Prop} {i fuel : Nat} {listed : Array Bool} {o : Oper} {a : Act} {w : World}
/-- a call among those that may come up -/
theorem held_call (hi : ops[i]? = some o) (hw : Region.wanted o (yielded ops a.tmps) = true) (f : FuncId) (args : Array Value) (hop : ∀ w, (execOp a.eval o).run P w = .ok (.enter f args) w) (v : Value) (T : World → Prop)
    (hc : Calls P f args w fun e w' => e = .returned v ∧ T w') (h : ∀ w', T w' → S w' ∧ wpAnyH P md ops Q S fuel (listed.setIfInBounds i true) (a.put o.dst v) w') : wpOp P ops Q i (fun a' w' => S w' ∧ wpAnyH P md ops Q S fuel (listed.setIfInBounds i true) a' w') a w := by
  unfold wpOp
  simp only [hi, hw, if_true]
  refine .inl ?_
  unfold Oper.wp
  rw [hop]
  simp only [Oper.upon]
  exact hc.mono fun e w' ⟨he, ht⟩ => by subst he; exact h w' ht
/-- a new variable among those that may come up -/
theorem held_alloc (hi : ops[i]? = some o) (hw : Region.wanted o (yielded ops a.tmps) = true) (t : TypeId) (ho : o.op = .alloc t) (z : Value) (hz : (P.info? t).map (·.zero) = some (some z))
    (h : S (w.alloc (.cells z.cells t)) ∧ wpAnyH P md ops Q S fuel (listed.setIfInBounds i true) (a.put o.dst (.pointer (some ⟨w.heap.size, 0, none⟩))) (w.alloc (.cells z.cells t))) : wpOp P ops Q i (fun a' w' => S w' ∧ wpAnyH P md ops Q S fuel (listed.setIfInBounds i true) a' w') a w := by
  obtain ⟨inf, hi2, hz2⟩ := Option.map_eq_some_iff.1 hz
  unfold wpOp
  simp only [hi, hw, if_true]
  refine .inl ?_
  unfold Oper.wp execOp
  have : (Instr.alloc t true (.tuple #[])).run P w = .ok (.pointer (some ⟨w.heap.size, 0, none⟩)) (w.alloc (.cells z.cells t)) := by
    simp [Instr.alloc, zeroValue, typeInfo, hi2, hz2, newVar, newRow]
  simp only [ho, Sem.run_bind, Sem.run_pure, Result.andThen_ok, this]
  exact h
/-- a whole block stored, when it comes up -/
theorem held_store (hi : ops[i]? = some o) (hw : Region.wanted o (yielded ops a.tmps) = true) (t : TypeId) (x y : Operand) (ho : o.op = .store t x y) (ad : Addr) (v : Value) (w' : World) (hx : a.eval x = .pointer (some ad)) (hy : a.eval y = v)
    (hr : (storeVar t ad v).run P w = .ok () w') (h : S w' ∧ wpAnyH P md ops Q S fuel (listed.setIfInBounds i true) (a.put o.dst undef) w') : wpOp P ops Q i (fun a' w' => S w' ∧ wpAnyH P md ops Q S fuel (listed.setIfInBounds i true) a' w') a w := by
  unfold wpOp
  simp only [hi, hw, if_true]
  refine .inl ?_
  unfold Oper.wp execOp
  simp only [ho, hx, hy, Instr.storeAt, Instr.sureAddr, Sem.run_bind, Sem.run_pure, Result.andThen_ok, hr]
  exact h
end
section
variable {P : Program} {l : List Oper} {Q : Exit → Act → World → Prop} {md : Region.Mode} {S : World → Prop} {i fuel : Nat} {listed : Array Bool} {o : Oper} {a : Act} {w : World}
theorem take_at (hi : l[i]? = some o) (v : Value) (hs : Region.noSelect l.toArray = true) (hf : Region.free md l.toArray listed i = true) (hr : (Region.ready md l.toArray listed).contains i = true)
    (hQ : ∀ c a w, Q (.panic c) (a.put o.dst v) w → Q (.panic c) a w) (hw : Region.wanted o (yielded l.toArray a.tmps) = true) (hy : ∀ w, S w → (execOp a.eval o).run P w = .ok (.value v) w) (hS : S w)
    (h : wpAnyH P md l.toArray Q S fuel (listed.setIfInBounds i true) (a.put o.dst v) w) : wpAnyH P md l.toArray Q S (fuel + 1) listed a w :=
  wpAnyH_take (by simpa using hi) hs hf hr hQ (.inl ⟨hw, hy⟩) hS h
theorem call_at (hi : l[i]? = some o) (hw : Region.wanted o (yielded l.toArray a.tmps) = true) (f : FuncId) (args : Array Value) (hop : ∀ w, (execOp a.eval o).run P w = .ok (.enter f args) w) (v : Value) (T : World → Prop)
    (hc : Calls P f args w fun e w' => e = .returned v ∧ T w') (h : ∀ w', T w' → S w' ∧ wpAnyH P md l.toArray Q S fuel (listed.setIfInBounds i true) (a.put o.dst v) w') : wpOp P l.toArray Q i (fun a' w' => S w' ∧ wpAnyH P md l.toArray Q S fuel (listed.setIfInBounds i true) a' w') a w :=
  held_call (by simpa using hi) hw f args hop v T hc h
theorem alloc_at (hi : l[i]? = some o) (hw : Region.wanted o (yielded l.toArray a.tmps) = true) (t : TypeId) (ho : o.op = .alloc t) (z : Value) (hz : (P.info? t).map (·.zero) = some (some z))
    (h : S (w.alloc (.cells z.cells t)) ∧ wpAnyH P md l.toArray Q S fuel (listed.setIfInBounds i true) (a.put o.dst (.pointer (some ⟨w.heap.size, 0, none⟩))) (w.alloc (.cells z.cells t))) : wpOp P l.toArray Q i (fun a' w' => S w' ∧ wpAnyH P md l.toArray Q S fuel (listed.setIfInBounds i true) a' w') a w :=
  held_alloc (by simpa using hi) hw t ho z hz h
theorem store_at (hi : l[i]? = some o) (hw : Region.wanted o (yielded l.toArray a.tmps) = true) (t : TypeId) (x y : Operand) (ho : o.op = .store t x y) (ad : Addr) (v : Value) (w' : World) (hx : a.eval x = .pointer (some ad)) (hy : a.eval y = v)
    (hr : (storeVar t ad v).run P w = .ok () w') (h : S w' ∧ wpAnyH P md l.toArray Q S fuel (listed.setIfInBounds i true) (a.put o.dst undef) w') : wpOp P l.toArray Q i (fun a' w' => S w' ∧ wpAnyH P md l.toArray Q S fuel (listed.setIfInBounds i true) a' w') a w :=
  held_store (by simpa using hi) hw t x y ho ad v w' hx hy hr h
end
end Go.Proofs.Ytiejndkchcljdaa
/- Contract: the parts of a record, as an iterator. -/
namespace Go.Proofs.Ytiejndkchcljdaa
open Go.RowKit Go.Shelf
attribute [local go_sem] Oper.semAt_some

theorem run_mkf (fn : Fn) (first cap : Array Value) (w : World) : (Instr.makeFunc fn first cap).run Try.prog w = .ok (.func fn first cap) w := rfl
attribute [local go_sem] run_mkf
theorem values_calls (A : Option Addr) (n c : Nat) (w : World) : Calls Try.prog 73 #[.slice A n c] w fun e w' => e = .returned (.func (.func 88) #[] #[.pointer (some ⟨w.heap.size, 0, none⟩)]) ∧ w' = w.alloc (.cells #[.slice A n c] 50) := by
  go_enter Try.func73, Try.ntmps73
  go_wp2_with fail
  go_ret
  exact ⟨rfl, rfl⟩
theorem chunk_calls (A : Option Addr) (n c : Nat) (w : World) : Calls Try.prog 74 #[.slice A n c, .int .i64 49] w fun e w' => e = .returned (.func (.func 89) #[] #[.pointer (some ⟨w.heap.size, 0, none⟩), .pointer (some ⟨w.heap.size + 1, 0, none⟩)]) ∧ w' = (w.alloc (.cells #[.slice A n c] 34)).alloc (.cells #[.int .i64 49] 3) := by
  go_enter Try.func74, Try.ntmps74
  go_wp2_with fail
  go_ret
  exact ⟨by simp, rfl⟩
/-- what hands out the parts -/
def PartsOf (w w' : World) (A : Option Addr) (n : Nat) (gf : Nat) (lb : Array Value) : Prop :=
  (∀ args w, (callFunc gf args).run Try.prog w = .ok (.enter gf args) w) ∧ ∀ n', SeqStopsK Fence.wide n' Try.prog gf lb (fun i : Nat => #[partV A n i]) (KpR w.heap.size w'.heap.size) (fun ys => ys = List.range (needN n)) (fun pre => ∃ k, k ≤ needN n ∧ pre = List.range k) (needN n) w'
theorem parts_calls (A : Option Addr) (n c B : Nat) (rec : List UInt8) (w : World) (hs : SB w B A n rec) (hn : n ≤ 1048576) (hc : n ≤ c) :
    Calls Try.prog 51 #[.slice A n c] w fun e w' => ∃ gf lb, e = .returned (.func (.func gf) #[] lb) ∧ Below w.heap.size w w' ∧ PartsOf w w' A n gf lb := by
  by_cases h0 : n = 0
  · subst h0
    have hb1 := below_new w (.cells #[Value.slice none 0 0] 34)
    have hs1 := size_new w (.cells #[Value.slice none 0 0] 34)
    have k1 := Blk.new w 34 #[Value.slice none 0 0]
    have HB1 := hid hb1; have HS1 := hid hs1; have K1 := hid k1
    clear hb1 hs1 k1 hs
    go_enter Try.func51, Try.ntmps51
    go_wp2_with fail
    refine (values_calls _ 1 1 _).mono ?_
    rintro _ w2 ⟨rfl, rfl⟩
    have hb2 := below_new (w.alloc (.cells #[Value.slice none 0 0] 34)) (.cells #[Value.slice (some ⟨w.heap.size, 0, none⟩) 1 1] 50)
    have k2 := Blk.new (w.alloc (.cells #[Value.slice none 0 0] 34)) 50 #[Value.slice (some ⟨w.heap.size, 0, none⟩) 1 1]
    have hk1 := K1.out.keep hb2
    have hB : Below w.heap.size w ((w.alloc (.cells #[Value.slice none 0 0] 34)).alloc (.cells #[Value.slice (some ⟨w.heap.size, 0, none⟩) 1 1] 50)) := HB1.out.trans (hb2.mono HB1.out.size)
    have hlt := k2.lt
    have HB := hid hB; have K2 := hid k2; have K1' := hid hk1; have HLT := hid hlt
    clear hb2 k2 hk1 hB hlt
    generalize (w.alloc (.cells #[Value.slice none 0 0] 34)).alloc (.cells #[Value.slice (some ⟨w.heap.size, 0, none⟩) 1 1] 50) = w2 at HB K2 K1' HLT ⊢
    generalize (w.alloc (.cells #[Value.slice none 0 0] 34)).heap.size = B2 at K2 HLT HS1 ⊢
    go_wp2_with fail
    go_ret
    refine ⟨_, _, rfl, HB.out, enters_of Try.func88 (by kernel_rfl) rfl, fun n' l J Jx W hW _ _ hY h0 => ?_⟩
    refine (values1_in n' l B2 w.heap.size w.heap.size w2.heap.size A J Jx (fun pre x W1 hj hl => hY pre x W1 hj hl) W ((hW.cell (p := ⟨B2, 0, none⟩) HLT.out).trans (K2.out.cell 0 rfl)) ((hW.cell (p := ⟨w.heap.size, 0, none⟩) K1'.out.lt).trans (K1'.out.cell 0 rfl)) h0).mono ?_
    rintro e W' ⟨he, h⟩
    exact ⟨he, h⟩
  · have h0' : ¬ (n : Int) = 0 := by omega
    have hne : ¬ n = 0 := h0
    clear h0
    obtain ⟨b, off, rfl, _, _⟩ := hs.2 (by omega)
    clear hs
    go_enter Try.func51, Try.ntmps51
    go_wp2_with fail
    refine (chunk_calls _ n c _).mono ?_
    rintro _ w2 ⟨rfl, hw2⟩
    obtain ⟨W2, hW2, k1, k2, hB⟩ := (show ∃ W, W = (w.alloc (.cells #[Value.slice (some ⟨b, off, none⟩) n c] 34)).alloc (.cells #[Value.int .i64 49] 3) ∧ Blk W w.heap.size 34 #[Value.slice (some ⟨b, off, none⟩) n c] ∧ Blk W (w.heap.size + 1) 3 #[Value.int .i64 49] ∧ Below w.heap.size w W from two_new w _ _ _ _)
    rw [← hW2] at hw2
    subst hw2
    have HB := hid hB; have K1 := hid k1; have K2 := hid k2
    clear hB k1 k2 hW2
    go_wp2_with fail
    go_ret
    refine ⟨_, _, rfl, HB.out, enters_of Try.func89 (by kernel_rfl) rfl, fun n' l J Jx W hW hJ _ hY h0 => ?_⟩
    have hl1 := K1.out.lt
    have hl2 := K2.out.lt
    refine (chunk1_in n' l w.heap.size (w.heap.size + 1) w.heap.size w2.heap.size b off n c (by omega) hn hc (Nat.le_refl _) hl1 (Nat.le_succ _) hl2 J Jx W (fun pre A h => hJ pre A A.drew none h (grown_drew A) (fun r e => by cases e)) (fun pre x W1 hj hl => hY pre x W1 hj hl) ((hW.cell (p := ⟨w.heap.size, 0, none⟩) hl1).trans (K1.out.cell 0 rfl)) ((hW.cell (p := ⟨w.heap.size + 1, 0, none⟩) hl2).trans (K2.out.cell 0 rfl)) h0).mono ?_
    rintro e W' ⟨he, h⟩
    exact ⟨he, h⟩
end Go.Proofs.Ytiejndkchcljdaa
/- What holds between two rounds of a log's Write. -/
namespace Go.Proofs.Ytiejndkchcljdaa
open Go.RowKit Go.Shelf

def ncRow (W : World) (row : Option Nat) : Prop := ∀ r, row = some r → ∃ o : Obj, W.heap[r]? = some o ∧ o.isCells = false
section
variable {W W' : World} {row : Option Nat} {B : Nat}
theorem nc_not (h : ncRow W row) {b : Nat} {cs : Array Value} {t : TypeId} {z : Nat × Nat} (hb : W.heap[b]? = some (.cells cs t z)) : row ≠ some b := fun e => by
  obtain ⟨o, ho, hn⟩ := h b e
  rw [hb] at ho
  cases ho
  cases hn
theorem Blk.nc {g : Nat} {t : TypeId} {cs : Array Value} (h : Blk W g t cs) (hg : W.grownBy W' row) (hr : ncRow W row) : Blk W' g t cs := h.grown hg (nc_not hr h)
theorem SB.nc {n : Nat} {A : Option Addr} {bs : List UInt8} (h : SB W B A n bs) (hg : W.grownBy W' row) (hr : ncRow W row) : SB W' B A n bs :=
  ⟨h.1, fun hn => by
    obtain ⟨b, off, e, hlt, hc⟩ := h.2 hn
    exact ⟨b, off, e, hlt, fun j x hj => cell_kept (hc j x hj) hg hr⟩⟩
theorem keeps_below (h : Below W.heap.size W W') (B : Nat) : KeepsFrom B W W' := ⟨h.size, fun k _ _ hk _ => (h.block k (Array.getElem?_eq_some_iff.1 hk).1).trans hk⟩
theorem keeps_chg {L : List Nat} (h : Chg L W W') (hL : ∀ b ∈ L, ∃ cs t z, W.heap[b]? = some (.cells cs t z)) (B : Nat) : KeepsFrom B W W' := ⟨h.size, fun k o _ hk ho => (h.block k (Array.getElem?_eq_some_iff.1 hk).1 (fun hm => by
  obtain ⟨cs, t, z, hz⟩ := hL k hm
  rw [hz] at hk
  cases hk
  cases ho)).trans hk⟩
theorem kp_below {lo hi : Nat} (h : Below W.heap.size W W') (hh : hi ≤ W.heap.size) : KpR lo hi W W' := ⟨h.size, fun b _ h2 => h.block b (by omega)⟩
theorem kp_chg {lo hi : Nat} {L : List Nat} (h : Chg L W W') (hL : ∀ b ∈ L, b < lo ∨ hi ≤ b) (hh : hi ≤ W.heap.size) : KpR lo hi W W' := ⟨h.size, fun b h1 h2 => h.block b (by omega) (fun hm => by have := hL b hm; omega)⟩
end
/-- Since w only blocks of F, and new ones, have changed; block g is a device, none of whose blocks lies between w's and hi. -/
def DevH (w : World) (hi : Nat) (base : Nat) (F : List Nat) (g : Nat) (s : DS) (W : World) : Prop := ∃ F', DevB W base F' g s ∧ Chg F w W ∧ ∀ b ∈ F', b ∈ F ∨ hi ≤ b
section
variable {w W W' : World} {hi base g : Nat} {F L : List Nat} {s : DS}
theorem DevH.start (h : DevB w base F g s) (hb : Below w.heap.size w W) (hi : Nat) : DevH w hi base F g s W := ⟨F, h.keep hb, Chg.of_below hb, fun _ h => .inl h⟩
theorem DevH.at_ (h : DevH w hi base F g s W) (hh : w.heap.size ≤ hi) : DevAt w base F g s W := by
  obtain ⟨F', h1, h2, h3⟩ := h
  exact ⟨F', h1, h2, fun b hb => (h3 b hb).imp id (fun h => Nat.le_trans hh h)⟩
theorem DevH.keep (h : DevH w hi base F g s W) (hb : Below W.heap.size W W') : DevH w hi base F g s W' := by
  obtain ⟨F', h1, h2, h3⟩ := h
  exact ⟨F', h1.keep hb, h2.trans (Chg.of_below (L := []) hb) (fun b hb => by cases hb), h3⟩
theorem DevH.set_ (h : DevH w hi base F g s W) (hlt : ∀ b ∈ F, b < w.heap.size) (hc : Chg L W W') (hL : ∀ b ∈ L, w.heap.size ≤ b ∧ b < hi) : DevH w hi base F g s W' := by
  obtain ⟨F', h1, h2, h3⟩ := h
  refine ⟨F', h1.chg hc (fun b hb hm => ?_), h2.trans hc (fun b hb => .inr (hL b hb).1), h3⟩
  have := hL b hm
  rcases h3 b hb with hh | hh
  · have := hlt b hh; omega
  · omega
theorem DevH.nc {row : Option Nat} (h : DevH w hi base F g s W) (hg : W.grownBy W' row) (hr : ncRow W row) (hB : ∀ r, row = some r → w.heap.size ≤ r) : DevH w hi base F g s W' := by
  obtain ⟨F', h1, h2, h3⟩ := h
  obtain ⟨F2, k1, k2, k3⟩ := h1.tight
  have hc : Chg row.toList W W' := Chg.of_grown hg (fun b e => by rw [e]; simp)
  refine ⟨F2, k1.chg hc (fun b hb hm => ?_), h2.trans hc (fun b hb => ?_), fun b hb => h3 b (k2 b hb)⟩
  · obtain ⟨cs, t, z, hz⟩ := k3 b hb
    exact nc_not hr hz (by simpa using hm)
  · exact .inr (hB b (by simpa using hb))
/-- one write of a row of bytes that came since -/
theorem DevH.write (h : DevH w hi base F g s W) (hh : w.heap.size ≤ hi) (hbase : base ≤ w.heap.size) (hf : fuseOK s) (hb : Below W.heap.size W W') (hhW : hi ≤ W.heap.size) (i : Int) (B n c2 b off : Nat) (bs : List UInt8) (hs : SB W' B (some ⟨b, off, none⟩) n bs) (hne : W.heap.size ≤ b) :
    Calls Try.prog 26 #[.pointer (some ⟨g, 0, none⟩), .int .i64 i, .slice (some ⟨b, off, none⟩) n c2] W' fun e w2 => e = .returned (.int .i64 (writeE s i n : Int)) ∧ DevH w hi base F g (writeS s i bs) w2 ∧ ∃ F2, (∀ b ∈ F2, b ∈ F ∨ hi ≤ b) ∧ (∀ b ∈ F2, ∃ cs t z, W'.heap[b]? = some (.cells cs t z)) ∧ Chg F2 W' w2 := by
  obtain ⟨F', h1, h2, h3⟩ := h
  obtain ⟨F2, k1, k2, k3⟩ := h1.tight
  have k4 : ∀ b ∈ F2, b ∈ F ∨ hi ≤ b := fun b hb => h3 b (k2 b hb)
  have k1' := k1.keep hb
  have hsz := h2.size
  refine (dWrite_calls base g F2 s W' i B n c2 (some ⟨b, off, none⟩) bs k1' (by have := hb.size; omega) hf.1 hf.2 hs (fun b' off' e hm => by
    cases e
    have := (k1.lt b hm).2
    omega)).mono fun e w2 hp => ?_
  obtain ⟨he, F3, q1, q2, q3⟩ := hp
  have hc : Chg F w w2 := (h2.trans (Chg.of_below (L := []) hb) (fun b hb => by cases hb)).trans q2 (fun b hb => (k4 b hb).imp id (fun h => Nat.le_trans hh h))
  refine ⟨he, ⟨F3, q1, hc, fun b hb' => (q3 b hb').elim (fun h => k4 b h) (fun h => .inr (by have := hb.size; omega))⟩, F2, k4, fun b hb' => ?_, q2⟩
  obtain ⟨cs, t, z, hz⟩ := k3 b hb'
  exact ⟨cs, t, z, (hb.block b (Array.getElem?_eq_some_iff.1 hz).1).trans hz⟩
end
theorem SB.chg_pos {w w' : World} {B n : Nat} {A : Option Addr} {bs : List UInt8} {L : List Nat} (h : SB w B A n bs) (hc : Chg L w w') (hg : 0 < n → ∀ b off, A = some ⟨b, off, none⟩ → b < B → b ∉ L) : SB w' B A n bs :=
  ⟨h.1, fun hn => by
    obtain ⟨b, off, e, hlt, hx⟩ := h.2 hn
    exact ⟨b, off, e, hlt, fun j x hj => cell_chg (hx j x hj) hc (hg hn b off e hlt)⟩⟩
/-- a part of a record, to be read -/
theorem sb_part {W : World} {B n : Nat} {A : Option Addr} {rec : List UInt8} (h : SB W B A n rec) (x : Nat) : ∃ A' m, partV A n x = .slice A' m m ∧ m ≤ 49 ∧ SB W B A' m (partN rec x) := by
  have hl := h.1
  by_cases h0 : n = 0
  · subst h0
    have : rec = [] := List.eq_nil_of_length_eq_zero hl
    subst this
    exact ⟨none, 0, if_pos rfl, by omega, by simpa [partN] using SB.nil W B none⟩
  · refine ⟨A.map (·.add (x * 49)), min 49 (n - x * 49), if_neg h0, Nat.min_le_left _ _, by rw [partN_length, hl], fun hm => ?_⟩
    obtain ⟨b, off, rfl, hlt, hc⟩ := h.2 (by omega)
    refine ⟨b, off + x * 49, by simp [Addr.add_lit], hlt, fun j y hj => ?_⟩
    unfold partN at hj
    rw [List.getElem?_take] at hj
    split at hj
    · rw [List.getElem?_drop] at hj
      rw [Nat.add_assoc]
      exact hc _ y hj
    · cases hj
/-- the sectors that are written out of parts, whichever -/
def secsP (gen at_ N : Nat) (rec : List UInt8) (pre : List Nat) : List (List UInt8) := pre.mapIdx fun j x => secL gen (at_ + j) (kindN j N) (partN rec x)
theorem secsP_snoc (gen at_ N : Nat) (rec : List UInt8) (pre : List Nat) (x : Nat) : secsP gen at_ N rec (pre ++ [x]) = secsP gen at_ N rec pre ++ [secL gen (at_ + pre.length) (kindN pre.length N) (partN rec x)] := by
  simp [secsP, List.mapIdx_append]
theorem secsP_length (gen at_ N : Nat) (rec : List UInt8) (pre : List Nat) : (secsP gen at_ N rec pre).length = pre.length := by simp [secsP]
/-- the sectors of a record -/
def recSecs (gen at_ : Nat) (rec : List UInt8) : List (List UInt8) := (List.range (needN rec.length)).map (recSec gen at_ rec)
theorem secsP_range (gen at_ : Nat) (rec : List UInt8) (k : Nat) : secsP gen at_ (needN rec.length) rec (List.range k) = (List.range k).map (recSec gen at_ rec) := by
  unfold secsP recSec
  apply List.ext_getElem
  · simp
  · intro i h1 h2
    simp
theorem writes_ok {s : DS} {i : Int} (b : List UInt8) (l : List (List UInt8)) (h : writeE s i 64 = 0) : writesS s i (b :: l) = writesS (writeS s i b) (i + 1) l := if_pos h
theorem writes_bad {s : DS} {i : Int} (b : List UInt8) (l : List (List UInt8)) (h : ¬ writeE s i 64 = 0) : writesS s i (b :: l) = (writeS s i b, writeE s i 64) := if_neg h
theorem writes_one (s : DS) (i : Int) (b : List UInt8) : writesS s i [b] = (writeS s i b, writeE s i 64) := by
  by_cases h : writeE s i 64 = 0
  · rw [writes_ok b [] h, h]; rfl
  · exact writes_bad b [] h
theorem writes_more {s : DS} {i : Int} {l : List (List UInt8)} (m : List (List UInt8)) (h : (writesS s i l).2 = 0) : writesS s i (l ++ m) = writesS (writesS s i l).1 (i + (l.length : Int)) m := by
  induction l generalizing s i with
  | nil => simp [writesS]
  | cons b l ih =>
    by_cases he : writeE s i 64 = 0
    · rw [writes_ok b l he] at h ⊢
      rw [List.cons_append, writes_ok b _ he, ih h]
      have : i + 1 + (l.length : Int) = i + ((b :: l).length : Int) := by simp; omega
      rw [this]
    · rw [writes_bad b l he] at h
      exact absurd h he
theorem writes_stop {s : DS} {i : Int} {l : List (List UInt8)} (m : List (List UInt8)) (h : ¬ (writesS s i l).2 = 0) : writesS s i (l ++ m) = writesS s i l := by
  induction l generalizing s i with
  | nil => exact absurd rfl h
  | cons b l ih =>
    by_cases he : writeE s i 64 = 0
    · rw [writes_ok b l he] at h ⊢
      rw [List.cons_append, writes_ok b _ he, ih h]
    · rw [List.cons_append, writes_bad b _ he, writes_bad b l he]
end Go.Proofs.Ytiejndkchcljdaa
