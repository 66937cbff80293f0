/- Contracts: the iterators over the parts of a record. -/
import Derived.RangeFuncBox
import Derived.RangeFuncLeaves
import Derived.RangeFuncWrites
import Derived.RangeFuncCalls
import Derived.Shelf.Abstract
import Derived.WalkKit
import Derived.OwnWalkIn
import Derived.TacticsInMore
import Derived.LoopNIn
import Derived.LoopIn
import Derived.Test.YtgldhmmfofnmiaaLgBlank
import Derived.Test.YtgldhmmfofnmiaaQuietC
namespace Go.Proofs.Ytgldhmmfofnmiaa
open Go.RowKit Go.Shelf
attribute [local go_sem] Oper.semAt_some

/-- what a round keeps: the blocks from lo on below hi -/
def KpR (lo hi : Nat) (W W' : World) : Prop := W.heap.size ≤ W'.heap.size ∧ ∀ b, lo ≤ b → b < hi → W'.heap[b]? = W.heap[b]?
theorem KpR.refl (lo hi : Nat) (W : World) : KpR lo hi W W := ⟨Nat.le_refl _, fun _ _ _ => rfl⟩
theorem KpR.trans {lo hi : Nat} {A B C : World} (h : KpR lo hi A B) (k : KpR lo hi B C) : KpR lo hi A C := ⟨Nat.le_trans h.1 k.1, fun b h1 h2 => (k.2 b h1 h2).trans (h.2 b h1 h2)⟩
theorem KpR.cell {lo hi : Nat} {A B : World} (h : KpR lo hi A B) {b : Nat} (h1 : lo ≤ b) (h2 : b < hi) (j : Nat) : B.cell? ⟨b, j, none⟩ = A.cell? ⟨b, j, none⟩ := World.cell?_of_block (a := ⟨b, j, none⟩) (h.2 b h1 h2)
theorem KpR.drew {lo hi : Nat} {A B : World} (h : KpR lo hi A B) : KpR lo hi A B.drew := h
theorem KpR.put {lo hi : Nat} {w : World} (hi_ : hi ≤ w.heap.size) (W : World) (l : Nat) (o o' : Obj) (hl : w.heap.size ≤ l) (_ : W.heap[l]? = some o) (_ : o.isCells = false) (_ : o.isWalk = false) : KpR lo hi W (W.putObj l o') :=
  ⟨by simp, fun b _ h2 => World.putObj_heap_other (by omega)⟩
/-- the value of the part i of a record of n bytes -/
def partV (A : Option Addr) (n i : Nat) : Value := if n = 0 then .slice none 0 0 else .slice (A.map (·.add (i * 49))) (min 49 (n - i * 49)) (min 49 (n - i * 49))
theorem wide_room {n : Nat} : Fence.wide.depth.isSome = true → 1 ≤ n := fun h => (by simp [Fence.wide] at h)
theorem grown_drew (W : World) : W.grownBy W.drew none := ⟨rfl, rfl, rfl, Nat.le_refl _, fun _ _ _ => rfl⟩

set_option maxRecDepth 100000 in
set_option maxHeartbeats 2000000 in
theorem values1_in (n l Bs b lo hi : Nat) (A : Option Addr) (J Jx : List Nat → World → Prop)
    (hY : ∀ pre (x : Nat) W, J pre W → pre.length < 1 → YieldAt Fence.wide (n - 1) Try.prog l #[partV A 0 x] W fun e W' =>
      (e = .returned (.bool true) ∧ J (pre ++ [x]) W' ∧ KpR lo hi W W') ∨ (e = .returned (.bool false) ∧ Jx (pre ++ [x]) W'))
    (W : World) (hBs : W.cell? ⟨Bs, 0, none⟩ = some (.slice (some ⟨b, 0, none⟩) 1 1)) (hc : W.cell? ⟨b, 0, none⟩ = some (.slice none 0 0)) (h0 : J [] W) :
    CallsIn Fence.wide n Try.prog 95 #[.func (.yield l) #[] #[], .pointer (some ⟨Bs, 0, none⟩)] W fun e W' => (∃ v, e = .returned v) ∧
      ((∃ ys, ys = [0] ∧ J ys W') ∨ (∃ pre : List Nat, (∃ k, k ≤ 1 ∧ pre = List.range k) ∧ Jx pre W')) := by
  refine callsIn_of_wp Try.func95 rfl trivial ?_ rfl
  simp only [Try.ntmps95, List.size_toArray, List.length_cons, List.length_nil, Nat.reduceAdd, Nat.reduceSub, Array.replicate_succ, Array.replicate_zero, List.push_toArray, List.append_toArray, List.nil_append, List.cons_append]
  gi_wp2
  gi_loopw [7] (fun i wr => (i = .int .i64 0 ∧ wr = W) ∨ (i = .int .i64 1 ∧ J [0] wr)) (fun i _ => 1 - (intOf i).toNat)
  case atStart => exact .inl ⟨rfl, rfl⟩
  case round =>
    rcases hrel with ⟨rfl, rfl⟩ | ⟨rfl, hJ⟩
    · obtain ⟨fn, tmps, assign, body, hy, hR⟩ := hY [] 0 wr h0 (by simp)
      have hy2 : (Instr.yield l #[.slice none 0 0]).run Try.prog wr = .ok (.round l fn tmps assign body) wr := hy
      gi_wp2
      refine ⟨wide_room, hR.mono ?_⟩
      rintro e W3 (⟨rfl, hJ3, hk3⟩ | ⟨rfl, hJx3⟩)
      · gi_wp2
        go_roundw
        case rel => exact .inr ⟨by go_num, hJ3⟩
        case measure => simp [intOf]
      · gi_wp2
        refine bodyPost_ret (results_none rfl _ _ _) rfl ?_
        exact ⟨⟨_, rfl⟩, .inr ⟨[0], ⟨1, Nat.le_refl _, rfl⟩, hJx3⟩⟩
    · gi_wp2
      go_end0
      exact ⟨⟨_, rfl⟩, .inl ⟨_, rfl, hJ⟩⟩
attribute [local irreducible] wpQuiet
set_option maxRecDepth 100000 in
set_option maxHeartbeats 4000000 in
theorem chunk1_in (n l B1 B2 lo hi b off m c : Nat) (hm : 0 < m) (hm2 : m ≤ 1048576) (hmc : m ≤ c) (h1 : lo ≤ B1) (h2 : B1 < hi) (h3 : lo ≤ B2) (h4 : B2 < hi) (J Jx : List Nat → World → Prop) (W : World)
    (hJd : ∀ pre A, J pre A → J pre A.drew)
    (hY : ∀ pre (x : Nat) W, J pre W → pre.length < needN m → YieldAt Fence.wide (n - 1) Try.prog l #[partV (some ⟨b, off, none⟩) m x] W fun e W' =>
      (e = .returned (.bool true) ∧ J (pre ++ [x]) W' ∧ KpR lo hi W W') ∨ (e = .returned (.bool false) ∧ Jx (pre ++ [x]) W'))
    (hc1 : W.cell? ⟨B1, 0, none⟩ = some (.slice (some ⟨b, off, none⟩) m c)) (hc2 : W.cell? ⟨B2, 0, none⟩ = some (.int .i64 49)) (h0 : J [] W) :
    CallsIn Fence.wide n Try.prog 96 #[.func (.yield l) #[] #[], .pointer (some ⟨B1, 0, none⟩), .pointer (some ⟨B2, 0, none⟩)] W fun e W' => (∃ v, e = .returned v) ∧
      ((∃ ys, ys = List.range (needN m) ∧ J ys W') ∨ (∃ pre : List Nat, (∃ k, k ≤ needN m ∧ pre = List.range k) ∧ Jx pre W')) := by
  have HN := hid (show needN m = (m + 48) / 49 from by unfold needN; omega)
  refine callsIn_of_wp Try.func96 rfl trivial ?_ rfl
  simp only [Try.ntmps96, List.size_toArray, List.length_cons, List.length_nil, Nat.reduceAdd, Nat.reduceSub, Array.replicate_succ, Array.replicate_zero, List.push_toArray, List.append_toArray, List.nil_append, List.cons_append]
  gi_wp2
  gi_loopw [4] (fun i wr => ∃ k : Nat, k ≤ needN m ∧ i = .int .i64 ((k * 49 : Nat) : Int) ∧ Hid (J (List.range k) wr) ∧ Hid (KpR lo hi W wr)) (fun i _ => 1048676 - (intOf i).toNat)
  case atStart => exact ⟨0, Nat.zero_le _, rfl, hid h0, hid (KpR.refl _ _ _)⟩
  case round =>
    obtain ⟨k, hk, rfl, HJ, HK⟩ := hrel
    have d1 := (HK.out.cell h1 h2 0).trans hc1
    have d2 := (HK.out.cell h3 h4 0).trans hc2
    have hc1' := hid hc1; have hc2' := hid hc2
    clear hc1 hc2
    by_cases hlt : k * 49 < m
    · have hlt' : ((k * 49 : Nat) : Int) < (m : Int) := by omega
      have hkN : k < needN m := by rw [HN.out]; omega
      obtain ⟨fn, tmps, assign, body, hy, hR⟩ := hY _ k wr.drew (hJd _ _ HJ.out) (by rw [List.length_range]; exact hkN)
      obtain ⟨j, hj⟩ : ∃ j, k * 49 = j := ⟨_, rfl⟩
      by_cases hq : 49 ≤ m - j
      · have hq' : (49 : Int) ≤ ((m - j : Nat) : Int) := by omega
        have hsum2 : IntKind.i64.wrap ((j : Int) + 49) = ((j + 49 : Nat) : Int) := by rw [IntWalk.i64_in _ (by omega)]; omega
        have hle2 : j + 49 ≤ c := by omega
        have hle3 : (j : Int) + 49 ≤ (c : Int) := by omega
        have e49 : ((j : Int) + 49).toNat = j + 49 := by omega
        have hy2 : (Instr.yield l #[.slice (some ⟨b, off + j, none⟩) (49) (49)]).run Try.prog wr.drew = .ok (.round l fn tmps assign body) wr.drew := by
          have e : partV (some ⟨b, off, none⟩) m k = .slice (some ⟨b, off + j, none⟩) (49) (49) := by
            unfold partV
            rw [if_neg (by omega), hj, show min 49 (m - j) = 49 by omega]
            simp [Addr.add_lit]
          rw [e] at hy
          exact hy
        have hcj : ¬ c = j := by omega
        have hjm : j ≤ m := by omega
        have hle1 : j + 49 ≤ m ∨ True := .inr trivial
        have hmcj : m ≤ c := hmc
        rw [hj] at hlt hlt' ⊢
        have Hj := hid hj
        clear hj hy hle1
        gi_wp2
        refine wpIn_wide.2 ?_
        refine wp_region_class (fun w' => w' = wr.drew) (by kernel_rfl) (by kernel_rfl) rfl ?_
        intro S _ at_ hS hin
        have HhS := hid hS; have Hin := hid hin
        have e1 : ∀ x, (at_ x).cell? ⟨B1, 0, none⟩ = some (.slice (some ⟨b, off, none⟩) m c) := fun x => by rw [HhS.out x]; exact d1
        have e2 : ∀ x, (at_ x).cell? ⟨B2, 0, none⟩ = some (.int .i64 49) := fun x => by rw [HhS.out x]; exact d2
        clear hS hin
        (refine wpQuiet_step (fun K hK => ?_); go_simp; refine hK _ ?_; clear hK K)
        (refine wpQuiet_step (fun K hK => ?_); go_simp; refine hK _ ?_; clear hK K)
        (refine wpQuiet_step (fun K hK => ?_); go_simp; refine hK _ ?_; clear hK K)
        (refine wpQuiet_step (fun K hK => ?_); go_simp; refine hK _ ?_; clear hK K)
        (refine wpQuiet_step (fun K hK => ?_); go_simp; refine hK _ ?_; clear hK K)
        (refine wpQuiet_step (fun K hK => ?_); go_simp; refine hK _ ?_; clear hK K)
        (refine wpQuiet_step (fun K hK => ?_); go_simp; refine hK _ ?_; clear hK K)
        refine wpQuiet_nil ?_
        rintro _ rfl
        have d1' : wr.drew.cell? ⟨B1, 0, none⟩ = some (.slice (some ⟨b, off, none⟩) m c) := d1
        have d2' : wr.drew.cell? ⟨B2, 0, none⟩ = some (.int .i64 49) := d2
        clear e1 e2 HhS Hin
        gi_wp2
        refine ⟨wide_room, hR.mono ?_⟩
        rintro e W3 (⟨rfl, hJ3, hk3⟩ | ⟨rfl, hJx3⟩)
        · have HK3 := hid (HK.out.drew.trans hk3)
          have f1 := (HK3.out.cell h1 h2 0).trans hc1'.out
          have f2 := (HK3.out.cell h3 h4 0).trans hc2'.out
          clear d1 d2 d1' d2' hk3 HK
          gi_wp2
          go_roundw
          case rel => exact ⟨k + 1, hkN, by rw [← Hj.out]; go_num, by rw [List.range_succ]; exact hid hJ3, HK3⟩
          case measure => simp [intOf]; omega
        · gi_wp2
          refine bodyPost_ret (results_none rfl _ _ _) rfl ?_
          exact ⟨⟨_, rfl⟩, .inr ⟨_, ⟨k + 1, hkN, List.range_succ.symm⟩, hJx3⟩⟩
      · have hq' : ((m - j : Nat) : Int) ≤ 49 := by omega
        have hsum2 : IntKind.i64.wrap ((j : Int) + 49) = ((j + 49 : Nat) : Int) := by rw [IntWalk.i64_in _ (by omega)]; omega
        have hsum : IntKind.i64.wrap ((j : Int) + ((m - j : Nat) : Int)) = (m : Int) := by rw [IntWalk.i64_in _ (by omega)]; omega
        have hy2 : (Instr.yield l #[.slice (some ⟨b, off + j, none⟩) (m - j) (m - j)]).run Try.prog wr.drew = .ok (.round l fn tmps assign body) wr.drew := by
          have e : partV (some ⟨b, off, none⟩) m k = .slice (some ⟨b, off + j, none⟩) (m - j) (m - j) := by
            unfold partV
            rw [if_neg (by omega), hj, show min 49 (m - j) = m - j by omega]
            simp [Addr.add_lit]
          rw [e] at hy
          exact hy
        have hcj : ¬ c = j := by omega
        have hjm : j ≤ m := by omega
        have hle1 : j + 49 ≤ m ∨ True := .inr trivial
        have hmcj : m ≤ c := hmc
        rw [hj] at hlt hlt' ⊢
        have Hj := hid hj
        clear hj hy hle1
        gi_wp2
        refine wpIn_wide.2 ?_
        refine wp_region_class (fun w' => w' = wr.drew) (by kernel_rfl) (by kernel_rfl) rfl ?_
        intro S _ at_ hS hin
        have HhS := hid hS; have Hin := hid hin
        have e1 : ∀ x, (at_ x).cell? ⟨B1, 0, none⟩ = some (.slice (some ⟨b, off, none⟩) m c) := fun x => by rw [HhS.out x]; exact d1
        have e2 : ∀ x, (at_ x).cell? ⟨B2, 0, none⟩ = some (.int .i64 49) := fun x => by rw [HhS.out x]; exact d2
        clear hS hin
        (refine wpQuiet_step (fun K hK => ?_); go_simp; refine hK _ ?_; clear hK K)
        (refine wpQuiet_step (fun K hK => ?_); go_simp; refine hK _ ?_; clear hK K)
        (refine wpQuiet_step (fun K hK => ?_); go_simp; refine hK _ ?_; clear hK K)
        (refine wpQuiet_step (fun K hK => ?_); go_simp; refine hK _ ?_; clear hK K)
        (refine wpQuiet_step (fun K hK => ?_); go_simp; refine hK _ ?_; clear hK K)
        (refine wpQuiet_step (fun K hK => ?_); go_simp; refine hK _ ?_; clear hK K)
        (refine wpQuiet_step (fun K hK => ?_); go_simp; refine hK _ ?_; clear hK K)
        refine wpQuiet_nil ?_
        rintro _ rfl
        have d1' : wr.drew.cell? ⟨B1, 0, none⟩ = some (.slice (some ⟨b, off, none⟩) m c) := d1
        have d2' : wr.drew.cell? ⟨B2, 0, none⟩ = some (.int .i64 49) := d2
        clear e1 e2 HhS Hin
        gi_wp2
        refine ⟨wide_room, hR.mono ?_⟩
        rintro e W3 (⟨rfl, hJ3, hk3⟩ | ⟨rfl, hJx3⟩)
        · have HK3 := hid (HK.out.drew.trans hk3)
          have f1 := (HK3.out.cell h1 h2 0).trans hc1'.out
          have f2 := (HK3.out.cell h3 h4 0).trans hc2'.out
          clear d1 d2 d1' d2' hk3 HK
          gi_wp2
          go_roundw
          case rel => exact ⟨k + 1, hkN, by rw [← Hj.out]; go_num, by rw [List.range_succ]; exact hid hJ3, HK3⟩
          case measure => simp [intOf]; omega
        · gi_wp2
          refine bodyPost_ret (results_none rfl _ _ _) rfl ?_
          exact ⟨⟨_, rfl⟩, .inr ⟨_, ⟨k + 1, hkN, List.range_succ.symm⟩, hJx3⟩⟩
    · have hkN : k = needN m := by have := HN.out; omega
      have hlt' : ¬ ((k * 49 : Nat) : Int) < (m : Int) := by omega
      have HY := hid (show (∃ ys, ys = List.range (needN m) ∧ J ys wr) from ⟨_, rfl, by rw [← hkN]; exact HJ.out⟩)
      clear hkN HJ
      gi_wp2
      go_end0
      exact ⟨⟨_, rfl⟩, .inl (by simpa using HY.out)⟩
end Go.Proofs.Ytgldhmmfofnmiaa
