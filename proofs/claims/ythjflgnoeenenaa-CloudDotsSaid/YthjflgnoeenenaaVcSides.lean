/- Contract: the iterator over the numbers of two vectors, side by side. -/
import Derived.RangeFuncBox
import Derived.RangeFuncCalls
import Derived.Shelf.Abstract
import Derived.WalkKit
import Derived.OwnWalkIn
import Derived.TacticsInMore
import Derived.LoopNIn
import Derived.LoopIn
import Derived.Test.YthjflgnoeenenaaVcAt
namespace Go.Proofs.Ythjflgnoeenenaa
open Go Go.RowKit Go.Shelf
attribute [local go_sem] Oper.semAt_some

/-- what a round keeps: the blocks of G -/
def VkG (G : Nat → Prop) (W W' : World) : Prop := W.heap.size ≤ W'.heap.size ∧ ∀ b, G b → W'.heap[b]? = W.heap[b]?
theorem VkG.refl (G : Nat → Prop) (W : World) : VkG G W W := ⟨Nat.le_refl _, fun _ _ => rfl⟩
theorem VkG.trans {G : Nat → Prop} {A B C : World} (h : VkG G A B) (k : VkG G B C) : VkG G A C := ⟨Nat.le_trans h.1 k.1, fun b h1 => (k.2 b h1).trans (h.2 b h1)⟩
theorem VkG.cell {G : Nat → Prop} {A B : World} (h : VkG G A B) {b : Nat} (h1 : G b) (j : Nat) : B.cell? ⟨b, j, none⟩ = A.cell? ⟨b, j, none⟩ := World.cell?_of_block (a := ⟨b, j, none⟩) (h.2 b h1)
theorem VkG.put {G : Nat → Prop} {w : World} (hG : ∀ b, G b → b < w.heap.size) (W : World) (l : Nat) (o o' : Obj) (hl : w.heap.size ≤ l) (_ : W.heap[l]? = some o) (_ : o.isCells = false) (_ : o.isWalk = false) : VkG G W (W.putObj l o') :=
  ⟨by simp, fun b h => World.putObj_heap_other (by have := hG b h; omega)⟩
theorem VkG.ni {G : Nat → Prop} {A B : World} (h : VkG G A B) {Ad : Option Addr} {n : Nat} {zs : List Int} (hn : NI A Ad n zs) (hG : ∀ b off, Ad = some ⟨b, off, none⟩ → 0 < n → G b) : NI B Ad n zs := hn.block (fun b off e h0 => h.2 b (hG b off e h0))
theorem vc_wide {n : Nat} : Fence.wide.depth.isSome = true → 1 ≤ n := fun h => (by simp [Fence.wide] at h)
theorem un_ne {f : Nat → Bool} {i j : Nat} (h : j ≠ i) : upd f i j = f j := by unfold upd; simp [h]
theorem un_eq {f : Nat → Bool} {i : Nat} : upd f i i = true := by unfold upd; simp
theorem unN_ne {G : Type} {gh : Nat → G} {i j : Nat} {k : G} (h : j ≠ i) : updN gh i k j = gh j := by unfold updN; simp [h]
theorem unN_eq {G : Type} {gh : Nat → G} {i : Nat} {k : G} : updN gh i k i = k := by unfold updN; simp
/-- one operation of a drawn region changes the world and leaves a value; all others only read -/
structure OneS (w0 : World) (T : Value → World → Prop) (ic : Nat) (f : Nat → Bool) (gh : Nat → Value) (W : World) : Prop where
  pre : f ic = false → W = w0
  post : f ic = true → T (gh ic) W
section
variable {w0 W W' : World} {T : Value → World → Prop} {ic : Nat} {f : Nat → Bool} {gh : Nat → Value}
theorem OneS.start {m : Nat} (h : ic < m) (gh : Nat → Value) : OneS w0 T ic (fun j => decide (m ≤ j)) gh w0 := ⟨fun _ => rfl, fun e => by have := of_decide_eq_true e; omega⟩
theorem OneS.step (h : OneS w0 T ic f gh W) (i : Nat) (v : Value) (hne : ic ≠ i) : OneS w0 T ic (upd f i) (updN gh i v) W := ⟨fun e => h.pre (by rwa [un_ne hne] at e), fun e => by rw [un_ne hne] at e; rw [unN_ne hne]; exact h.post e⟩
theorem OneS.call (v : Value) (hT : T v W') : OneS w0 T ic (upd f ic) (updN gh ic v) W' := ⟨fun e => by (rw [un_eq] at e; cases e), fun _ => by (rw [unN_eq]; exact hT)⟩
end
def sdVal (l : Nat) (A1 A2 : Option Addr) (n1 c1 n2 c2 k : Nat) (x y : Int) : Nat → Value → Value
  | 0, _ => .func (.yield l) #[] #[]
  | 1, _ => .slice A1 n1 c1
  | 2, _ => .int .i64 (k : Int)
  | 3, _ => .int .i64 ((k : Int) + 1)
  | 4, _ => .int .i64 x
  | 5, _ => .slice A2 n2 c2
  | 6, _ => .int .i64 (k : Int)
  | 7, _ => .int .i64 ((k : Int) + 1)
  | 8, _ => .int .i64 y
  | 9, g => g
  | 10, g => g
  | _, _ => undef
def notV : Value → Value
  | .bool b => .bool (!b)
  | v => v
set_option maxRecDepth 100000 in
set_option maxHeartbeats 4000000 in
theorem vSides1 (n B1 B2 n1 c1 n2 c2 : Nat) (A1 A2 : Option Addr) (v1 v2 : List Int) (G : Nat → Prop) (w0 : World) (hB1 : w0.cell? ⟨B1, 0, none⟩ = some (.slice A1 n1 c1)) (hB2 : w0.cell? ⟨B2, 0, none⟩ = some (.slice A2 n2 c2))
    (h1 : NI w0 A1 n1 v1) (h2 : NI w0 A2 n2 v2) (hG1 : G B1) (hG2 : G B2) (hGA : ∀ b off, A1 = some ⟨b, off, none⟩ → 0 < n1 → G b) (hGB : ∀ b off, A2 = some ⟨b, off, none⟩ → 0 < n2 → G b) (hn1 : n1 ≤ 1000000) (hn2 : n2 ≤ 1000000) (N : Nat) (hN : N = max n1 n2) :
    SeqStopsK Fence.wide n Try.prog 92 #[.pointer (some ⟨B1, 0, none⟩), .pointer (some ⟨B2, 0, none⟩)] (fun i : Nat => #[iv (nth v1 i), iv (nth v2 i)]) (VkG G) (fun xs => xs = List.range N) (fun pre => ∃ k, k ≤ N ∧ pre = List.range k) N w0 := by
  intro l J Jx W hW hJ hJx hY h0
  have hb1 : W.cell? ⟨B1, 0, none⟩ = some (.slice A1 n1 c1) := (hW.cell (p := ⟨B1, 0, none⟩) (lt_of_cell hB1)).trans hB1
  have hb2 : W.cell? ⟨B2, 0, none⟩ = some (.slice A2 n2 c2) := (hW.cell (p := ⟨B2, 0, none⟩) (lt_of_cell hB2)).trans hB2
  have k1 := h1.keep hW; have k2 := h2.keep hW
  have HY := hid hY; have HK1 := hid k1; have HK2 := hid k2; have HGA := hid hGA; have HGB := hid hGB
  have hNN : (N : Int) = max (n1 : Int) (n2 : Int) := by omega
  have hNb : N ≤ 1000000 := by omega
  have HB1 := hid hb1; have HB2 := hid hb2
  have hmx : (n1 < n2 ∧ n2 = N) ∨ (¬ n1 < n2 ∧ n1 = N) := by omega
  clear hY k1 k2 hJx hGA hGB hB1 hB2 h1 h2 hN hW hNN
  refine callsIn_of_wp Try.func92 rfl trivial ?_ rfl
  simp only [Try.ntmps92, List.size_toArray, List.length_cons, List.length_nil, Nat.reduceAdd, Nat.reduceSub, Array.replicate_succ, Array.replicate_zero, List.push_toArray, List.append_toArray, List.nil_append, List.cons_append]
  have hJd : ∀ pre A, J pre A → J pre A.drew := fun pre A h => hJ pre A A.drew none h ⟨rfl, rfl, rfl, Nat.le_refl _, fun _ _ _ => rfl⟩ (fun r e => by cases e)
  clear hJ
  rcases hmx with ⟨hlt1, rfl⟩ | ⟨hlt1, rfl⟩
  · have hlt2 := hlt1
    gi_wp2_with fail
    gi_loopw [10] (fun i wr => ∃ k : Nat, k ≤ n2 ∧ i = .int .i64 (k : Int) ∧ Hid (J (List.range k) wr) ∧ Hid (VkG G W wr)) (fun i _ => n2 - (intOf i).toNat)
    case atStart => exact ⟨0, Nat.zero_le _, rfl, hid h0, hid (VkG.refl _ _)⟩
    case round =>
      obtain ⟨k, hk, rfl, HJk, HK⟩ := hrel
      have d1 := (HK.out.cell hG1 0).trans HB1.out
      have d2 := (HK.out.cell hG2 0).trans HB2.out
      have HI1 := hid (HK.out.ni HK1.out HGA.out); have HI2 := hid (HK.out.ni HK2.out HGB.out)
      clear hb1 hb2
      by_cases hlt : k < n2
      · have hlt' : (k : Int) < (n2 : Int) := by omega
        have hwr : IntKind.i64.wrap ((k : Int) + 1) = (k : Int) + 1 := IntWalk.i64_in _ (by omega)
        obtain ⟨x, hx⟩ : ∃ x, nth v1 k = x := ⟨_, rfl⟩
        obtain ⟨y, hy⟩ : ∃ y, nth v2 k = y := ⟨_, rfl⟩
        have HC1 := hid (show Calls Try.prog 72 #[.slice A1 n1 c1, .int .i64 ((k : Int) + 1)] wr.drew (fun e w' => e = .returned (.int .i64 x) ∧ wr.drew = w') from by
          have := vAt_calls n1 c1 A1 v1 ((k : Int) + 1) wr.drew (HI1.out) (by omega)
          rwa [atV_nat, hx] at this)
        have HC2 := hid (show Calls Try.prog 72 #[.slice A2 n2 c2, .int .i64 ((k : Int) + 1)] wr.drew (fun e w' => e = .returned (.int .i64 y) ∧ wr.drew = w') from by
          have := vAt_calls n2 c2 A2 v2 ((k : Int) + 1) wr.drew (HI2.out) (by omega)
          rwa [atV_nat, hy] at this)
        obtain ⟨fn, tmps, assign, body, hyl, hR⟩ := HY.out (List.range k) k wr.drew (hJd _ _ HJk.out) (by rw [List.length_range]; exact hlt)
        rw [hx, hy] at hyl
        have HYL := hid (show (Instr.yield l #[.int .i64 x, .int .i64 y]).run Try.prog wr.drew = .ok (.round l fn tmps assign body) wr.drew from hyl)
        have HR := hid hR
        have HD1 := hid (show wr.drew.cell? ⟨B1, 0, none⟩ = some (.slice A1 n1 c1) from d1)
        have HD2 := hid (show wr.drew.cell? ⟨B2, 0, none⟩ = some (.slice A2 n2 c2) from d2)
        clear hx hy hyl hR d1 d2
        gi_wp2_with fail
        refine wpIn_region_invG 25 (Value.bool false) (sdVal l A1 A2 n1 c1 n2 c2 k x y) (fun f gh W' => OneS wr.drew (fun v W3 => (v = .bool true ∧ J (List.range k ++ [k]) W3 ∧ VkG G wr.drew W3) ∨ (v = .bool false ∧ Jx (List.range k ++ [k]) W3)) 9 f gh W' ∧ (f 10 = true → f 9 = true ∧ gh 10 = notV (gh 9))) (by kernel_rfl) (by kernel_rfl) (by exact Nat.le_refl 25) ?_ ?_ ?_
        · exact ⟨OneS.start (by decide) _, fun e => absurd e (by decide)⟩
        · intro i o f gh a W' hi hf hdep hsame hcl hval hS
          have hX : ∀ (i : Nat) (v : Value), 9 ≠ i → 10 ≠ i → upd f i 10 = true → upd f i 9 = true ∧ updN gh i v 10 = notV (updN gh i v 9) := fun i v n9 n10 e => by
            rw [un_ne n10] at e
            obtain ⟨h1, h2⟩ := hS.2 e
            exact ⟨by rw [un_ne n9]; exact h1, by rw [unN_ne n10, unN_ne n9]; exact h2⟩
          rcases i with _ | _ | _ | _ | _ | _ | _ | _ | _ | _ | _ | i
          all_goals simp only [List.getElem?_cons_succ, List.getElem?_cons_zero, List.getElem?_nil, Option.some.injEq, reduceCtorEq] at hi
          all_goals subst hi
          · have n9 := not_yet hcl hf 9 (by rfl)
            obtain rfl := hS.1.pre n9
            have E0 : a.tmps[0]? = some (.func (.yield l) #[] #[]) := (same_of hsame 0 (by rfl)).trans rfl
            refine gin_of (l2 := 0) (.inl rfl) rfl (g_plain rfl ?_)
            exact does_value (w' := wr.drew) (v := .func (.yield l) #[] #[]) (by go_simp) ⟨.bool false, .inr rfl, hS.1.step 0 _ (by decide), hX 0 _ (by decide) (by decide)⟩
          · have n4 := not_yet hcl hf 4 (by rfl)
            have n9 := not_yet hcl n4 9 (by rfl)
            obtain rfl := hS.1.pre n9
            have E1 : a.tmps[1]? = some (.pointer (some ⟨B1, 0, none⟩)) := (same_of hsame 1 (by rfl)).trans rfl
            have hd := HD1.out
            refine gin_of (l2 := 0) (.inl rfl) rfl (g_plain rfl ?_)
            exact does_value (w' := wr.drew) (v := .slice A1 n1 c1) (by go_simp) ⟨.bool false, .inr rfl, hS.1.step 1 _ (by decide), hX 1 _ (by decide) (by decide)⟩
          · have n3 := not_yet hcl hf 3 (by rfl)
            have n4 := not_yet hcl n3 4 (by rfl)
            have n9 := not_yet hcl n4 9 (by rfl)
            obtain rfl := hS.1.pre n9
            have E4 : a.tmps[4]? = some (.int .i64 (k : Int)) := (same_of hsame 4 (by rfl)).trans rfl
            refine gin_of (l2 := 0) (.inl rfl) rfl (g_plain rfl ?_)
            exact does_value (w' := wr.drew) (v := .int .i64 (k : Int)) (by go_simp) ⟨.bool false, .inr rfl, hS.1.step 2 _ (by decide), hX 2 _ (by decide) (by decide)⟩
          · have n4 := not_yet hcl hf 4 (by rfl)
            have n9 := not_yet hcl n4 9 (by rfl)
            obtain rfl := hS.1.pre n9
            have E15 := hval 2 _ 15 rfl rfl (dep_of hdep 2 (by rfl))
            unfold sdVal at E15
            refine gin_of (l2 := 0) (.inl rfl) rfl (g_plain rfl ?_)
            exact does_value (w' := wr.drew) (v := .int .i64 ((k : Int) + 1)) (by go_simp) ⟨.bool false, .inr rfl, hS.1.step 3 _ (by decide), hX 3 _ (by decide) (by decide)⟩
          · have n9 := not_yet hcl hf 9 (by rfl)
            obtain rfl := hS.1.pre n9
            have E14 := hval 1 _ 14 rfl rfl (dep_of hdep 1 (by rfl))
            unfold sdVal at E14
            have E16 := hval 3 _ 16 rfl rfl (dep_of hdep 3 (by rfl))
            unfold sdVal at E16
            refine gin_of (l2 := 0) (.inl rfl) rfl (g_plain rfl ?_)
            exact does_call 72 #[.slice A1 n1 c1, .int .i64 ((k : Int) + 1)] (by go_simp) (HC1.out.mono (by rintro e w' ⟨rfl, rfl⟩; exact ⟨_, rfl, .bool false, .inr rfl, hS.1.step 4 _ (by decide), hX 4 _ (by decide) (by decide)⟩))
          · have n8 := not_yet hcl hf 8 (by rfl)
            have n9 := not_yet hcl n8 9 (by rfl)
            obtain rfl := hS.1.pre n9
            have E2 : a.tmps[2]? = some (.pointer (some ⟨B2, 0, none⟩)) := (same_of hsame 2 (by rfl)).trans rfl
            have hd := HD2.out
            refine gin_of (l2 := 0) (.inl rfl) rfl (g_plain rfl ?_)
            exact does_value (w' := wr.drew) (v := .slice A2 n2 c2) (by go_simp) ⟨.bool false, .inr rfl, hS.1.step 5 _ (by decide), hX 5 _ (by decide) (by decide)⟩
          · have n7 := not_yet hcl hf 7 (by rfl)
            have n8 := not_yet hcl n7 8 (by rfl)
            have n9 := not_yet hcl n8 9 (by rfl)
            obtain rfl := hS.1.pre n9
            have E4 : a.tmps[4]? = some (.int .i64 (k : Int)) := (same_of hsame 4 (by rfl)).trans rfl
            refine gin_of (l2 := 0) (.inl rfl) rfl (g_plain rfl ?_)
            exact does_value (w' := wr.drew) (v := .int .i64 (k : Int)) (by go_simp) ⟨.bool false, .inr rfl, hS.1.step 6 _ (by decide), hX 6 _ (by decide) (by decide)⟩
          · have n8 := not_yet hcl hf 8 (by rfl)
            have n9 := not_yet hcl n8 9 (by rfl)
            obtain rfl := hS.1.pre n9
            have E19 := hval 6 _ 19 rfl rfl (dep_of hdep 6 (by rfl))
            unfold sdVal at E19
            refine gin_of (l2 := 0) (.inl rfl) rfl (g_plain rfl ?_)
            exact does_value (w' := wr.drew) (v := .int .i64 ((k : Int) + 1)) (by go_simp) ⟨.bool false, .inr rfl, hS.1.step 7 _ (by decide), hX 7 _ (by decide) (by decide)⟩
          · have n9 := not_yet hcl hf 9 (by rfl)
            obtain rfl := hS.1.pre n9
            have E18 := hval 5 _ 18 rfl rfl (dep_of hdep 5 (by rfl))
            unfold sdVal at E18
            have E20 := hval 7 _ 20 rfl rfl (dep_of hdep 7 (by rfl))
            unfold sdVal at E20
            refine gin_of (l2 := 0) (.inl rfl) rfl (g_plain rfl ?_)
            exact does_call 72 #[.slice A2 n2 c2, .int .i64 ((k : Int) + 1)] (by go_simp) (HC2.out.mono (by rintro e w' ⟨rfl, rfl⟩; exact ⟨_, rfl, .bool false, .inr rfl, hS.1.step 8 _ (by decide), hX 8 _ (by decide) (by decide)⟩))
          · obtain rfl := hS.1.pre hf
            have E13 := hval 0 _ 13 rfl rfl (dep_of hdep 0 (by rfl))
            unfold sdVal at E13
            have E17 := hval 4 _ 17 rfl rfl (dep_of hdep 4 (by rfl))
            unfold sdVal at E17
            have E21 := hval 8 _ 21 rfl rfl (dep_of hdep 8 (by rfl))
            unfold sdVal at E21
            have hyl := HYL.out
            have n10 := not_yet hcl hf 10 (by rfl)
            refine gin_yield rfl rfl fn tmps assign body (by go_simp) (HR.out.mono ?_)
            intro e w' he
            refine ⟨match e with | .returned v => v | _ => undef, ?_, match e with | .returned v => v | _ => undef, .inr rfl, OneS.call _ ?_, fun e => ?_⟩
            · rcases he with ⟨rfl, _⟩ | ⟨rfl, _⟩ <;> rfl
            · rcases he with ⟨rfl, h3⟩ | ⟨rfl, h3⟩
              · exact .inl ⟨rfl, h3⟩
              · exact .inr ⟨rfl, h3⟩
            · rw [un_ne (by decide), n10] at e; cases e
          · have f9 := dep_of hdep 9 (by rfl)
            have E22 := hval 9 _ 22 rfl rfl (dep_of hdep 9 (by rfl))
            unfold sdVal at E22
            obtain ⟨b, hb⟩ : ∃ b, gh 9 = .bool b := by rcases hS.1.post f9 with ⟨h, _⟩ | ⟨h, _⟩ <;> exact ⟨_, h⟩
            have HSO := hid hS.1
            clear hS hX
            rw [hb] at E22
            refine gin_of (l2 := 0) (.inl rfl) rfl (g_plain rfl ?_)
            exact does_value (w' := W') (v := .bool (!b)) (by go_simp) ⟨.bool (!b), .inr rfl, HSO.out.step 10 _ (by decide), fun _ => ⟨by rw [un_ne (by decide)]; exact f9, by rw [unN_eq, unN_ne (by decide), hb]; rfl⟩⟩
        · intro gh W3 hS
          obtain ⟨f9, hnv⟩ := hS.2 rfl
          have hp := hS.1.post rfl
          simp only [putAll, sdVal, Nat.reduceAdd, Nat.zero_add, Act.put, List.setIfInBounds_toArray, List.set_cons_zero, List.set_cons_succ]
          generalize gh 9 = g9 at hp hnv ⊢
          generalize gh 10 = g10 at hnv ⊢
          subst hnv
          rcases hp with ⟨rfl, hJ3, hk3⟩ | ⟨rfl, hJ3⟩
          · have HJ3 := hid hJ3; have HK3 := hid (HK.out.trans hk3)
            clear hJ3 hk3 hS HK HJk HR HYL HC1 HC2 HD1 HD2 HI1 HI2
            have hnot : notV (.bool true) = .bool false := rfl
            rw [hnot]
            gi_wp2_with fail
            go_roundw
            case rel => exact ⟨k + 1, hlt, by go_num, by rw [List.range_succ]; exact HJ3, HK3⟩
            case measure => simp [intOf]; omega
          · have HJ3 := hid hJ3
            clear hJ3 hS HK HJk HR HYL HC1 HC2 HD1 HD2 HI1 HI2
            have hnot : notV (.bool false) = .bool true := rfl
            rw [hnot]
            gi_wp2_with fail
            refine bodyPost_ret (results_none rfl _ _ _) rfl ?_
            exact ⟨⟨_, rfl⟩, .inr ⟨_, ⟨k + 1, hlt, List.range_succ.symm⟩, HJ3.out⟩⟩
      · obtain rfl : k = n2 := by omega
        gi_wp2
        go_end0
        exact ⟨⟨_, rfl⟩, .inl ⟨_, rfl, HJk.out⟩⟩
  · have hlt2 := hlt1
    gi_wp2_with fail
    gi_loopw [10] (fun i wr => ∃ k : Nat, k ≤ n1 ∧ i = .int .i64 (k : Int) ∧ Hid (J (List.range k) wr) ∧ Hid (VkG G W wr)) (fun i _ => n1 - (intOf i).toNat)
    case atStart => exact ⟨0, Nat.zero_le _, rfl, hid h0, hid (VkG.refl _ _)⟩
    case round =>
      obtain ⟨k, hk, rfl, HJk, HK⟩ := hrel
      have d1 := (HK.out.cell hG1 0).trans HB1.out
      have d2 := (HK.out.cell hG2 0).trans HB2.out
      have HI1 := hid (HK.out.ni HK1.out HGA.out); have HI2 := hid (HK.out.ni HK2.out HGB.out)
      clear hb1 hb2
      by_cases hlt : k < n1
      · have hlt' : (k : Int) < (n1 : Int) := by omega
        have hwr : IntKind.i64.wrap ((k : Int) + 1) = (k : Int) + 1 := IntWalk.i64_in _ (by omega)
        obtain ⟨x, hx⟩ : ∃ x, nth v1 k = x := ⟨_, rfl⟩
        obtain ⟨y, hy⟩ : ∃ y, nth v2 k = y := ⟨_, rfl⟩
        have HC1 := hid (show Calls Try.prog 72 #[.slice A1 n1 c1, .int .i64 ((k : Int) + 1)] wr.drew (fun e w' => e = .returned (.int .i64 x) ∧ wr.drew = w') from by
          have := vAt_calls n1 c1 A1 v1 ((k : Int) + 1) wr.drew (HI1.out) (by omega)
          rwa [atV_nat, hx] at this)
        have HC2 := hid (show Calls Try.prog 72 #[.slice A2 n2 c2, .int .i64 ((k : Int) + 1)] wr.drew (fun e w' => e = .returned (.int .i64 y) ∧ wr.drew = w') from by
          have := vAt_calls n2 c2 A2 v2 ((k : Int) + 1) wr.drew (HI2.out) (by omega)
          rwa [atV_nat, hy] at this)
        obtain ⟨fn, tmps, assign, body, hyl, hR⟩ := HY.out (List.range k) k wr.drew (hJd _ _ HJk.out) (by rw [List.length_range]; exact hlt)
        rw [hx, hy] at hyl
        have HYL := hid (show (Instr.yield l #[.int .i64 x, .int .i64 y]).run Try.prog wr.drew = .ok (.round l fn tmps assign body) wr.drew from hyl)
        have HR := hid hR
        have HD1 := hid (show wr.drew.cell? ⟨B1, 0, none⟩ = some (.slice A1 n1 c1) from d1)
        have HD2 := hid (show wr.drew.cell? ⟨B2, 0, none⟩ = some (.slice A2 n2 c2) from d2)
        clear hx hy hyl hR d1 d2
        gi_wp2_with fail
        refine wpIn_region_invG 25 (Value.bool false) (sdVal l A1 A2 n1 c1 n2 c2 k x y) (fun f gh W' => OneS wr.drew (fun v W3 => (v = .bool true ∧ J (List.range k ++ [k]) W3 ∧ VkG G wr.drew W3) ∨ (v = .bool false ∧ Jx (List.range k ++ [k]) W3)) 9 f gh W' ∧ (f 10 = true → f 9 = true ∧ gh 10 = notV (gh 9))) (by kernel_rfl) (by kernel_rfl) (by exact Nat.le_refl 25) ?_ ?_ ?_
        · exact ⟨OneS.start (by decide) _, fun e => absurd e (by decide)⟩
        · intro i o f gh a W' hi hf hdep hsame hcl hval hS
          have hX : ∀ (i : Nat) (v : Value), 9 ≠ i → 10 ≠ i → upd f i 10 = true → upd f i 9 = true ∧ updN gh i v 10 = notV (updN gh i v 9) := fun i v n9 n10 e => by
            rw [un_ne n10] at e
            obtain ⟨h1, h2⟩ := hS.2 e
            exact ⟨by rw [un_ne n9]; exact h1, by rw [unN_ne n10, unN_ne n9]; exact h2⟩
          rcases i with _ | _ | _ | _ | _ | _ | _ | _ | _ | _ | _ | i
          all_goals simp only [List.getElem?_cons_succ, List.getElem?_cons_zero, List.getElem?_nil, Option.some.injEq, reduceCtorEq] at hi
          all_goals subst hi
          · have n9 := not_yet hcl hf 9 (by rfl)
            obtain rfl := hS.1.pre n9
            have E0 : a.tmps[0]? = some (.func (.yield l) #[] #[]) := (same_of hsame 0 (by rfl)).trans rfl
            refine gin_of (l2 := 0) (.inl rfl) rfl (g_plain rfl ?_)
            exact does_value (w' := wr.drew) (v := .func (.yield l) #[] #[]) (by go_simp) ⟨.bool false, .inr rfl, hS.1.step 0 _ (by decide), hX 0 _ (by decide) (by decide)⟩
          · have n4 := not_yet hcl hf 4 (by rfl)
            have n9 := not_yet hcl n4 9 (by rfl)
            obtain rfl := hS.1.pre n9
            have E1 : a.tmps[1]? = some (.pointer (some ⟨B1, 0, none⟩)) := (same_of hsame 1 (by rfl)).trans rfl
            have hd := HD1.out
            refine gin_of (l2 := 0) (.inl rfl) rfl (g_plain rfl ?_)
            exact does_value (w' := wr.drew) (v := .slice A1 n1 c1) (by go_simp) ⟨.bool false, .inr rfl, hS.1.step 1 _ (by decide), hX 1 _ (by decide) (by decide)⟩
          · have n3 := not_yet hcl hf 3 (by rfl)
            have n4 := not_yet hcl n3 4 (by rfl)
            have n9 := not_yet hcl n4 9 (by rfl)
            obtain rfl := hS.1.pre n9
            have E4 : a.tmps[4]? = some (.int .i64 (k : Int)) := (same_of hsame 4 (by rfl)).trans rfl
            refine gin_of (l2 := 0) (.inl rfl) rfl (g_plain rfl ?_)
            exact does_value (w' := wr.drew) (v := .int .i64 (k : Int)) (by go_simp) ⟨.bool false, .inr rfl, hS.1.step 2 _ (by decide), hX 2 _ (by decide) (by decide)⟩
          · have n4 := not_yet hcl hf 4 (by rfl)
            have n9 := not_yet hcl n4 9 (by rfl)
            obtain rfl := hS.1.pre n9
            have E15 := hval 2 _ 15 rfl rfl (dep_of hdep 2 (by rfl))
            unfold sdVal at E15
            refine gin_of (l2 := 0) (.inl rfl) rfl (g_plain rfl ?_)
            exact does_value (w' := wr.drew) (v := .int .i64 ((k : Int) + 1)) (by go_simp) ⟨.bool false, .inr rfl, hS.1.step 3 _ (by decide), hX 3 _ (by decide) (by decide)⟩
          · have n9 := not_yet hcl hf 9 (by rfl)
            obtain rfl := hS.1.pre n9
            have E14 := hval 1 _ 14 rfl rfl (dep_of hdep 1 (by rfl))
            unfold sdVal at E14
            have E16 := hval 3 _ 16 rfl rfl (dep_of hdep 3 (by rfl))
            unfold sdVal at E16
            refine gin_of (l2 := 0) (.inl rfl) rfl (g_plain rfl ?_)
            exact does_call 72 #[.slice A1 n1 c1, .int .i64 ((k : Int) + 1)] (by go_simp) (HC1.out.mono (by rintro e w' ⟨rfl, rfl⟩; exact ⟨_, rfl, .bool false, .inr rfl, hS.1.step 4 _ (by decide), hX 4 _ (by decide) (by decide)⟩))
          · have n8 := not_yet hcl hf 8 (by rfl)
            have n9 := not_yet hcl n8 9 (by rfl)
            obtain rfl := hS.1.pre n9
            have E2 : a.tmps[2]? = some (.pointer (some ⟨B2, 0, none⟩)) := (same_of hsame 2 (by rfl)).trans rfl
            have hd := HD2.out
            refine gin_of (l2 := 0) (.inl rfl) rfl (g_plain rfl ?_)
            exact does_value (w' := wr.drew) (v := .slice A2 n2 c2) (by go_simp) ⟨.bool false, .inr rfl, hS.1.step 5 _ (by decide), hX 5 _ (by decide) (by decide)⟩
          · have n7 := not_yet hcl hf 7 (by rfl)
            have n8 := not_yet hcl n7 8 (by rfl)
            have n9 := not_yet hcl n8 9 (by rfl)
            obtain rfl := hS.1.pre n9
            have E4 : a.tmps[4]? = some (.int .i64 (k : Int)) := (same_of hsame 4 (by rfl)).trans rfl
            refine gin_of (l2 := 0) (.inl rfl) rfl (g_plain rfl ?_)
            exact does_value (w' := wr.drew) (v := .int .i64 (k : Int)) (by go_simp) ⟨.bool false, .inr rfl, hS.1.step 6 _ (by decide), hX 6 _ (by decide) (by decide)⟩
          · have n8 := not_yet hcl hf 8 (by rfl)
            have n9 := not_yet hcl n8 9 (by rfl)
            obtain rfl := hS.1.pre n9
            have E19 := hval 6 _ 19 rfl rfl (dep_of hdep 6 (by rfl))
            unfold sdVal at E19
            refine gin_of (l2 := 0) (.inl rfl) rfl (g_plain rfl ?_)
            exact does_value (w' := wr.drew) (v := .int .i64 ((k : Int) + 1)) (by go_simp) ⟨.bool false, .inr rfl, hS.1.step 7 _ (by decide), hX 7 _ (by decide) (by decide)⟩
          · have n9 := not_yet hcl hf 9 (by rfl)
            obtain rfl := hS.1.pre n9
            have E18 := hval 5 _ 18 rfl rfl (dep_of hdep 5 (by rfl))
            unfold sdVal at E18
            have E20 := hval 7 _ 20 rfl rfl (dep_of hdep 7 (by rfl))
            unfold sdVal at E20
            refine gin_of (l2 := 0) (.inl rfl) rfl (g_plain rfl ?_)
            exact does_call 72 #[.slice A2 n2 c2, .int .i64 ((k : Int) + 1)] (by go_simp) (HC2.out.mono (by rintro e w' ⟨rfl, rfl⟩; exact ⟨_, rfl, .bool false, .inr rfl, hS.1.step 8 _ (by decide), hX 8 _ (by decide) (by decide)⟩))
          · obtain rfl := hS.1.pre hf
            have E13 := hval 0 _ 13 rfl rfl (dep_of hdep 0 (by rfl))
            unfold sdVal at E13
            have E17 := hval 4 _ 17 rfl rfl (dep_of hdep 4 (by rfl))
            unfold sdVal at E17
            have E21 := hval 8 _ 21 rfl rfl (dep_of hdep 8 (by rfl))
            unfold sdVal at E21
            have hyl := HYL.out
            have n10 := not_yet hcl hf 10 (by rfl)
            refine gin_yield rfl rfl fn tmps assign body (by go_simp) (HR.out.mono ?_)
            intro e w' he
            refine ⟨match e with | .returned v => v | _ => undef, ?_, match e with | .returned v => v | _ => undef, .inr rfl, OneS.call _ ?_, fun e => ?_⟩
            · rcases he with ⟨rfl, _⟩ | ⟨rfl, _⟩ <;> rfl
            · rcases he with ⟨rfl, h3⟩ | ⟨rfl, h3⟩
              · exact .inl ⟨rfl, h3⟩
              · exact .inr ⟨rfl, h3⟩
            · rw [un_ne (by decide), n10] at e; cases e
          · have f9 := dep_of hdep 9 (by rfl)
            have E22 := hval 9 _ 22 rfl rfl (dep_of hdep 9 (by rfl))
            unfold sdVal at E22
            obtain ⟨b, hb⟩ : ∃ b, gh 9 = .bool b := by rcases hS.1.post f9 with ⟨h, _⟩ | ⟨h, _⟩ <;> exact ⟨_, h⟩
            have HSO := hid hS.1
            clear hS hX
            rw [hb] at E22
            refine gin_of (l2 := 0) (.inl rfl) rfl (g_plain rfl ?_)
            exact does_value (w' := W') (v := .bool (!b)) (by go_simp) ⟨.bool (!b), .inr rfl, HSO.out.step 10 _ (by decide), fun _ => ⟨by rw [un_ne (by decide)]; exact f9, by rw [unN_eq, unN_ne (by decide), hb]; rfl⟩⟩
        · intro gh W3 hS
          obtain ⟨f9, hnv⟩ := hS.2 rfl
          have hp := hS.1.post rfl
          simp only [putAll, sdVal, Nat.reduceAdd, Nat.zero_add, Act.put, List.setIfInBounds_toArray, List.set_cons_zero, List.set_cons_succ]
          generalize gh 9 = g9 at hp hnv ⊢
          generalize gh 10 = g10 at hnv ⊢
          subst hnv
          rcases hp with ⟨rfl, hJ3, hk3⟩ | ⟨rfl, hJ3⟩
          · have HJ3 := hid hJ3; have HK3 := hid (HK.out.trans hk3)
            clear hJ3 hk3 hS HK HJk HR HYL HC1 HC2 HD1 HD2 HI1 HI2
            have hnot : notV (.bool true) = .bool false := rfl
            rw [hnot]
            gi_wp2_with fail
            go_roundw
            case rel => exact ⟨k + 1, hlt, by go_num, by rw [List.range_succ]; exact HJ3, HK3⟩
            case measure => simp [intOf]; omega
          · have HJ3 := hid hJ3
            clear hJ3 hS HK HJk HR HYL HC1 HC2 HD1 HD2 HI1 HI2
            have hnot : notV (.bool false) = .bool true := rfl
            rw [hnot]
            gi_wp2_with fail
            refine bodyPost_ret (results_none rfl _ _ _) rfl ?_
            exact ⟨⟨_, rfl⟩, .inr ⟨_, ⟨k + 1, hlt, List.range_succ.symm⟩, HJ3.out⟩⟩
      · obtain rfl : k = n1 := by omega
        gi_wp2
        go_end0
        exact ⟨⟨_, rfl⟩, .inl ⟨_, rfl, HJk.out⟩⟩
end Go.Proofs.Ythjflgnoeenenaa
