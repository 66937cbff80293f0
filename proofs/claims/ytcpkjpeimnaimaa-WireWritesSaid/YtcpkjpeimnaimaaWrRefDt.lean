/- Contract: a writer of the plain reference: Dot. Written by tools/mkww.py out of XWrRefDt.tpl. -/
import Derived.Test.YtcpkjpeimnaimaaWrRefWr
import Derived.Test.YtcpkjpeimnaimaaAppS
namespace Go.Proofs.Ytcpkjpeimnaimaa
open Go.RowKit

theorem does_append_row {w : World} {o : Oper} {a : Act} {T : Value → World → Prop} (s x : Operand) (ho : o.op = .call { callee := .builtin .append, args := #[s, x], argTypes := #[31, 31] }) {base : Nat} (v : Value) (hv : a.eval s = v) {n : Nat} {bs : List UInt8} (hown : Own w base 5 v n bs) {B : Nat} (m c : Nat) (A : Option Addr) (hx : a.eval x = .slice A m c) {cs : List UInt8} (hs : SB w B A m cs) (hlen : n + m ≤ 1099511627776) (hbase : base ≤ w.heap.size)
    (h : ∀ v' w', Own w' base 5 v' (n + m) (bs ++ cs) → w.grownBy w' v.ownBlock → T v' w') : OpDoes Try.prog o a w T := fun K Q hK => by
  obtain ⟨v', w', hr, h2, h3, -⟩ := run_append_bytes (P := Try.prog) w 31 o.type 5 base Try.underlying31 info5' v n bs hown B A m c cs hs hlen hbase
  unfold Oper.wp execOp
  simp only [ho, resolve, invoke, builtin, Sem.run_bind, Sem.run_pure, Result.andThen_ok, List.map_toArray, List.map_cons, List.map_nil, hv, hx, hr]
  exact hK _ _ (h v' w' h2 h3)
/-- the region in which a dot is put -/
structure DtS (w1 : World) (base g : Nat) (r : Option Nat) (lim : Nat) (SN : WS) (X Y : Int) (mx my : Nat) (f : Nat → Bool) (gh : Nat → Value) (W : World) : Prop where
  bel : f 15 = false → Below w1.heap.size w1 W
  fin : f 15 = true → RwPost w1 base g r lim SN (.returned (.int .i64 (SN.e : Int))) W
  o4 : f 4 = true → f 9 = false → Own W w1.heap.size 5 (gh 4) (encSize mx) (enc mx)
  o8 : f 8 = true → f 9 = false → Own W w1.heap.size 5 (gh 8) (encSize my) (enc my)
  ne : f 4 = true → f 8 = true → f 9 = false → ∀ b, (gh 4).ownBlock = some b → (gh 8).ownBlock ≠ some b
  o9 : f 9 = true → f 15 = false → Own W w1.heap.size 5 (gh 9) (encSize mx + encSize my) (enc mx ++ enc my)
  o14 : f 14 = true → f 15 = false → ∃ q, gh 14 = .slice (some ⟨q, 0, none⟩) 2 2 ∧ Blk W q 3 #[.int .i64 X, .int .i64 Y] ∧ (f 4 = true → f 9 = false → ∀ b, (gh 4).ownBlock = some b → b ≠ q)
section
variable {w1 W W' : World} {base g : Nat} {r : Option Nat} {lim : Nat} {SN : WS} {X Y : Int} {mx my : Nat} {f : Nat → Bool} {gh : Nat → Value}
theorem DtS.step (h : DtS w1 base g r lim SN X Y mx my f gh W) (i : Nat) (k : Value) (h4 : 4 ≠ i) (h8 : 8 ≠ i) (h9 : 9 ≠ i) (h14 : 14 ≠ i) (h15 : 15 ≠ i) : DtS w1 base g r lim SN X Y mx my (upd f i) (updN gh i k) W :=
  ⟨by rw [ap_ne h15]; exact h.bel, by rw [ap_ne h15]; exact h.fin, by rw [ap_ne h4, ap_ne h9, apN_ne h4]; exact h.o4, by rw [ap_ne h8, ap_ne h9, apN_ne h8]; exact h.o8, by rw [ap_ne h4, ap_ne h8, ap_ne h9, apN_ne h4, apN_ne h8]; exact h.ne, by rw [ap_ne h9, ap_ne h15, apN_ne h9]; exact h.o9, by rw [ap_ne h14, ap_ne h15, ap_ne h4, ap_ne h9, apN_ne h14, apN_ne h4]; exact h.o14⟩
theorem DtS.s4 {v : Value} (h : DtS w1 base g r lim SN X Y mx my f gh W) (n9 : f 9 = false) (n15 : f 15 = false) (ho : Own W' W.heap.size 5 v (encSize mx) (enc mx)) (hb : Below W.heap.size W W') : DtS w1 base g r lim SN X Y mx my (upd f 4) (updN gh 4 v) W' := by
  have hz := (h.bel n15).size
  refine ⟨fun _ => (h.bel n15).trans (hb.mono hz), fun e => (by rw [ap_ne (by decide), n15] at e; cases e), fun _ _ => (by rw [apN_eq]; exact ho.lower hz), fun e e2 => ?_, fun _ e8 _ b hb4 => ?_, fun e => (by rw [ap_ne (by decide), n9] at e; cases e), fun e e2 => ?_⟩
  · rw [ap_ne (by decide)] at e
    rw [apN_ne (by decide)]
    exact (h.o8 e n9).keep hb
  · rw [apN_eq] at hb4
    rw [ap_ne (by decide)] at e8
    rw [apN_ne (by decide)]
    intro h8
    have h1 := ho.block b hb4
    have h2 := (h.o8 e8 n9).block b h8
    omega
  · rw [ap_ne (by decide)] at e
    obtain ⟨q, e1, hq, -⟩ := h.o14 e n15
    refine ⟨q, by rw [apN_ne (by decide)]; exact e1, hq.keep hb, fun _ _ b hb4 => ?_⟩
    rw [apN_eq] at hb4
    have h1 := ho.block b hb4
    have h2 := hq.lt
    omega
theorem DtS.s8 {v : Value} (h : DtS w1 base g r lim SN X Y mx my f gh W) (n9 : f 9 = false) (n15 : f 15 = false) (ho : Own W' W.heap.size 5 v (encSize my) (enc my)) (hb : Below W.heap.size W W') : DtS w1 base g r lim SN X Y mx my (upd f 8) (updN gh 8 v) W' := by
  have hz := (h.bel n15).size
  refine ⟨fun _ => (h.bel n15).trans (hb.mono hz), fun e => (by rw [ap_ne (by decide), n15] at e; cases e), fun e e2 => ?_, fun _ _ => (by rw [apN_eq]; exact ho.lower hz), fun e4 _ _ b hb4 => ?_, fun e => (by rw [ap_ne (by decide), n9] at e; cases e), fun e e2 => ?_⟩
  · rw [ap_ne (by decide)] at e
    rw [apN_ne (by decide)]
    exact (h.o4 e n9).keep hb
  · rw [apN_ne (by decide)] at hb4
    rw [ap_ne (by decide)] at e4
    rw [apN_eq]
    intro h8
    have h1 := ho.block b h8
    have h2 := (h.o4 e4 n9).block b hb4
    omega
  · rw [ap_ne (by decide)] at e
    obtain ⟨q, e1, hq, h3⟩ := h.o14 e n15
    refine ⟨q, by rw [apN_ne (by decide)]; exact e1, hq.keep hb, ?_⟩
    rw [ap_ne (by decide), ap_ne (by decide), apN_ne (by decide)]
    exact h3
theorem DtS.s9 {v : Value} (h : DtS w1 base g r lim SN X Y mx my f gh W) (f4 : f 4 = true) (n9 : f 9 = false) (n15 : f 15 = false) (ho : Own W' w1.heap.size 5 v (encSize mx + encSize my) (enc mx ++ enc my)) (hg : W.grownBy W' (gh 4).ownBlock) : DtS w1 base g r lim SN X Y mx my (upd f 9) (updN gh 9 v) W' := by
  have hz := (h.bel n15).size
  refine ⟨fun _ => (h.bel n15).trans (below_of_grown hg hz (fun b e => ((h.o4 f4 n9).block b e).1)), fun e => (by rw [ap_ne (by decide), n15] at e; cases e), fun _ e => (by rw [ap_eq] at e; cases e), fun _ e => (by rw [ap_eq] at e; cases e), fun _ _ e => (by rw [ap_eq] at e; cases e), fun _ _ => (by rw [apN_eq]; exact ho), fun e e2 => ?_⟩
  rw [ap_ne (by decide)] at e
  obtain ⟨q, e1, hq, h3⟩ := h.o14 e n15
  refine ⟨q, by rw [apN_ne (by decide)]; exact e1, hq.grown hg (fun hh => h3 f4 n9 q hh rfl), fun _ e => (by rw [ap_eq] at e; cases e)⟩
theorem DtS.s14 (h : DtS w1 base g r lim SN X Y mx my f gh W) (n15 : f 15 = false) : DtS w1 base g r lim SN X Y mx my (upd f 14) (updN gh 14 (.slice (some ⟨W.heap.size, 0, none⟩) 2 2)) (W.alloc (.cells #[.int .i64 X, .int .i64 Y] 3)) := by
  have hb := below_new W (.cells #[.int .i64 X, .int .i64 Y] 3)
  have hz := (h.bel n15).size
  refine ⟨fun _ => (h.bel n15).trans (hb.mono hz), fun e => (by rw [ap_ne (by decide), n15] at e; cases e), fun e e2 => ?_, fun e e2 => ?_, ?_, fun e e2 => ?_, fun _ _ => ⟨W.heap.size, by rw [apN_eq], Blk.new W _ _, fun e4 e9 b hb4 => ?_⟩⟩
  · rw [ap_ne (by decide)] at e e2
    rw [apN_ne (by decide)]
    exact (h.o4 e e2).keep hb
  · rw [ap_ne (by decide)] at e e2
    rw [apN_ne (by decide)]
    exact (h.o8 e e2).keep hb
  · rw [ap_ne (by decide), ap_ne (by decide), ap_ne (by decide), apN_ne (by decide), apN_ne (by decide)]
    exact h.ne
  · rw [ap_ne (by decide)] at e
    rw [apN_ne (by decide)]
    exact (h.o9 e n15).keep hb
  · rw [ap_ne (by decide)] at e4 e9
    rw [apN_ne (by decide)] at hb4
    have := ((h.o4 e4 e9).block b hb4).2
    omega
theorem DtS.s15 {k : Value} (_h : DtS w1 base g r lim SN X Y mx my f gh W) (f9 : f 9 = true) (_f14 : f 14 = true) (hp : RwPost w1 base g r lim SN (.returned (.int .i64 (SN.e : Int))) W') : DtS w1 base g r lim SN X Y mx my (upd f 15) (updN gh 15 k) W' :=
  ⟨fun e => (by rw [ap_eq] at e; cases e), fun _ => hp, fun _ e => (by rw [ap_ne (by decide), f9] at e; cases e), fun _ e => (by rw [ap_ne (by decide), f9] at e; cases e), fun _ _ e => (by rw [ap_ne (by decide), f9] at e; cases e), fun _ e => (by rw [ap_eq] at e; cases e), fun _ e => (by rw [ap_eq] at e; cases e)⟩
end
def dtVal (g Bx : Nat) (X Y : Int) (mx my : Nat) (ez : Int) : Nat → Value → Value
  | 0, _ => .pointer (some ⟨g, 0, none⟩)
  | 1, _ => .pointer (some ⟨Bx, 0, none⟩)
  | 2, _ => .int .i64 X
  | 3, _ => .int .i64 (mx : Int)
  | 4, k => k
  | 5, _ => .pointer (some ⟨Bx, 1, none⟩)
  | 6, _ => .int .i64 Y
  | 7, _ => .int .i64 (my : Int)
  | 8, k => k
  | 9, k => k
  | 10, _ => .pointer (some ⟨Bx, 0, none⟩)
  | 11, _ => .int .i64 X
  | 12, _ => .pointer (some ⟨Bx, 1, none⟩)
  | 13, _ => .int .i64 Y
  | 14, k => k
  | 15, _ => .int .i64 ez
  | 16, _ => .int .i64 ez
  | _, _ => undef
section
variable (base g : Nat) (r : Option Nat) (lim : Nat) (s : WS) (w : World)
set_option maxRecDepth 20000 in
set_option maxHeartbeats 2000000 in
theorem refWDot_calls (X Y : Int) (hX : X < 9223372036854775808) (hY : Y < 9223372036854775808) (h : RwB w base g r lim s) :
    Calls Try.prog 24 #[.pointer (some ⟨g, 0, none⟩), .agg #[.int .i64 X, .int .i64 Y]] w (RwPost w base g r lim (putW lim s [numI X, numI Y])) := by
  have b1 := below_new w (.cells #[.int .i64 X, .int .i64 Y] 35)
  have k1 := Blk.new w 35 #[.int .i64 X, .int .i64 Y]
  obtain ⟨mx, hmx⟩ : ∃ mx : Nat, max X 0 = (mx : Int) := ⟨(max X 0).toNat, by omega⟩
  obtain ⟨my, hmy⟩ : ∃ my : Nat, max Y 0 = (my : Int) := ⟨(max Y 0).toNat, by omega⟩
  have HM := hid (show mx < 9223372036854775808 ∧ my < 9223372036854775808 from by omega)
  have HFL := hid (show anyNeg [numI X, numI Y] = false → enc mx ++ enc my = flat [numI X, numI Y] from fun hn => by
    rw [neg_two] at hn
    simp only [List.any_cons, List.any_nil, Bool.or_false, Bool.or_eq_false_iff, decide_eq_false_iff_not] at hn
    rw [flat_dot (by omega) (by omega)]
    have e1 : X.toNat = mx := by omega
    have e2 : Y.toNat = my := by omega
    rw [e1, e2])
  have HMX := hid hmx; have HMY := hid hmy
  have HH := hid (h.keep b1)
  have HPUT := hid (fun W n A cs c q (hW : RwB W base g r lim s) (hs : SB W W.heap.size A n cs) (hn : n ≤ 549755813888) (hq : Blk W q 3 #[.int .i64 X, .int .i64 Y]) (hc : anyNeg [numI X, numI Y] = false → cs = flat [numI X, numI Y]) => refPut_calls base g r lim s W.heap.size n c 2 2 A (some ⟨q, 0, none⟩) cs [X, Y] [numI X, numI Y] W hW hs (si_lit W [X, Y] _ q hq) hn (by omega) (neg_two X Y) hc)
  have HFRESH := hid (show ∀ e W', RwPost (w.alloc (.cells #[.int .i64 X, .int .i64 Y] 35)) base g r lim (putW lim s [numI X, numI Y]) e W' → RwPost w base g r lim (putW lim s [numI X, numI Y]) e W' from fun e W' hp => RwPost.fresh b1 hp)
  generalize putW lim s [numI X, numI Y] = SN at HPUT HFRESH ⊢
  clear h b1 hmx hmy
  go_enter Try.func24, Try.ntmps24
  go_wp2_with fail
  generalize w.alloc (.cells #[.int .i64 X, .int .i64 Y] 35) = w1 at k1 HH HFRESH ⊢
  generalize w.heap.size = Bx at k1 ⊢
  have HC := hid (fun W (hW : Below w1.heap.size w1 W) => (⟨(k1.keep hW).cell 0 rfl, (k1.keep hW).cell 1 rfl⟩ : W.cell? ⟨Bx, 0, none⟩ = some (.int .i64 X) ∧ W.cell? ⟨Bx, 1, none⟩ = some (.int .i64 Y)))
  have HRW := hid (fun W (hW : Below w1.heap.size w1 W) => HH.out.keep hW)
  have HST := hid (show DtS w1 base g r lim SN X Y mx my (fun j => decide (17 ≤ j)) (fun _ => .pointer none) w1.drew from ⟨fun _ => (Below.refl _ _).drew, (fun e => by cases e), (fun e => by cases e), (fun e => by cases e), (fun e => by cases e), (fun e => by cases e), (fun e => by cases e)⟩)
  clear k1 HH
  obtain ⟨ez, hez⟩ : ∃ ez : Int, (SN.e : Int) = ez := ⟨_, rfl⟩
  have HEZ := hid hez
  clear hez
  refine wp_region_invG 21 (.pointer none) (dtVal g Bx X Y mx my ez) (DtS w1 base g r lim SN X Y mx my) (by kernel_rfl) (by kernel_rfl) (by exact Nat.le_refl 21) ?_ ?_ ?_
  · exact HST.out
  · intro i o f gh a W hi hf hdep hsame hcl hval hS
    rcases i with _ | _ | _ | _ | _ | _ | _ | _ | _ | _ | _ | _ | _ | _ | _ | _ | _ | i
    all_goals simp only [List.getElem?_cons_succ, List.getElem?_cons_zero, List.getElem?_nil, Option.some.injEq, reduceCtorEq] at hi
    all_goals subst hi
    · have E0 : a.tmps[0]? = some (.pointer (some ⟨g, 0, none⟩)) := (same_of hsame 0 (by rfl)).trans rfl
      refine g_plain rfl ?_
      exact does_value (w' := W) (v := .pointer (some ⟨g, 0, none⟩)) (by go_simp) ⟨(.pointer none), .inr rfl, hS.step 0 (.pointer none) (by decide) (by decide) (by decide) (by decide) (by decide)⟩
    · have E3 : a.tmps[3]? = some (.pointer (some ⟨Bx, 0, none⟩)) := (same_of hsame 3 (by rfl)).trans rfl
      refine g_plain rfl ?_
      exact does_value (w' := W) (v := .pointer (some ⟨Bx, 0, none⟩)) (by go_simp) ⟨(.pointer none), .inr rfl, hS.step 1 (.pointer none) (by decide) (by decide) (by decide) (by decide) (by decide)⟩
    · have E6 := hval 1 _ 6 rfl rfl (dep_of hdep 1 (by rfl))
      unfold dtVal at E6
      have n3 := not_yet hcl hf 3 (by rfl)
      have n4 := not_yet hcl n3 4 (by rfl)
      have n9 := not_yet hcl n4 9 (by rfl)
      have n15 := not_yet hcl n9 15 (by rfl)
      obtain ⟨c0, c1⟩ := HC.out W (hS.bel n15)
      refine g_plain rfl ?_
      exact does_value (w' := W) (v := .int .i64 X) (by go_simp) ⟨(.pointer none), .inr rfl, hS.step 2 (.pointer none) (by decide) (by decide) (by decide) (by decide) (by decide)⟩
    · have E7 := hval 2 _ 7 rfl rfl (dep_of hdep 2 (by rfl))
      unfold dtVal at E7
      have hmx := HMX.out
      refine g_plain rfl ?_
      exact does_value (w' := W) (v := .int .i64 (mx : Int)) (by go_simp) ⟨(.pointer none), .inr rfl, hS.step 3 (.pointer none) (by decide) (by decide) (by decide) (by decide) (by decide)⟩
    · have E8 := hval 3 _ 8 rfl rfl (dep_of hdep 3 (by rfl))
      unfold dtVal at E8
      have n9 := not_yet hcl hf 9 (by rfl)
      have n15 := not_yet hcl n9 15 (by rfl)
      refine g_plain rfl ?_
      refine does_call 61 #[.int .i64 (mx : Int)] (by go_simp) ((refNum_calls mx HM.out.1 W).mono ?_)
      rintro _ W' ⟨v, rfl, ho, hb⟩
      exact ⟨v, rfl, v, .inr rfl, hS.s4 n9 n15 ho hb⟩
    · have E3 : a.tmps[3]? = some (.pointer (some ⟨Bx, 0, none⟩)) := (same_of hsame 3 (by rfl)).trans rfl
      refine g_plain rfl ?_
      exact does_value (w' := W) (v := .pointer (some ⟨Bx, 1, none⟩)) (by go_simp) ⟨(.pointer none), .inr rfl, hS.step 5 (.pointer none) (by decide) (by decide) (by decide) (by decide) (by decide)⟩
    · have E10 := hval 5 _ 10 rfl rfl (dep_of hdep 5 (by rfl))
      unfold dtVal at E10
      have n7 := not_yet hcl hf 7 (by rfl)
      have n8 := not_yet hcl n7 8 (by rfl)
      have n9 := not_yet hcl n8 9 (by rfl)
      have n15 := not_yet hcl n9 15 (by rfl)
      obtain ⟨c0, c1⟩ := HC.out W (hS.bel n15)
      refine g_plain rfl ?_
      exact does_value (w' := W) (v := .int .i64 Y) (by go_simp) ⟨(.pointer none), .inr rfl, hS.step 6 (.pointer none) (by decide) (by decide) (by decide) (by decide) (by decide)⟩
    · have E11 := hval 6 _ 11 rfl rfl (dep_of hdep 6 (by rfl))
      unfold dtVal at E11
      have hmy := HMY.out
      refine g_plain rfl ?_
      exact does_value (w' := W) (v := .int .i64 (my : Int)) (by go_simp) ⟨(.pointer none), .inr rfl, hS.step 7 (.pointer none) (by decide) (by decide) (by decide) (by decide) (by decide)⟩
    · have E12 := hval 7 _ 12 rfl rfl (dep_of hdep 7 (by rfl))
      unfold dtVal at E12
      have n9 := not_yet hcl hf 9 (by rfl)
      have n15 := not_yet hcl n9 15 (by rfl)
      refine g_plain rfl ?_
      refine does_call 61 #[.int .i64 (my : Int)] (by go_simp) ((refNum_calls my HM.out.2 W).mono ?_)
      rintro _ W' ⟨v, rfl, ho, hb⟩
      exact ⟨v, rfl, v, .inr rfl, hS.s8 n9 n15 ho hb⟩
    · have E9 := hval 4 _ 9 rfl rfl (dep_of hdep 4 (by rfl))
      have E13 := hval 8 _ 13 rfl rfl (dep_of hdep 8 (by rfl))
      unfold dtVal at E9 E13
      have n15 := not_yet hcl hf 15 (by rfl)
      refine g_plain rfl ?_
      obtain ⟨A8, c8, ev8, -, sb8, -⟩ := (hS.o8 (dep_of hdep 8 (by rfl)) hf).sb
      rw [ev8] at E13
      have hx1 := encSize_le (n := mx) (by have := HM.out.1; omega)
      have hx2 := encSize_le (n := my) (by have := HM.out.2; omega)
      refine does_append_row _ _ rfl (base := w1.heap.size) (gh 4) (by rw [eval_getD, E9]; rfl) (hS.o4 (dep_of hdep 4 (by rfl)) hf) (encSize my) c8 A8 (by rw [eval_getD, E13]; rfl) sb8 (by omega) (hS.bel n15).size ?_
      intro v' W' ho hg
      exact ⟨v', .inr rfl, hS.s9 (dep_of hdep 4 (by rfl)) hf n15 ho hg⟩
    · have E3 : a.tmps[3]? = some (.pointer (some ⟨Bx, 0, none⟩)) := (same_of hsame 3 (by rfl)).trans rfl
      refine g_plain rfl ?_
      exact does_value (w' := W) (v := .pointer (some ⟨Bx, 0, none⟩)) (by go_simp) ⟨(.pointer none), .inr rfl, hS.step 10 (.pointer none) (by decide) (by decide) (by decide) (by decide) (by decide)⟩
    · have E15 := hval 10 _ 15 rfl rfl (dep_of hdep 10 (by rfl))
      unfold dtVal at E15
      have n14 := not_yet hcl hf 14 (by rfl)
      have n15 := not_yet hcl n14 15 (by rfl)
      obtain ⟨c0, c1⟩ := HC.out W (hS.bel n15)
      refine g_plain rfl ?_
      exact does_value (w' := W) (v := .int .i64 X) (by go_simp) ⟨(.pointer none), .inr rfl, hS.step 11 (.pointer none) (by decide) (by decide) (by decide) (by decide) (by decide)⟩
    · have E3 : a.tmps[3]? = some (.pointer (some ⟨Bx, 0, none⟩)) := (same_of hsame 3 (by rfl)).trans rfl
      refine g_plain rfl ?_
      exact does_value (w' := W) (v := .pointer (some ⟨Bx, 1, none⟩)) (by go_simp) ⟨(.pointer none), .inr rfl, hS.step 12 (.pointer none) (by decide) (by decide) (by decide) (by decide) (by decide)⟩
    · have E17 := hval 12 _ 17 rfl rfl (dep_of hdep 12 (by rfl))
      unfold dtVal at E17
      have n14 := not_yet hcl hf 14 (by rfl)
      have n15 := not_yet hcl n14 15 (by rfl)
      obtain ⟨c0, c1⟩ := HC.out W (hS.bel n15)
      refine g_plain rfl ?_
      exact does_value (w' := W) (v := .int .i64 Y) (by go_simp) ⟨(.pointer none), .inr rfl, hS.step 13 (.pointer none) (by decide) (by decide) (by decide) (by decide) (by decide)⟩
    · have E16 := hval 11 _ 16 rfl rfl (dep_of hdep 11 (by rfl))
      have E18 := hval 13 _ 18 rfl rfl (dep_of hdep 13 (by rfl))
      unfold dtVal at E16 E18
      have n15 := not_yet hcl hf 15 (by rfl)
      refine g_plain rfl ?_
      exact does_value (w' := W.alloc (.cells #[.int .i64 X, .int .i64 Y] 3)) (v := .slice (some ⟨W.heap.size, 0, none⟩) 2 2) (by go_simp) ⟨.slice (some ⟨W.heap.size, 0, none⟩) 2 2, .inr rfl, hS.s14 n15⟩
    · have E5 := hval 0 _ 5 rfl rfl (dep_of hdep 0 (by rfl))
      have E14 := hval 9 _ 14 rfl rfl (dep_of hdep 9 (by rfl))
      have E19 := hval 14 _ 19 rfl rfl (dep_of hdep 14 (by rfl))
      unfold dtVal at E5 E14 E19
      refine g_plain rfl ?_
      have h9 := hS.o9 (dep_of hdep 9 (by rfl)) hf
      obtain ⟨A9, c9, ev9, -, sb9, -⟩ := h9.sb
      obtain ⟨q, ev14, hq, -⟩ := hS.o14 (dep_of hdep 14 (by rfl)) hf
      rw [ev9] at E14
      rw [ev14] at E19
      have hx1 := encSize_le (n := mx) (by have := HM.out.1; omega)
      have hx2 := encSize_le (n := my) (by have := HM.out.2; omega)
      have HCP := hid ((HPUT.out W _ A9 _ c9 q (HRW.out W (hS.bel hf)) sb9 (by omega) hq HFL.out))
      clear h9 sb9 hq ev9 ev14
      refine does_call 18 #[.pointer (some ⟨g, 0, none⟩), .slice A9 (encSize mx + encSize my) c9, .slice (some ⟨q, 0, none⟩) 2 2] (by go_simp) (HCP.out.mono ?_)
      intro e W' hp
      obtain rfl := hp.ret
      exact ⟨_, congrArg (fun i => Ending.returned (Value.int .i64 i)) HEZ.out, .pointer none, .inr rfl, hS.s15 (dep_of hdep 9 (by rfl)) (dep_of hdep 14 (by rfl)) (RwPost.fresh (hS.bel hf) hp)⟩
    · have E20 := hval 15 _ 20 rfl rfl (dep_of hdep 15 (by rfl))
      unfold dtVal at E20
      refine g_plain rfl ?_
      exact does_value (w' := W) (v := .int .i64 ez) (by go_simp) ⟨(.pointer none), .inr rfl, hS.step 16 (.pointer none) (by decide) (by decide) (by decide) (by decide) (by decide)⟩
  · intro gh W hS
    have hf := HFRESH.out _ _ (hS.fin rfl)
    rw [HEZ.out] at hf
    have HF := hid hf
    clear hf
    clear hS HST HC HRW HPUT
    simp only [putAll, dtVal, Nat.reduceAdd, Nat.zero_add, Act.put, List.setIfInBounds_toArray, List.set_cons_zero, List.set_cons_succ]
    go_wp2_with fail
    go_ret
    exact HF.out
end
end Go.Proofs.Ytcpkjpeimnaimaa
