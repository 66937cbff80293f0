/- Contract of the reference of clouds: laid. Written by tools/mkcl.py. -/
import Derived.Test.YthjflgnoeenenaaClRfA
import Derived.BigQuiet
import Derived.Laws.StructEq
namespace Go.Proofs.Ythjflgnoeenenaa
open Go Go.RowKit Cl

theorem run_load_dot {W : World} {g : Nat} {d : Dt} (h : Blk W g 27 #[.int .i64 d.1, .int .i64 d.2]) : (loadVar 27 ⟨g, 0, none⟩).run Try.prog W = .ok (dvv d) W :=
  run_loadVar_row W g 27 27 _ (0, 0) _ h Try.underlying27 rfl (by kernel_rfl)
def aggD (d : TypeDesc) : Bool := match d with | .struct _ => true | .array _ _ => true | _ => false
theorem run_load_cells {P : Program} {w : World} (t : TypeId) (ad : Addr) (cs : List Value) (hc : ∀ j v, cs[j]? = some v → w.cell? (ad.add j) = some v)
    {d : TypeDesc} (hu : P.underlying t = some d) (hd : aggD d = true) (hi : (P.info? t).map (·.size) = some cs.length) : (loadVar t ad).run P w = .ok (.agg cs.toArray) w := by
  have hl := run_loadCells_list (P := P) w ad cs hc
  cases hq : P.info? t with
  | none => simp [hq] at hi
  | some i =>
    have hs : i.size = cs.length := by simpa [hq] using hi
    have hagg : (isAgg t).run P w = .ok true w := by
      unfold isAgg
      rw [Sem.run_bind, run_underlying hu w]
      cases d <;> simp_all [aggD]
    simp [loadVar, Sem.run_bind, hagg, sizeOf, typeInfo, hq, hs, hl]
theorem run_load_dotAt {W : World} {b off : Nat} {d : Dt} (h1 : W.cell? ⟨b, off, none⟩ = some (.int .i64 d.1)) (h2 : W.cell? ⟨b, off + 1, none⟩ = some (.int .i64 d.2)) : (loadVar 27 ⟨b, off, none⟩).run Try.prog W = .ok (dvv d) W := by
  have HSZ : (Try.prog.info? 27).map (·.size) = some [Value.int .i64 d.1, .int .i64 d.2].length := by kernel_rfl
  obtain ⟨e, u1, u2⟩ : ∃ e, Try.prog.underlying 27 = some e ∧ aggD e = true := by
    have h : (Try.prog.underlying 27).map aggD = some true := by kernel_rfl
    exact Option.map_eq_some_iff.1 h
  have := run_load_cells (P := Try.prog) (w := W) 27 ⟨b, off, none⟩ [.int .i64 d.1, .int .i64 d.2] (fun j v hj => ?_) u1 u2 HSZ
  · unfold dvv; simpa using this
  · rw [Addr.add_lit]
    match j, hj with
    | 0, hj => cases hj; exact h1
    | 1, hj => cases hj; exact h2
    | j + 2, hj => simp at hj
theorem does_load_dotB {o : Oper} {a : Act} {w : World} {T : Value → World → Prop} (x : Operand) (ho : o.op = .load 27 x) (g : Nat) {d : Dt} (hx : a.eval x = .pointer (some ⟨g, 0, none⟩)) (hb : Blk w g 27 #[.int .i64 d.1, .int .i64 d.2]) (h : T (dvv d) w) : OpDoes Try.prog o a w T := fun K Q hK => by
  unfold Oper.wp execOp
  simp only [ho, hx, Instr.loadAt, Instr.sureAddr, Sem.run_bind, Sem.run_pure, Result.andThen_ok, run_load_dot hb]
  exact hK _ _ h
theorem does_load_dotAt {o : Oper} {a : Act} {w : World} {T : Value → World → Prop} (x : Operand) (ho : o.op = .load 27 x) (b off : Nat) {d : Dt} (hx : a.eval x = .pointer (some ⟨b, off, none⟩)) (h1 : w.cell? ⟨b, off, none⟩ = some (.int .i64 d.1)) (h2 : w.cell? ⟨b, off + 1, none⟩ = some (.int .i64 d.2)) (h : T (dvv d) w) : OpDoes Try.prog o a w T := fun K Q hK => by
  unfold Oper.wp execOp
  simp only [ho, hx, Instr.loadAt, Instr.sureAddr, Sem.run_bind, Sem.run_pure, Result.andThen_ok, run_load_dotAt h1 h2]
  exact hK _ _ h
theorem cell_keep {W W' : World} {b i : Nat} {v : Value} (h : W.cell? ⟨b, i, none⟩ = some v) (hb : Below W.heap.size W W') : W'.cell? ⟨b, i, none⟩ = some v := (hb.cell (p := ⟨b, i, none⟩) (lt_of_cell h)).trans h
theorem does_append {P : Program} {o : Oper} {a : Act} {w w' : World} {T : Value → World → Prop} (s x : Operand) (t : TypeId) (ho : o.op = .call { callee := .builtin .append, args := #[s, x], argTypes := #[t, t] }) {v u v' : Value} (hv : a.eval s = v) (hx : a.eval x = u)
    (hr : (Builtin.append_ #[t, t] o.type #[v, u]).run P w = .ok v' w') (h : T v' w') : OpDoes P o a w T := by
  refine does_value (w' := w') (v := v') ?_ h
  unfold execOp
  simp only [ho, resolve, invoke, builtin, Sem.run_bind, Sem.run_pure, Result.andThen_ok, List.map_toArray, List.map_cons, List.map_nil, hv, hx, hr]
theorem la_ne {f : Nat → Bool} {i j : Nat} (h : j ≠ i) : upd f i j = f j := by unfold upd; simp [h]
theorem la_eq {f : Nat → Bool} {i : Nat} : upd f i i = true := by unfold upd; simp
theorem laN_ne {G : Type} {gh : Nat → G} {i j : Nat} {k : G} (h : j ≠ i) : updN gh i k j = gh j := by unfold updN; simp [h]
theorem laN_eq {G : Type} {gh : Nat → G} {i : Nat} {k : G} : updN gh i k i = k := by unfold updN; simp
/-- two appends in a drawn region: one dot, then the rest -/
structure LaS (w3 : World) (bs : Nat) (o : Value) (k m : Nat) (out : List Dt) (d : Dt) (rest : List Dt) (f : Nat → Bool) (gh : Nat → Value) (W : World) : Prop where
  low : Below bs w3 W
  pre : f 3 = false → OwnD W bs o k out
  lit : f 2 = true → f 3 = false → ∃ q, gh 2 = .slice (some ⟨q, 0, none⟩) 1 1 ∧ ND W (some ⟨q, 0, none⟩) 1 [d]
  mid : f 3 = true → f 7 = false → OwnD W bs (gh 3) (k + 1) (out ++ [d])
  fin : f 7 = true → OwnD W bs (gh 7) (k + 1 + m) (out ++ [d] ++ rest)
  asg : f 8 = true → OwnD W bs (gh 8) (k + 1 + m) (out ++ [d] ++ rest)
section
variable {w3 W : World} {bs k m : Nat} {o : Value} {out rest : List Dt} {d : Dt} {f : Nat → Bool} {gh : Nat → Value}
theorem LaS.start (h : OwnD w3 bs o k out) (gh : Nat → Value) : LaS w3 bs o k m out d rest (fun j => decide (9 ≤ j)) gh w3.drew where
  low := (Below.refl _ _).drew
  pre := fun _ => h.keep (Below.refl _ _).drew
  lit := fun e _ => by have := of_decide_eq_true e; omega
  mid := fun e _ => by have := of_decide_eq_true e; omega
  fin := fun e => by have := of_decide_eq_true e; omega
  asg := fun e => by have := of_decide_eq_true e; omega
theorem LaS.same (h : LaS w3 bs o k m out d rest f gh W) (i : Nat) (v : Value) (n2 : 2 ≠ i) (n3 : 3 ≠ i) (n7 : 7 ≠ i) (n8 : 8 ≠ i) : LaS w3 bs o k m out d rest (upd f i) (updN gh i v) W where
  low := h.low
  pre := fun e => by rw [la_ne n3] at e; exact h.pre e
  lit := fun e e2 => by rw [la_ne n2] at e; rw [la_ne n3] at e2; rw [laN_ne n2]; exact h.lit e e2
  mid := fun e e2 => by rw [la_ne n3] at e; rw [la_ne n7] at e2; rw [laN_ne n3]; exact h.mid e e2
  fin := fun e => by rw [la_ne n7] at e; rw [laN_ne n7]; exact h.fin e
  asg := fun e => by rw [la_ne n8] at e; rw [laN_ne n8]; exact h.asg e
theorem LaS.last (h : LaS w3 bs o k m out d rest f gh W) (e7 : f 7 = true) : LaS w3 bs o k m out d rest (upd f 8) (updN gh 8 (gh 7)) W where
  low := h.low
  pre := fun e => by rw [la_ne (by decide)] at e; exact h.pre e
  lit := fun e e2 => by rw [la_ne (by decide)] at e; rw [la_ne (by decide)] at e2; rw [laN_ne (by decide)]; exact h.lit e e2
  mid := fun e e2 => by rw [la_ne (by decide)] at e e2; rw [laN_ne (by decide)]; exact h.mid e e2
  fin := fun e => by rw [la_ne (by decide)] at e; rw [laN_ne (by decide)]; exact h.fin e
  asg := fun _ => by rw [laN_eq]; exact h.fin e7
theorem nd_one (W : World) (d : Dt) : ND (W.alloc (.cells #[.int .i64 d.1, .int .i64 d.2] 27)) (some ⟨W.heap.size, 0, none⟩) 1 [d] := ⟨rfl, fun _ => ⟨_, _, rfl, fun j u hj => by
  have hk := Blk.new W 27 #[.int .i64 d.1, .int .i64 d.2]
  match j, hj with
  | 0, hj => cases hj; exact hk.cell 0 rfl
  | 1, hj => cases hj; exact hk.cell 1 rfl
  | j + 2, hj => simp [flatD, dcs] at hj⟩⟩
theorem LaS.build (h : LaS w3 bs o k m out d rest f gh W) (n3 : f 3 = false) (n7 : f 7 = false) (n8 : f 8 = false) (hbs : bs ≤ w3.heap.size) : LaS w3 bs o k m out d rest (upd f 2) (updN gh 2 (.slice (some ⟨W.heap.size, 0, none⟩) 1 1)) (W.alloc (.cells #[.int .i64 d.1, .int .i64 d.2] 27)) where
  low := h.low.trans ((below_new W _).mono (Nat.le_trans hbs h.low.size))
  pre := fun _ => (h.pre n3).keep (below_new W _)
  lit := fun _ _ => ⟨_, laN_eq, nd_one W d⟩
  mid := fun e _ => by rw [la_ne (by decide), n3] at e; cases e
  fin := fun e => by rw [la_ne (by decide), n7] at e; cases e
  asg := fun e => by rw [la_ne (by decide), n8] at e; cases e
theorem below_app {w w' : World} {v : Value} {bs n : Nat} {zs : List Dt} (hg : w.grownBy w' v.ownBlock) (h : OwnD w bs v n zs) (hb : bs ≤ w.heap.size) : Below bs w w' := below_of_grown hg hb (fun g e => (h.lt g e).1)
theorem LaS.app1 (h : LaS w3 bs o k m out d rest f gh W) (e2 : f 2 = true) (n3 : f 3 = false) (n7 : f 7 = false) (n8 : f 8 = false) (hbs : bs ≤ w3.heap.size) (hlen : k + 1 ≤ 1099511627776) (ty : TypeId) :
    ∃ q v' W', gh 2 = .slice (some ⟨q, 0, none⟩) 1 1 ∧ (Builtin.append_ #[23, 23] ty #[o, .slice (some ⟨q, 0, none⟩) 1 1]).run Try.prog W = .ok v' W' ∧ LaS w3 bs o k m out d rest (upd f 3) (updN gh 3 v') W' := by
  obtain ⟨q, hq, hn⟩ := h.lit e2 n3
  have hsz := Nat.le_trans hbs h.low.size
  obtain ⟨v', W', hr, ho, hg, _⟩ := run_append_dots W ty bs o k out (h.pre n3) _ 1 1 [d] hn hlen hsz
  refine ⟨q, v', W', hq, hr, h.low.trans (below_app hg (h.pre n3) hsz), fun e => ?_, fun _ e => ?_, fun _ _ => ?_, fun e => ?_, fun e => ?_⟩
  · rw [la_eq] at e; cases e
  · rw [la_eq] at e; cases e
  · rw [laN_eq]; exact ho
  · rw [la_ne (by decide), n7] at e; cases e
  · rw [la_ne (by decide), n8] at e; cases e
theorem LaS.app2 (h : LaS w3 bs o k m out d rest f gh W) (e3 : f 3 = true) (n7 : f 7 = false) (n8 : f 8 = false) (hbs : bs ≤ w3.heap.size) (hlen : k + 1 + m ≤ 1099511627776) (ty : TypeId) {A : Option Addr} {c : Nat} (hsrc : ND W A m rest) :
    ∃ v' W', (Builtin.append_ #[23, 23] ty #[gh 3, .slice A m c]).run Try.prog W = .ok v' W' ∧ LaS w3 bs o k m out d rest (upd f 7) (updN gh 7 v') W' := by
  have hsz := Nat.le_trans hbs h.low.size
  obtain ⟨v', W', hr, ho, hg, _⟩ := run_append_dots W ty bs (gh 3) (k + 1) _ (h.mid e3 n7) _ m c rest hsrc hlen hsz
  refine ⟨v', W', hr, h.low.trans (below_app hg (h.mid e3 n7) hsz), fun e => ?_, fun _ e => ?_, fun _ e => ?_, fun e => ?_, fun e => ?_⟩
  · rw [la_ne (by decide), e3] at e; cases e
  · rw [la_ne (by decide), e3] at e; cases e
  · rw [la_eq] at e; cases e
  · rw [laN_eq]; exact ho
  · rw [la_ne (by decide), n8] at e; cases e
end
def vLaE (v3 : Value) (d : Dt) (A : Option Addr) (n c : Nat) (k : Nat) (A2 : Option Addr) : Nat → Value → Value
  | 0, _ => v3
  | 1, _ => dvv d
  | 2, g => g
  | 3, g => g
  | 4, _ => .slice A n c
  | 5, _ => .int .i64 (k : Int)
  | 6, _ => .slice A2 (n - k) (c - k)
  | 7, g => g
  | 8, g => g
  | _, _ => undef
def vLaA (b : Nat) (off : Nat) (k : Nat) (n : Nat) (c : Nat) (x : Dt) (d : Dt) (q : Bool) : Nat → Unit → Value
  | 0, _ => .int .i64 (k : Int)
  | 1, _ => .slice (some ⟨b, off, none⟩) n c
  | 2, _ => .int .i64 (n : Int)
  | 3, _ => .bool true
  | 4, _ => .bool true
  | 5, _ => .slice (some ⟨b, off, none⟩) n c
  | 6, _ => .int .i64 (k : Int)
  | 7, _ => .pointer (some ⟨b, off + k * 2, none⟩)
  | 8, _ => dvv x
  | 9, _ => dvv d
  | 10, _ => .bool q
  | 11, _ => .bool q
  | _, _ => undef
def vLaB (A : Option Addr) (k : Nat) (c : Nat) : Nat → Unit → Value
  | 0, _ => .int .i64 (k : Int)
  | 1, _ => .slice A k c
  | 2, _ => .int .i64 (k : Int)
  | 3, _ => .bool false
  | 4, _ => .bool false
  | 5, _ => undef
  | 6, _ => undef
  | 7, _ => undef
  | 8, _ => undef
  | 9, _ => undef
  | 10, _ => undef
  | 11, _ => .bool false
  | _, _ => undef
def vLaC (b : Nat) (off : Nat) (k : Nat) (n : Nat) (c : Nat) (x : Dt) (d : Dt) (q2 : Bool) : Nat → Unit → Value
  | 0, _ => .int .i64 (k : Int)
  | 1, _ => .slice (some ⟨b, off, none⟩) n c
  | 2, _ => .int .i64 (n : Int)
  | 3, _ => .bool true
  | 4, _ => .bool true
  | 5, _ => .slice (some ⟨b, off, none⟩) n c
  | 6, _ => .int .i64 (k : Int)
  | 7, _ => .pointer (some ⟨b, off + k * 2, none⟩)
  | 8, _ => dvv x
  | 9, _ => dvv d
  | 10, _ => .bool q2
  | 11, _ => .bool q2
  | _, _ => undef
def vLaD (A : Option Addr) (k : Nat) (c : Nat) : Nat → Unit → Value
  | 0, _ => .int .i64 (k : Int)
  | 1, _ => .slice A k c
  | 2, _ => .int .i64 (k : Int)
  | 3, _ => .bool false
  | 4, _ => .bool false
  | 5, _ => undef
  | 6, _ => undef
  | 7, _ => undef
  | 8, _ => undef
  | 9, _ => undef
  | 10, _ => undef
  | 11, _ => .bool false
  | _, _ => undef
set_option maxRecDepth 20000 in
set_option maxHeartbeats 2000000 in
theorem rLaid_calls (base n : Nat) (v : Value) (l : List Dt) (d : Dt) (w : World) (h : OwnD w base v n l) (hb : base ≤ w.heap.size) (hn : n ≤ 1000000) :
    Calls Try.prog 71 #[v, dvv d] w fun e w' => ∃ v', e = .returned v' ∧ OwnD w' base v' (laid l d).length (laid l d) ∧ Below w.heap.size w w' := by
  obtain ⟨A, c, rfl, hc, hnd, -⟩ := h.nd
  obtain ⟨p, hp⟩ : ∃ p, w.heap.size = p := ⟨_, rfl⟩
  obtain ⟨w1, hw1⟩ : ∃ w1, w1 = w.alloc (.cells #[.int .i64 d.1, .int .i64 d.2] 27) := ⟨_, rfl⟩
  have hb1 : Below w.heap.size w w1 := by rw [hw1]; exact below_new w _
  have HP := hid (show Blk w1 p 27 #[.int .i64 d.1, .int .i64 d.2] from by rw [hw1, ← hp]; exact Blk.new w _ _)
  have HB1 := hid hb1; have HW1 := hid hw1; have HPP := hid hp; have HO := hid h; have HN := hid (hnd.keep hb1); have HBS := hid hb; have HCC := hid hc
  obtain ⟨K, hK⟩ : ∃ K, posL l d = K := ⟨_, rfl⟩
  have hll : l.length = n := hnd.1
  have hKn : K ≤ n := by rw [← hK, ← hll]; exact pos_le l d
  have HLT := hid (show ∀ k x, k < K → l[k]? = some x → dLt x d from fun k x hk hx => by
    rw [← hK] at hk
    obtain ⟨h1, h2⟩ := List.getElem?_eq_some_iff.1 hx
    rw [← h2]; exact pos_lt hk)
  have HGE := hid (show ∀ x, l[K]? = some x → ¬ dLt x d from fun x hx => by
    rw [← hK] at hx
    exact pos_ge hx)
  have HLA := hid (show laid l d = if l[K]? = some d then l else l.take K ++ d :: l.drop K from by rw [← hK]; exact laid_pos l d)
  have HLL := hid hll
  clear h hb hnd hb1 hw1 hp hK hc hll
  show Calls Try.prog 71 #[.slice A n c, .agg #[.int .i64 d.1, .int .i64 d.2]] w _
  go_enter Try.func71, Try.ntmps71
  go_wp2_with fail
  rw [show (w.alloc (.cells #[.int .i64 d.1, .int .i64 d.2] 27)) = w1 from HW1.out.symm, HPP.out]
  go_loopw [5] (fun i wr => ∃ k : Nat, k ≤ K ∧ i = .int .i64 (k : Int) ∧ Hid (Below w1.heap.size w1 wr)) (fun i _ => K + 1 - (intOf i).toNat)
  case atStart => exact ⟨0, Nat.zero_le _, rfl, hid (Below.refl _ _)⟩
  case round =>
    obtain ⟨k, hk, rfl, HW⟩ := hrel
    by_cases hlt : k < n
    · have hlt' : (k : Int) < (n : Int) := by omega
      obtain ⟨b, off, x, rfl, hx, hc1, hc2⟩ := (HN.out.keep HW.out).at_ hlt
      have HC1 := hid hc1; have HC2 := hid hc2
      have HPW := hid (HP.out.keep HW.out)
      obtain ⟨q, hq⟩ : ∃ q, decide (dLt x d) = q := ⟨_, rfl⟩
      have HL := hid (fun W => show Calls Try.prog 90 #[dvv x, dvv d] W fun e w' => e = .returned (.bool q) ∧ Below W.heap.size W w' from by rw [← hq]; exact rLess_calls x d W)
      have HX := hid hx; have HQ := hid hq
      clear hc1 hc2 hq hx
      go_wp2_with fail
      refine wp_region_invG 47 () (vLaA b off k n c x d q) (fun _ _ W => Below wr.heap.size wr W) (by kernel_rfl) (by kernel_rfl) (by exact Nat.le_refl 47) ?_ ?_ ?_
      · exact (Below.refl _ _).drew
      · intro i o f gh a W hi hf hdep hsame hcl hval hS
        rcases i with _ | _ | _ | _ | _ | _ | _ | _ | _ | _ | _ | _ | i
        all_goals simp only [List.getElem?_cons_succ, List.getElem?_cons_zero, List.getElem?_nil, Option.some.injEq, reduceCtorEq] at hi
        all_goals subst hi
        · have E5 : a.tmps[5]? = some (.int .i64 (k : Int)) := (same_of hsame 5 (by rfl)).trans rfl
          refine g_plain rfl ?_
          exact does_value (w' := W) (v := .int .i64 (k : Int)) (by go_simp) ⟨(), .inr rfl, hS⟩
        · have E0 : a.tmps[0]? = some (.slice (some ⟨b, off, none⟩) n c) := (same_of hsame 0 (by rfl)).trans rfl
          refine g_plain rfl ?_
          exact does_value (w' := W) (v := .slice (some ⟨b, off, none⟩) n c) (by go_simp) ⟨(), .inr rfl, hS⟩
        · have E8 := hval 1 _ 8 rfl rfl (dep_of hdep 1 (by rfl))
          unfold vLaA at E8
          refine g_plain rfl ?_
          exact does_value (w' := W) (v := .int .i64 (n : Int)) (by go_simp) ⟨(), .inr rfl, hS⟩
        · have E7 := hval 0 _ 7 rfl rfl (dep_of hdep 0 (by rfl))
          have E9 := hval 2 _ 9 rfl rfl (dep_of hdep 2 (by rfl))
          unfold vLaA at E7 E9
          refine g_plain rfl ?_
          exact does_value (w' := W) (v := .bool true) (by go_simp) ⟨(), .inr rfl, hS⟩
        · have E10 := hval 3 _ 10 rfl rfl (dep_of hdep 3 (by rfl))
          unfold vLaA at E10
          refine g_plain rfl ?_
          exact does_value (w' := W) (v := .bool true) (by go_simp) ⟨(), .inr rfl, hS⟩
        · have EG := hval 4 _ 11 rfl rfl (dep_of hdep 4 (by rfl))
          have E0 : a.tmps[0]? = some (.slice (some ⟨b, off, none⟩) n c) := (same_of hsame 0 (by rfl)).trans rfl
          unfold vLaA at EG
          refine g_want rfl rfl rfl EG ?_
          exact does_value (w' := W) (v := .slice (some ⟨b, off, none⟩) n c) (by go_simp) ⟨(), .inr rfl, hS⟩
        · have EG := hval 4 _ 11 rfl rfl (dep_of hdep 4 (by rfl))
          have E5 : a.tmps[5]? = some (.int .i64 (k : Int)) := (same_of hsame 5 (by rfl)).trans rfl
          unfold vLaA at EG
          refine g_want rfl rfl rfl EG ?_
          exact does_value (w' := W) (v := .int .i64 (k : Int)) (by go_simp) ⟨(), .inr rfl, hS⟩
        · have EG := hval 4 _ 11 rfl rfl (dep_of hdep 4 (by rfl))
          have E12 := hval 5 _ 12 rfl rfl (dep_of hdep 5 (by rfl))
          have E13 := hval 6 _ 13 rfl rfl (dep_of hdep 6 (by rfl))
          unfold vLaA at EG E12 E13
          refine g_want rfl rfl rfl EG ?_
          exact does_value (w' := W) (v := .pointer (some ⟨b, off + k * 2, none⟩)) (by go_simp) ⟨(), .inr rfl, hS⟩
        · have EG := hval 4 _ 11 rfl rfl (dep_of hdep 4 (by rfl))
          have E14 := hval 7 _ 14 rfl rfl (dep_of hdep 7 (by rfl))
          unfold vLaA at EG E14
          have e1 := cell_keep HC1.out hS
          have e2 := cell_keep HC2.out hS
          refine g_want rfl rfl rfl EG ?_
          exact does_load_dotAt _ rfl b (off + k * 2) (by rw [eval_getD, E14]; rfl) e1 e2 ⟨(), .inr rfl, hS⟩
        · have EG := hval 4 _ 11 rfl rfl (dep_of hdep 4 (by rfl))
          have E3 : a.tmps[3]? = some (.pointer (some ⟨p, 0, none⟩)) := (same_of hsame 3 (by rfl)).trans rfl
          unfold vLaA at EG
          have kp := HPW.out.keep hS
          refine g_want rfl rfl rfl EG ?_
          exact does_load_dotB _ rfl p (by rw [eval_getD, E3]; rfl) kp ⟨(), .inr rfl, hS⟩
        · have EG := hval 4 _ 11 rfl rfl (dep_of hdep 4 (by rfl))
          have E15 := hval 8 _ 15 rfl rfl (dep_of hdep 8 (by rfl))
          have E16 := hval 9 _ 16 rfl rfl (dep_of hdep 9 (by rfl))
          unfold vLaA at EG E15 E16
          refine g_want rfl rfl rfl EG ?_
          refine does_call 90 #[dvv x, dvv d] (by go_simp) ((HL.out W).mono ?_)
          rintro e w' ⟨rfl, hb⟩
          exact ⟨.bool q, rfl, (), .inr rfl, hS.trans (hb.mono hS.size)⟩
        · have E11 := hval 4 _ 11 rfl rfl (dep_of hdep 4 (by rfl))
          have E17 := hval 10 _ 17 rfl rfl (dep_of hdep 10 (by rfl))
          unfold vLaA at E11 E17
          refine g_plain rfl ?_
          exact does_value (w' := W) (v := .bool q) (by go_simp) ⟨(), .inr rfl, hS⟩
      · intro gh W hS
        have HS := hid (HW.out.trans (hS.mono HW.out.size))
        have HCA := hid (cell_keep HC1.out hS)
        have HCB := hid (cell_keep HC2.out hS)
        have HPV := hid (HPW.out.keep hS)
        clear hS
        simp only [putAll, vLaA, Nat.reduceAdd, Nat.zero_add, Act.put, List.setIfInBounds_toArray, List.set_cons_zero, List.set_cons_succ]
        by_cases hkK : k < K
        · have hqt : q = true := by rw [← HQ.out]; exact decide_eq_true (HLT.out k x hkK HX.out)
          subst hqt
          go_wp2_with fail
          go_roundw
          case rel => exact ⟨k + 1, hkK, by go_num, HS⟩
          case measure => simp [intOf]; omega
        · obtain rfl : k = K := by omega
          have hqf : q = false := by rw [← HQ.out]; exact decide_eq_false (HGE.out x HX.out)
          subst hqf
          obtain ⟨q2, hq2⟩ : ∃ q2, decide (x = d) = q2 := ⟨_, rfl⟩
          have HQ2 := hid hq2
          clear hq2 hkK
          go_wp2_with fail
          refine wp_region_invG 47 () (vLaC b off k n c x d q2) (fun _ _ W' => Below W.heap.size W W') (by kernel_rfl) (by kernel_rfl) (by exact Nat.le_refl 47) ?_ ?_ ?_
          · exact (Below.refl _ _).drew
          · intro i o f gh a W hi hf hdep hsame hcl hval hS
            rcases i with _ | _ | _ | _ | _ | _ | _ | _ | _ | _ | _ | _ | i
            all_goals simp only [List.getElem?_cons_succ, List.getElem?_cons_zero, List.getElem?_nil, Option.some.injEq, reduceCtorEq] at hi
            all_goals subst hi
            · have E5 : a.tmps[5]? = some (.int .i64 (k : Int)) := (same_of hsame 5 (by rfl)).trans rfl
              refine g_plain rfl ?_
              exact does_value (w' := W) (v := .int .i64 (k : Int)) (by go_simp) ⟨(), .inr rfl, hS⟩
            · have E0 : a.tmps[0]? = some (.slice (some ⟨b, off, none⟩) n c) := (same_of hsame 0 (by rfl)).trans rfl
              refine g_plain rfl ?_
              exact does_value (w' := W) (v := .slice (some ⟨b, off, none⟩) n c) (by go_simp) ⟨(), .inr rfl, hS⟩
            · have E22 := hval 1 _ 22 rfl rfl (dep_of hdep 1 (by rfl))
              unfold vLaC at E22
              refine g_plain rfl ?_
              exact does_value (w' := W) (v := .int .i64 (n : Int)) (by go_simp) ⟨(), .inr rfl, hS⟩
            · have E21 := hval 0 _ 21 rfl rfl (dep_of hdep 0 (by rfl))
              have E23 := hval 2 _ 23 rfl rfl (dep_of hdep 2 (by rfl))
              unfold vLaC at E21 E23
              refine g_plain rfl ?_
              exact does_value (w' := W) (v := .bool true) (by go_simp) ⟨(), .inr rfl, hS⟩
            · have E24 := hval 3 _ 24 rfl rfl (dep_of hdep 3 (by rfl))
              unfold vLaC at E24
              refine g_plain rfl ?_
              exact does_value (w' := W) (v := .bool true) (by go_simp) ⟨(), .inr rfl, hS⟩
            · have EG := hval 4 _ 25 rfl rfl (dep_of hdep 4 (by rfl))
              have E0 : a.tmps[0]? = some (.slice (some ⟨b, off, none⟩) n c) := (same_of hsame 0 (by rfl)).trans rfl
              unfold vLaC at EG
              refine g_want rfl rfl rfl EG ?_
              exact does_value (w' := W) (v := .slice (some ⟨b, off, none⟩) n c) (by go_simp) ⟨(), .inr rfl, hS⟩
            · have EG := hval 4 _ 25 rfl rfl (dep_of hdep 4 (by rfl))
              have E5 : a.tmps[5]? = some (.int .i64 (k : Int)) := (same_of hsame 5 (by rfl)).trans rfl
              unfold vLaC at EG
              refine g_want rfl rfl rfl EG ?_
              exact does_value (w' := W) (v := .int .i64 (k : Int)) (by go_simp) ⟨(), .inr rfl, hS⟩
            · have EG := hval 4 _ 25 rfl rfl (dep_of hdep 4 (by rfl))
              have E26 := hval 5 _ 26 rfl rfl (dep_of hdep 5 (by rfl))
              have E27 := hval 6 _ 27 rfl rfl (dep_of hdep 6 (by rfl))
              unfold vLaC at EG E26 E27
              refine g_want rfl rfl rfl EG ?_
              exact does_value (w' := W) (v := .pointer (some ⟨b, off + k * 2, none⟩)) (by go_simp) ⟨(), .inr rfl, hS⟩
            · have EG := hval 4 _ 25 rfl rfl (dep_of hdep 4 (by rfl))
              have E28 := hval 7 _ 28 rfl rfl (dep_of hdep 7 (by rfl))
              unfold vLaC at EG E28
              have e1 := cell_keep HCA.out hS
              have e2 := cell_keep HCB.out hS
              refine g_want rfl rfl rfl EG ?_
              exact does_load_dotAt _ rfl b (off + k * 2) (by rw [eval_getD, E28]; rfl) e1 e2 ⟨(), .inr rfl, hS⟩
            · have EG := hval 4 _ 25 rfl rfl (dep_of hdep 4 (by rfl))
              have E3 : a.tmps[3]? = some (.pointer (some ⟨p, 0, none⟩)) := (same_of hsame 3 (by rfl)).trans rfl
              unfold vLaC at EG
              have kp := HPV.out.keep hS
              refine g_want rfl rfl rfl EG ?_
              exact does_load_dotB _ rfl p (by rw [eval_getD, E3]; rfl) kp ⟨(), .inr rfl, hS⟩
            · have EG := hval 4 _ 25 rfl rfl (dep_of hdep 4 (by rfl))
              have E29 := hval 8 _ 29 rfl rfl (dep_of hdep 8 (by rfl))
              have E30 := hval 9 _ 30 rfl rfl (dep_of hdep 9 (by rfl))
              unfold vLaC at EG E29 E30
              refine g_want rfl rfl rfl EG ?_
              exact does_value (w' := W) (v := .bool q2) (by unfold dvv at *; go_simp; rw [← HQ2.out]; by_cases h1 : x.1 = d.1 <;> by_cases h2 : x.2 = d.2 <;> simp [Prod.ext_iff, h1, h2]) ⟨(), .inr rfl, hS⟩
            · have E25 := hval 4 _ 25 rfl rfl (dep_of hdep 4 (by rfl))
              have E31 := hval 10 _ 31 rfl rfl (dep_of hdep 10 (by rfl))
              unfold vLaC at E25 E31
              refine g_plain rfl ?_
              exact does_value (w' := W) (v := .bool q2) (by go_simp) ⟨(), .inr rfl, hS⟩
          · intro gh2 W2 hS
            have HS2 := hid (HS.out.trans (hS.mono HS.out.size))
            clear hS
            simp only [putAll, vLaC, Nat.reduceAdd, Nat.zero_add, Act.put, List.setIfInBounds_toArray, List.set_cons_zero, List.set_cons_succ]
            cases q2 with
            | true =>
              have HE := hid (show laid l d = l from by
                rw [HLA.out, if_pos]
                rw [HX.out]
                exact congrArg some (of_decide_eq_true HQ2.out))
              have HF := hid (show OwnD W2 base (.slice (some ⟨b, off, none⟩) n c) (laid l d).length (laid l d) ∧ Below w.heap.size w W2 from by
                rw [HE.out, HLL.out]
                exact ⟨(HO.out.keep HB1.out).keep HS2.out, HB1.out.trans (HS2.out.mono HB1.out.size)⟩)
              go_wp2_with fail
              go_ret
              exact ⟨_, rfl, HF.out⟩
            | false =>
              have HNE := hid (show ¬ l[k]? = some d from by
                rw [HX.out]; intro e; exact absurd (Option.some.inj e) (of_decide_eq_false HQ2.out))
              have HE := hid (show laid l d = l.take k ++ [d] ++ l.drop k from by
                rw [HLA.out, if_neg (HNE.out), List.append_assoc]; rfl)
              have hcn : n ≤ c := HCC.out
              have hkc1 : (k : Int) ≤ (c : Int) := by omega
              have hkn1 : (k : Int) ≤ (n : Int) := by omega
              have hkc2 : k ≤ c := by omega
              have HPW2 := hid (HP.out.keep HS2.out)
              have hb4 := below_new W2 (.cells #[] 27)
              have HO4 := hid (OwnD.lit W2 w1.heap.size [] #[] 0 rfl rfl HS2.out.size (by omega))
              have HT4 := hid (((HN.out.keep HS2.out).take hKn).keep hb4)
              have HB4 := hid hb4
              have HS4 := hid (size_new W2 (.cells #[] 27))
              have HSS := hid HS2.out.size
              clear hb4
              go_wp2_with (refine wpList_append_dots _ rfl _ _ rfl w1.heap.size _ 0 [] rfl HO4.out _ k _ (l.take k) rfl HT4.out (by omega) (by rw [HS4.out]; have := HSS.out; omega) ?_; intro v3 w3 ho hg _; refine Held.go ?_)
              have HO3 := hid (show OwnD w3 w1.heap.size v3 k (l.take k) from by rw [Nat.zero_add, List.nil_append] at ho; exact ho)
              have HB3 := hid (show Below w1.heap.size w1 w3 from HS2.out.trans ((HB4.out.mono HSS.out).trans (below_app hg HO4.out (by rw [HS4.out]; have := HSS.out; omega))))
              have HP3 := hid (HP.out.keep HB3.out)
              clear ho hg HO4 HT4 HB4 HS4 HPW2
              have hkc : ((n : Int) - (k : Int)) = ((n - k : Nat) : Int) := by omega
              have HD3 := hid (show ∀ W, Below w1.heap.size w3 W → ND W (some ⟨b, off + k * 2, none⟩) (n - k) (l.drop k) from fun W hb => by
                have hd := (HN.out.keep (HB3.out.trans hb)).drop hKn HCC.out
                rw [if_neg (by have := HCC.out; omega)] at hd
                simpa [Addr.add_lit] using hd)
              have HSZ := hid HB3.out.size
              unfold Held
              go_wp2_with fail
              refine wp_region_invG 47 (.pointer none) (vLaE v3 d (some ⟨b, off, none⟩) n c k (some ⟨b, off + k * 2, none⟩)) (LaS w3 w1.heap.size v3 k (n - k) (l.take k) d (l.drop k)) (by kernel_rfl) (by kernel_rfl) (by exact Nat.le_refl 47) ?_ ?_ ?_
              · exact LaS.start HO3.out _
              · intro i o f gh a W hi hf hdep hsame hcl hval hS
                rcases i with _ | _ | _ | _ | _ | _ | _ | _ | _ | i
                all_goals simp only [List.getElem?_cons_succ, List.getElem?_cons_zero, List.getElem?_nil, Option.some.injEq, reduceCtorEq] at hi
                all_goals subst hi
                · have E6 : a.tmps[6]? = some v3 := (same_of hsame 6 (by rfl)).trans rfl
                  refine g_plain rfl ?_
                  exact does_value (w' := W) (v := v3) (by go_simp) ⟨.pointer none, .inr rfl, hS.same 0 _ (by decide) (by decide) (by decide) (by decide)⟩
                · have E3 : a.tmps[3]? = some (.pointer (some ⟨p, 0, none⟩)) := (same_of hsame 3 (by rfl)).trans rfl
                  refine g_plain rfl ?_
                  exact does_load_dotB _ rfl p (by rw [eval_getD, E3]; rfl) (HP3.out.keepB hS.low HP.out.lt) ⟨.pointer none, .inr rfl, hS.same 1 _ (by decide) (by decide) (by decide) (by decide)⟩
                · have E40 := hval 1 _ 40 rfl rfl (dep_of hdep 1 (by rfl))
                  unfold vLaE dvv at E40
                  have n3 := not_yet hcl hf 3 (by rfl)
                  have n7 := not_yet hcl n3 7 (by rfl)
                  have n8 := not_yet hcl n7 8 (by rfl)
                  refine g_plain rfl ?_
                  exact does_value (w' := W.alloc (.cells #[.int .i64 d.1, .int .i64 d.2] 27)) (v := .slice (some ⟨W.heap.size, 0, none⟩) 1 1) (by go_simp) ⟨_, .inr rfl, hS.build n3 n7 n8 HSZ.out⟩
                · have E39 := hval 0 _ 39 rfl rfl (dep_of hdep 0 (by rfl))
                  have E41 := hval 2 _ 41 rfl rfl (dep_of hdep 2 (by rfl))
                  unfold vLaE at E39 E41
                  have n7 := not_yet hcl hf 7 (by rfl)
                  have n8 := not_yet hcl n7 8 (by rfl)
                  refine g_plain rfl ?_
                  obtain ⟨qq, v', W', e, hr, hS'⟩ := hS.app1 (dep_of hdep 2 (by rfl)) hf n7 n8 HSZ.out (by omega) 23
                  rw [e] at E41
                  exact does_append _ _ _ rfl (by rw [eval_getD, E39]; rfl) (by rw [eval_getD, E41]; rfl) hr ⟨v', .inr rfl, hS'⟩
                · have E0 : a.tmps[0]? = some (.slice (some ⟨b, off, none⟩) n c) := (same_of hsame 0 (by rfl)).trans rfl
                  refine g_plain rfl ?_
                  exact does_value (w' := W) (v := .slice (some ⟨b, off, none⟩) n c) (by go_simp) ⟨.pointer none, .inr rfl, hS.same 4 _ (by decide) (by decide) (by decide) (by decide)⟩
                · have E5 : a.tmps[5]? = some (.int .i64 (k : Int)) := (same_of hsame 5 (by rfl)).trans rfl
                  refine g_plain rfl ?_
                  exact does_value (w' := W) (v := .int .i64 (k : Int)) (by go_simp) ⟨.pointer none, .inr rfl, hS.same 5 _ (by decide) (by decide) (by decide) (by decide)⟩
                · have E43 := hval 4 _ 43 rfl rfl (dep_of hdep 4 (by rfl))
                  have E44 := hval 5 _ 44 rfl rfl (dep_of hdep 5 (by rfl))
                  unfold vLaE at E43 E44
                  refine g_plain rfl ?_
                  exact does_value (w' := W) (v := .slice (some ⟨b, off + k * 2, none⟩) (n - k) (c - k)) (by go_simp; omega) ⟨.pointer none, .inr rfl, hS.same 6 _ (by decide) (by decide) (by decide) (by decide)⟩
                · have E42 := hval 3 _ 42 rfl rfl (dep_of hdep 3 (by rfl))
                  have E45 := hval 6 _ 45 rfl rfl (dep_of hdep 6 (by rfl))
                  unfold vLaE at E42 E45
                  have n8 := not_yet hcl hf 8 (by rfl)
                  refine g_plain rfl ?_
                  obtain ⟨v', W', hr, hS'⟩ := hS.app2 (c := c - k) (dep_of hdep 3 (by rfl)) hf n8 HSZ.out (by omega) 23 (HD3.out W hS.low)
                  exact does_append _ _ _ rfl (by rw [eval_getD, E42]; rfl) (by rw [eval_getD, E45]; rfl) hr ⟨v', .inr rfl, hS'⟩
                · have E46 := hval 7 _ 46 rfl rfl (dep_of hdep 7 (by rfl))
                  unfold vLaE at E46
                  refine g_plain rfl ?_
                  exact does_value (w' := W) (v := gh 7) (by go_simp) ⟨gh 7, .inr rfl, hS.last (dep_of hdep 7 (by rfl))⟩
              · intro gh W5 hS
                have HF := hid (show OwnD W5 base (gh 8) (laid l d).length (laid l d) ∧ Below w.heap.size w W5 from by
                  have e : (laid l d).length = k + 1 + (n - k) := by rw [HE.out]; simp only [List.length_append, List.length_take, List.length_drop, List.length_singleton, HLL.out]; omega
                  rw [e, HE.out]
                  exact ⟨(hS.asg rfl).lower (Nat.le_trans HBS.out HB1.out.size), HB1.out.trans ((HB3.out.trans hS.low).mono HB1.out.size)⟩)
                clear hS
                simp only [putAll, vLaE, Nat.reduceAdd, Nat.zero_add, Act.put, List.setIfInBounds_toArray, List.set_cons_zero, List.set_cons_succ]
                generalize gh 8 = v8 at HF ⊢
                generalize gh 7 = v7
                generalize gh 2 = v2
                generalize gh 3 = v33
                go_wp2_with fail
                go_ret
                exact ⟨_, rfl, HF.out⟩
    · obtain rfl : k = K := by omega
      obtain rfl : k = n := by omega
      have hlt' : ¬ (k : Int) < (k : Int) := by omega
      have HNE := hid (show ¬ l[k]? = some d from by
        rw [List.getElem?_eq_none (by rw [HLL.out]; exact Nat.le_refl _)]; intro e; cases e)
      clear hlt HLT HGE
      go_wp2_with fail
      refine wp_region_invG 47 () (vLaB A k c) (fun _ _ W => Below wr.heap.size wr W) (by kernel_rfl) (by kernel_rfl) (by exact Nat.le_refl 47) ?_ ?_ ?_
      · exact (Below.refl _ _).drew
      · intro i o f gh a W hi hf hdep hsame hcl hval hS
        rcases i with _ | _ | _ | _ | _ | _ | _ | _ | _ | _ | _ | _ | i
        all_goals simp only [List.getElem?_cons_succ, List.getElem?_cons_zero, List.getElem?_nil, Option.some.injEq, reduceCtorEq] at hi
        all_goals subst hi
        · have E5 : a.tmps[5]? = some (.int .i64 (k : Int)) := (same_of hsame 5 (by rfl)).trans rfl
          refine g_plain rfl ?_
          exact does_value (w' := W) (v := .int .i64 (k : Int)) (by go_simp) ⟨(), .inr rfl, hS⟩
        · have E0 : a.tmps[0]? = some (.slice A k c) := (same_of hsame 0 (by rfl)).trans rfl
          refine g_plain rfl ?_
          exact does_value (w' := W) (v := .slice A k c) (by go_simp) ⟨(), .inr rfl, hS⟩
        · have E8 := hval 1 _ 8 rfl rfl (dep_of hdep 1 (by rfl))
          unfold vLaB at E8
          refine g_plain rfl ?_
          exact does_value (w' := W) (v := .int .i64 (k : Int)) (by go_simp) ⟨(), .inr rfl, hS⟩
        · have E7 := hval 0 _ 7 rfl rfl (dep_of hdep 0 (by rfl))
          have E9 := hval 2 _ 9 rfl rfl (dep_of hdep 2 (by rfl))
          unfold vLaB at E7 E9
          refine g_plain rfl ?_
          exact does_value (w' := W) (v := .bool false) (by go_simp) ⟨(), .inr rfl, hS⟩
        · have E10 := hval 3 _ 10 rfl rfl (dep_of hdep 3 (by rfl))
          unfold vLaB at E10
          refine g_plain rfl ?_
          exact does_value (w' := W) (v := .bool false) (by go_simp) ⟨(), .inr rfl, hS⟩
        · have EG := hval 4 _ 11 rfl rfl (dep_of hdep 4 (by rfl))
          unfold vLaB at EG
          exact g_skip rfl rfl rfl EG rfl ⟨(), .inr rfl, hS⟩
        · have EG := hval 4 _ 11 rfl rfl (dep_of hdep 4 (by rfl))
          unfold vLaB at EG
          exact g_skip rfl rfl rfl EG rfl ⟨(), .inr rfl, hS⟩
        · have EG := hval 4 _ 11 rfl rfl (dep_of hdep 4 (by rfl))
          unfold vLaB at EG
          exact g_skip rfl rfl rfl EG rfl ⟨(), .inr rfl, hS⟩
        · have EG := hval 4 _ 11 rfl rfl (dep_of hdep 4 (by rfl))
          unfold vLaB at EG
          exact g_skip rfl rfl rfl EG rfl ⟨(), .inr rfl, hS⟩
        · have EG := hval 4 _ 11 rfl rfl (dep_of hdep 4 (by rfl))
          unfold vLaB at EG
          exact g_skip rfl rfl rfl EG rfl ⟨(), .inr rfl, hS⟩
        · have EG := hval 4 _ 11 rfl rfl (dep_of hdep 4 (by rfl))
          unfold vLaB at EG
          exact g_skip rfl rfl rfl EG rfl ⟨(), .inr rfl, hS⟩
        · have E11 := hval 4 _ 11 rfl rfl (dep_of hdep 4 (by rfl))
          have E17 := hval 10 _ 17 rfl rfl (dep_of hdep 10 (by rfl))
          unfold vLaB at E11 E17
          refine g_plain rfl ?_
          exact does_value (w' := W) (v := .bool false) (by go_simp) ⟨(), .inr rfl, hS⟩
      · intro gh W hS
        have HS := hid (HW.out.trans (hS.mono HW.out.size))
        clear hS
        simp only [putAll, vLaB, Nat.reduceAdd, Nat.zero_add, Act.put, List.setIfInBounds_toArray, List.set_cons_zero, List.set_cons_succ]
        go_wp2_with fail
        refine wp_region_invG 47 () (vLaD A k c) (fun _ _ W' => Below W.heap.size W W') (by kernel_rfl) (by kernel_rfl) (by exact Nat.le_refl 47) ?_ ?_ ?_
        · exact (Below.refl _ _).drew
        · intro i o f gh a W hi hf hdep hsame hcl hval hS
          rcases i with _ | _ | _ | _ | _ | _ | _ | _ | _ | _ | _ | _ | i
          all_goals simp only [List.getElem?_cons_succ, List.getElem?_cons_zero, List.getElem?_nil, Option.some.injEq, reduceCtorEq] at hi
          all_goals subst hi
          · have E5 : a.tmps[5]? = some (.int .i64 (k : Int)) := (same_of hsame 5 (by rfl)).trans rfl
            refine g_plain rfl ?_
            exact does_value (w' := W) (v := .int .i64 (k : Int)) (by go_simp) ⟨(), .inr rfl, hS⟩
          · have E0 : a.tmps[0]? = some (.slice A k c) := (same_of hsame 0 (by rfl)).trans rfl
            refine g_plain rfl ?_
            exact does_value (w' := W) (v := .slice A k c) (by go_simp) ⟨(), .inr rfl, hS⟩
          · have E22 := hval 1 _ 22 rfl rfl (dep_of hdep 1 (by rfl))
            unfold vLaD at E22
            refine g_plain rfl ?_
            exact does_value (w' := W) (v := .int .i64 (k : Int)) (by go_simp) ⟨(), .inr rfl, hS⟩
          · have E21 := hval 0 _ 21 rfl rfl (dep_of hdep 0 (by rfl))
            have E23 := hval 2 _ 23 rfl rfl (dep_of hdep 2 (by rfl))
            unfold vLaD at E21 E23
            refine g_plain rfl ?_
            exact does_value (w' := W) (v := .bool false) (by go_simp) ⟨(), .inr rfl, hS⟩
          · have E24 := hval 3 _ 24 rfl rfl (dep_of hdep 3 (by rfl))
            unfold vLaD at E24
            refine g_plain rfl ?_
            exact does_value (w' := W) (v := .bool false) (by go_simp) ⟨(), .inr rfl, hS⟩
          · have EG := hval 4 _ 25 rfl rfl (dep_of hdep 4 (by rfl))
            unfold vLaD at EG
            exact g_skip rfl rfl rfl EG rfl ⟨(), .inr rfl, hS⟩
          · have EG := hval 4 _ 25 rfl rfl (dep_of hdep 4 (by rfl))
            unfold vLaD at EG
            exact g_skip rfl rfl rfl EG rfl ⟨(), .inr rfl, hS⟩
          · have EG := hval 4 _ 25 rfl rfl (dep_of hdep 4 (by rfl))
            unfold vLaD at EG
            exact g_skip rfl rfl rfl EG rfl ⟨(), .inr rfl, hS⟩
          · have EG := hval 4 _ 25 rfl rfl (dep_of hdep 4 (by rfl))
            unfold vLaD at EG
            exact g_skip rfl rfl rfl EG rfl ⟨(), .inr rfl, hS⟩
          · have EG := hval 4 _ 25 rfl rfl (dep_of hdep 4 (by rfl))
            unfold vLaD at EG
            exact g_skip rfl rfl rfl EG rfl ⟨(), .inr rfl, hS⟩
          · have EG := hval 4 _ 25 rfl rfl (dep_of hdep 4 (by rfl))
            unfold vLaD at EG
            exact g_skip rfl rfl rfl EG rfl ⟨(), .inr rfl, hS⟩
          · have E25 := hval 4 _ 25 rfl rfl (dep_of hdep 4 (by rfl))
            have E31 := hval 10 _ 31 rfl rfl (dep_of hdep 10 (by rfl))
            unfold vLaD at E25 E31
            refine g_plain rfl ?_
            exact does_value (w' := W) (v := .bool false) (by go_simp) ⟨(), .inr rfl, hS⟩
        · intro gh2 W2 hS
          have HS2 := hid (HS.out.trans (hS.mono HS.out.size))
          clear hS
          simp only [putAll, vLaD, Nat.reduceAdd, Nat.zero_add, Act.put, List.setIfInBounds_toArray, List.set_cons_zero, List.set_cons_succ]
          have HE := hid (show laid l d = l.take k ++ [d] ++ l.drop k from by
            rw [HLA.out, if_neg (HNE.out), List.append_assoc]; rfl)
          have hcn : k ≤ c := HCC.out
          have hkc1 : (k : Int) ≤ (c : Int) := by omega
          have hkn1 : (k : Int) ≤ (k : Int) := by omega
          have hkc2 : k ≤ c := by omega
          have HPW2 := hid (HP.out.keep HS2.out)
          have hb4 := below_new W2 (.cells #[] 27)
          have HO4 := hid (OwnD.lit W2 w1.heap.size [] #[] 0 rfl rfl HS2.out.size (by omega))
          have HT4 := hid (((HN.out.keep HS2.out).take hKn).keep hb4)
          have HB4 := hid hb4
          have HS4 := hid (size_new W2 (.cells #[] 27))
          have HSS := hid HS2.out.size
          clear hb4
          go_wp2_with (refine wpList_append_dots _ rfl _ _ rfl w1.heap.size _ 0 [] rfl HO4.out _ k _ (l.take k) rfl HT4.out (by omega) (by rw [HS4.out]; have := HSS.out; omega) ?_; intro v3 w3 ho hg _; refine Held.go ?_)
          have HO3 := hid (show OwnD w3 w1.heap.size v3 k (l.take k) from by rw [Nat.zero_add, List.nil_append] at ho; exact ho)
          have HB3 := hid (show Below w1.heap.size w1 w3 from HS2.out.trans ((HB4.out.mono HSS.out).trans (below_app hg HO4.out (by rw [HS4.out]; have := HSS.out; omega))))
          have HP3 := hid (HP.out.keep HB3.out)
          clear ho hg HO4 HT4 HB4 HS4 HPW2
          have HD3 := hid (show ∀ W, Below w1.heap.size w3 W → ND W (if c = k then A else A.map (·.add (k * 2))) (k - k) (l.drop k) from fun W _ => ⟨by rw [List.length_drop, HLL.out], fun h => absurd h (by omega)⟩)
          have HSZ := hid HB3.out.size
          unfold Held
          go_wp2_with fail
          refine wp_region_invG 47 (.pointer none) (vLaE v3 d A k c k (if c = k then A else A.map (·.add (k * 2)))) (LaS w3 w1.heap.size v3 k (k - k) (l.take k) d (l.drop k)) (by kernel_rfl) (by kernel_rfl) (by exact Nat.le_refl 47) ?_ ?_ ?_
          · exact LaS.start HO3.out _
          · intro i o f gh a W hi hf hdep hsame hcl hval hS
            rcases i with _ | _ | _ | _ | _ | _ | _ | _ | _ | i
            all_goals simp only [List.getElem?_cons_succ, List.getElem?_cons_zero, List.getElem?_nil, Option.some.injEq, reduceCtorEq] at hi
            all_goals subst hi
            · have E6 : a.tmps[6]? = some v3 := (same_of hsame 6 (by rfl)).trans rfl
              refine g_plain rfl ?_
              exact does_value (w' := W) (v := v3) (by go_simp) ⟨.pointer none, .inr rfl, hS.same 0 _ (by decide) (by decide) (by decide) (by decide)⟩
            · have E3 : a.tmps[3]? = some (.pointer (some ⟨p, 0, none⟩)) := (same_of hsame 3 (by rfl)).trans rfl
              refine g_plain rfl ?_
              exact does_load_dotB _ rfl p (by rw [eval_getD, E3]; rfl) (HP3.out.keepB hS.low HP.out.lt) ⟨.pointer none, .inr rfl, hS.same 1 _ (by decide) (by decide) (by decide) (by decide)⟩
            · have E40 := hval 1 _ 40 rfl rfl (dep_of hdep 1 (by rfl))
              unfold vLaE dvv at E40
              have n3 := not_yet hcl hf 3 (by rfl)
              have n7 := not_yet hcl n3 7 (by rfl)
              have n8 := not_yet hcl n7 8 (by rfl)
              refine g_plain rfl ?_
              exact does_value (w' := W.alloc (.cells #[.int .i64 d.1, .int .i64 d.2] 27)) (v := .slice (some ⟨W.heap.size, 0, none⟩) 1 1) (by go_simp) ⟨_, .inr rfl, hS.build n3 n7 n8 HSZ.out⟩
            · have E39 := hval 0 _ 39 rfl rfl (dep_of hdep 0 (by rfl))
              have E41 := hval 2 _ 41 rfl rfl (dep_of hdep 2 (by rfl))
              unfold vLaE at E39 E41
              have n7 := not_yet hcl hf 7 (by rfl)
              have n8 := not_yet hcl n7 8 (by rfl)
              refine g_plain rfl ?_
              obtain ⟨qq, v', W', e, hr, hS'⟩ := hS.app1 (dep_of hdep 2 (by rfl)) hf n7 n8 HSZ.out (by omega) 23
              rw [e] at E41
              exact does_append _ _ _ rfl (by rw [eval_getD, E39]; rfl) (by rw [eval_getD, E41]; rfl) hr ⟨v', .inr rfl, hS'⟩
            · have E0 : a.tmps[0]? = some (.slice A k c) := (same_of hsame 0 (by rfl)).trans rfl
              refine g_plain rfl ?_
              exact does_value (w' := W) (v := .slice A k c) (by go_simp) ⟨.pointer none, .inr rfl, hS.same 4 _ (by decide) (by decide) (by decide) (by decide)⟩
            · have E5 : a.tmps[5]? = some (.int .i64 (k : Int)) := (same_of hsame 5 (by rfl)).trans rfl
              refine g_plain rfl ?_
              exact does_value (w' := W) (v := .int .i64 (k : Int)) (by go_simp) ⟨.pointer none, .inr rfl, hS.same 5 _ (by decide) (by decide) (by decide) (by decide)⟩
            · have E43 := hval 4 _ 43 rfl rfl (dep_of hdep 4 (by rfl))
              have E44 := hval 5 _ 44 rfl rfl (dep_of hdep 5 (by rfl))
              unfold vLaE at E43 E44
              refine g_plain rfl ?_
              exact does_value (w' := W) (v := .slice (if c = k then A else A.map (·.add (k * 2))) (k - k) (c - k)) (by go_simp) ⟨.pointer none, .inr rfl, hS.same 6 _ (by decide) (by decide) (by decide) (by decide)⟩
            · have E42 := hval 3 _ 42 rfl rfl (dep_of hdep 3 (by rfl))
              have E45 := hval 6 _ 45 rfl rfl (dep_of hdep 6 (by rfl))
              unfold vLaE at E42 E45
              have n8 := not_yet hcl hf 8 (by rfl)
              refine g_plain rfl ?_
              obtain ⟨v', W', hr, hS'⟩ := hS.app2 (c := c - k) (dep_of hdep 3 (by rfl)) hf n8 HSZ.out (by omega) 23 (HD3.out W hS.low)
              exact does_append _ _ _ rfl (by rw [eval_getD, E42]; rfl) (by rw [eval_getD, E45]; rfl) hr ⟨v', .inr rfl, hS'⟩
            · have E46 := hval 7 _ 46 rfl rfl (dep_of hdep 7 (by rfl))
              unfold vLaE at E46
              refine g_plain rfl ?_
              exact does_value (w' := W) (v := gh 7) (by go_simp) ⟨gh 7, .inr rfl, hS.last (dep_of hdep 7 (by rfl))⟩
          · intro gh W5 hS
            have HF := hid (show OwnD W5 base (gh 8) (laid l d).length (laid l d) ∧ Below w.heap.size w W5 from by
              have e : (laid l d).length = k + 1 + (k - k) := by rw [HE.out]; simp only [List.length_append, List.length_take, List.length_drop, List.length_singleton, HLL.out]; omega
              rw [e, HE.out]
              exact ⟨(hS.asg rfl).lower (Nat.le_trans HBS.out HB1.out.size), HB1.out.trans ((HB3.out.trans hS.low).mono HB1.out.size)⟩)
            clear hS
            simp only [putAll, vLaE, Nat.reduceAdd, Nat.zero_add, Act.put, List.setIfInBounds_toArray, List.set_cons_zero, List.set_cons_succ]
            generalize (if c = k then A else A.map (·.add (k * 2))) = A5
            generalize gh 8 = v8 at HF ⊢
            generalize gh 7 = v7
            generalize gh 2 = v2
            generalize gh 3 = v33
            go_wp2_with fail
            go_ret
            exact ⟨_, rfl, HF.out⟩
end Go.Proofs.Ythjflgnoeenenaa
