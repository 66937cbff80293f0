/- A drawn region whose operations only add to the world, each leaving a fact on its value; structs and slices that are built of several parts. -/
import Derived.Test.YtljnpaikjljmbaaMdKnown
import Derived.Test.YtljnpaikjljmbaaMdConc
namespace Go.Proofs.Ytljnpaikjljmbaa
open Go.RowKit

/-- what the operations that are done have left -/
structure GrS (n : Nat) (w0 : World) (P : Nat → Value → World → Prop) (f : Nat → Bool) (gh : Nat → Value) (W : World) : Prop where
  bel : Below w0.heap.size w0 W
  at_ : ∀ i, i < n → f i = true → P i (gh i) W
section
variable {n : Nat} {w0 W W' : World} {P : Nat → Value → World → Prop} {f : Nat → Bool} {gh : Nat → Value}
theorem GrS.start (gh : Nat → Value) : GrS n w0 P (fun j => decide (n ≤ j)) gh w0.drew := ⟨(Below.refl _ _).drew, fun i hi h => by have := of_decide_eq_true h; omega⟩
theorem GrS.step (h : GrS n w0 P f gh W) (hst : ∀ i v W W', Below W.heap.size W W' → P i v W → P i v W') (hb : Below W.heap.size W W') (i : Nat) (k : Value) (hp : P i k W') : GrS n w0 P (upd f i) (updN gh i k) W' :=
  ⟨h.bel.trans (hb.mono h.bel.size), fun j hj hf => by
    by_cases e : j = i
    · subst e; rw [apN_eq]; exact hp
    · rw [ap_ne e] at hf; rw [apN_ne e]; exact hst _ _ _ _ hb (h.at_ j hj hf)⟩
end
section
variable {P : Program} {ops : Array Oper} {rest : List Oper} {o : Oper} {a : Act} {w w' : World} {Q : Exit → Act → World → Prop}
theorem wpList_b0 (hgd : o.guard = none) (t : TypeId)   (ho : o.op = .build t #[])  (v : Value) (hr : (Instr.build t #[]).run P w = .ok v w') (h : wpList P ops Q rest (a.put o.dst v) w') : wpList P ops Q (o :: rest) a w := by
  refine wpList_plain hgd fun K hK => ?_
  unfold Oper.wp execOp
  simp only [ho, List.map_toArray, List.map_nil, Sem.run_bind, Sem.run_pure, Result.andThen_ok, hr]
  exact hK _ _ h
theorem wpList_b2 (hgd : o.guard = none) (t : TypeId)  (k0 : Nat) (x0 : Operand) (k1 : Nat) (x1 : Operand) (ho : o.op = .build t #[(k0, x0), (k1, x1)]) (u0 : Value) (e0 : a.eval x0 = u0) (u1 : Value) (e1 : a.eval x1 = u1) (v : Value) (hr : (Instr.build t #[(k0, u0), (k1, u1)]).run P w = .ok v w') (h : wpList P ops Q rest (a.put o.dst v) w') : wpList P ops Q (o :: rest) a w := by
  refine wpList_plain hgd fun K hK => ?_
  unfold Oper.wp execOp
  simp only [ho, List.map_toArray, List.map_cons, List.map_nil, e0, e1, Sem.run_bind, Sem.run_pure, Result.andThen_ok, hr]
  exact hK _ _ h
theorem wpList_b3 (hgd : o.guard = none) (t : TypeId)  (k0 : Nat) (x0 : Operand) (k1 : Nat) (x1 : Operand) (k2 : Nat) (x2 : Operand) (ho : o.op = .build t #[(k0, x0), (k1, x1), (k2, x2)]) (u0 : Value) (e0 : a.eval x0 = u0) (u1 : Value) (e1 : a.eval x1 = u1) (u2 : Value) (e2 : a.eval x2 = u2) (v : Value) (hr : (Instr.build t #[(k0, u0), (k1, u1), (k2, u2)]).run P w = .ok v w') (h : wpList P ops Q rest (a.put o.dst v) w') : wpList P ops Q (o :: rest) a w := by
  refine wpList_plain hgd fun K hK => ?_
  unfold Oper.wp execOp
  simp only [ho, List.map_toArray, List.map_cons, List.map_nil, e0, e1, e2, Sem.run_bind, Sem.run_pure, Result.andThen_ok, hr]
  exact hK _ _ h
theorem wpList_bs2 (hgd : o.guard = none) (t : TypeId) (n : Nat) (k0 : Nat) (x0 : Operand) (k1 : Nat) (x1 : Operand) (ho : o.op = .buildSlice t n #[(k0, x0), (k1, x1)]) (u0 : Value) (e0 : a.eval x0 = u0) (u1 : Value) (e1 : a.eval x1 = u1) (v : Value) (hr : (Instr.buildSlice t n #[(k0, u0), (k1, u1)]).run P w = .ok v w') (h : wpList P ops Q rest (a.put o.dst v) w') : wpList P ops Q (o :: rest) a w := by
  refine wpList_plain hgd fun K hK => ?_
  unfold Oper.wp execOp
  simp only [ho, List.map_toArray, List.map_cons, List.map_nil, e0, e1, Sem.run_bind, Sem.run_pure, Result.andThen_ok, hr]
  exact hK _ _ h
theorem does_build {T : Value → World → Prop} (t : TypeId) (parts : Array (Nat × Operand)) (ho : o.op = .build t parts) {ps : Array (Nat × Value)} {v : Value} (hp : parts.map (fun x => (x.1, a.eval x.2)) = ps) (hr : (Instr.build t ps).run P w = .ok v w) (h : T v w) : OpDoes P o a w T := fun K Q hK => by
  unfold Oper.wp execOp
  simp only [ho]
  have : (parts.map fun (i, x) => (i, a.eval x)) = ps := hp
  rw [this]
  simp only [Sem.run_bind, hr, Result.andThen_ok]
  exact hK _ _ h
theorem does_bs {T : Value → World → Prop} (t : TypeId) (n : Nat) (parts : Array (Nat × Operand)) (ho : o.op = .buildSlice t n parts) {ps : Array (Nat × Value)} {v : Value} (hp : parts.map (fun x => (x.1, a.eval x.2)) = ps) (hr : (Instr.buildSlice t n ps).run P w = .ok v w') (h : T v w') : OpDoes P o a w T := fun K Q hK => by
  unfold Oper.wp execOp
  simp only [ho]
  have : (parts.map fun (i, x) => (i, a.eval x)) = ps := hp
  rw [this]
  simp only [Sem.run_bind, hr, Result.andThen_ok]
  exact hK _ _ h
end
theorem does_mk {P : Program} {o : Oper} {a : Act} {w w' : World} {T : Value → World → Prop} (t : TypeId) (l c : Value) (ho : o.op = .makeSlice t (.const l) (.const c)) {v : Value} (hr : (Instr.makeSlice t l c).run P w = .ok v w') (h : T v w') : OpDoes P o a w T := fun K Q hK => by
  unfold Oper.wp execOp
  simp only [ho, Act.eval, Sem.run_bind, hr, Result.andThen_ok]
  exact hK _ _ h
def dA : DD := ⟨2, zeroB 32, 1, []⟩
def dB : DD := ⟨2, zeroB 32, 2, []⟩
def dC : DD := ⟨1, zeroB 32, 0, []⟩
def dO : DD := ⟨0, zeroB 32, -1, []⟩
theorem run_bA (W : World) : (Instr.build 25 #[(0, .int .i64 2), (2, .int .i64 1)]).run Try.prog W = .ok (.agg (dcs dA).toArray) W := by kernel_rfl
theorem run_bB (W : World) : (Instr.build 25 #[(0, .int .i64 2), (2, .int .i64 2)]).run Try.prog W = .ok (.agg (dcs dB).toArray) W := by kernel_rfl
theorem run_bO (W : World) : (Instr.build 25 #[(2, .int .i64 (-1))]).run Try.prog W = .ok (.agg (dcs dO).toArray) W := by kernel_rfl
theorem run_b0 (W : World) : (Instr.build 25 #[]).run Try.prog W = .ok (.agg (dcs zeroD).toArray) W := by kernel_rfl
theorem run_bs2 (W : World) : (Instr.buildSlice 26 2 #[(0, .agg (dcs dA).toArray), (1, .agg (dcs dB).toArray)]).run Try.prog W = .ok (.slice (some ⟨W.heap.size, 0, none⟩) 2 2) (W.alloc (.cells (dcs dA ++ dcs dB).toArray 25)) := by kernel_rfl
theorem run_bs3 (W : World) : (Instr.buildSlice 26 3 #[(0, .agg (dcs dC).toArray), (1, .agg (dcs dA).toArray), (2, .agg (dcs dB).toArray)]).run Try.prog W = .ok (.slice (some ⟨W.heap.size, 0, none⟩) 3 3) (W.alloc (.cells (dcs dC ++ (dcs dA ++ dcs dB)).toArray 25)) := by kernel_rfl
theorem run_bImg (q : Nat) (W : World) : (Instr.build 28 #[(0, .int .i64 3), (2, .agg (dcs dC).toArray), (3, .slice (some ⟨q, 0, none⟩) 2 2)]).run Try.prog W = .ok (.agg (mcs ⟨3, [], dC, [dA, dB], []⟩ (.slice (some ⟨q, 0, none⟩) 2 2) nilV).toArray) W := by kernel_rfl
theorem run_bOdd (W : World) : (Instr.build 28 #[(0, .int .i64 3), (2, .agg (dcs dO).toArray)]).run Try.prog W = .ok (.agg (mcs ⟨3, [], dO, [], []⟩ nilV nilV).toArray) W := by kernel_rfl
theorem run_bSub (q : Nat) (W : World) : (Instr.build 28 #[(0, .int .i64 3), (4, .slice (some ⟨q, 0, none⟩) 1 1)]).run Try.prog W = .ok (.agg (mcs ⟨3, [], zeroD, [], [zeroD]⟩ nilV (.slice (some ⟨q, 0, none⟩) 1 1)).toArray) W := by kernel_rfl
theorem run_bNine (q : Nat) (W : World) : (Instr.build 28 #[(0, .int .i64 4), (4, .slice (some ⟨q, 0, none⟩) 9 9)]).run Try.prog W = .ok (.agg (mcs ⟨4, [], zeroD, [], List.replicate 9 zeroD⟩ nilV (.slice (some ⟨q, 0, none⟩) 9 9)).toArray) W := by kernel_rfl
theorem run_mk9 (W : World) : (Instr.makeSlice 26 (.int .i64 9) (.int .i64 9)).run Try.prog W = .ok (.slice (some ⟨W.heap.size, 0, none⟩) 9 9) (W.alloc (.cells ((List.replicate 9 zeroD).flatMap dcs).toArray 25)) := by kernel_rfl
end Go.Proofs.Ytljnpaikjljmbaa
