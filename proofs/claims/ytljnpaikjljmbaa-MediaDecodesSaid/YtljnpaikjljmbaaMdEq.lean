/- Two descriptions side by side. -/
import Derived.Test.YtljnpaikjljmbaaMdDescs
import Derived.Laws.StructEq
namespace Go.Proofs.Ytljnpaikjljmbaa
open Go.RowKit

def eqD (a b : DD) : Bool := a.m == b.m && (a.id == b.id && (a.s == b.s && a.p == b.p))
theorem eqD_iff {a b : DD} : eqD a b = true ↔ a = b := by
  obtain ⟨a1, a2, a3, a4⟩ := a
  obtain ⟨b1, b2, b3, b4⟩ := b
  simp [eqD]
theorem eqD_self (a : DD) : eqD a a = true := eqD_iff.2 rfl
theorem four_map {α β : Type} {g : α → β} {l : List α} {a b c d : β} (h : l.map g = [a, b, c, d]) : ∃ f0 f1 f2 f3, l = [f0, f1, f2, f3] ∧ g f0 = a ∧ g f1 = b ∧ g f2 = c ∧ g f3 = d := by
  match l, h with
  | [f0, f1, f2, f3], h => simp at h; exact ⟨f0, f1, f2, f3, rfl, h⟩
theorem run_part_at {P : Program} {t : TypeId} {cs : Array Value} {off : Nat} {v : Value} {w : World} {d : TypeDesc} (hu : P.underlying t = some d) (hd : (match d with | .struct _ => true | .array _ _ => true | _ => false) = false) (hv : cs[off]? = some v) : (Go.part t cs off).run P w = .ok v w := by
  have hagg : (isAgg t).run P w = .ok false w := by
    unfold isAgg
    rw [Sem.run_bind, run_underlying hu w]
    cases d <;> simp_all
  simp [Go.part, Sem.run_bind, hagg, hv]
theorem run_part_agg {P : Program} {t : TypeId} {cs : Array Value} {off n : Nat} {w : World} {d : TypeDesc} (hu : P.underlying t = some d) (hd : (match d with | .struct _ => true | .array _ _ => true | _ => false) = true) (hi : (P.info? t).map (·.size) = some n) : (Go.part t cs off).run P w = .ok (.agg (cs.extract off (off + n))) w := by
  have hagg : (isAgg t).run P w = .ok true w := by
    unfold isAgg
    rw [Sem.run_bind, run_underlying hu w]
    cases d <;> simp_all
  cases hq : P.info? t with
  | none => simp [hq] at hi
  | some i =>
    have hs : i.size = n := by simpa [hq] using hi
    simp [Go.part, Sem.run_bind, hagg, sizeOf, typeInfo, hq, hs]
theorem run_equal_arr' {P : Program} (d : Nat) (t e : TypeId) (n : Nat) (ht : P.underlying t = some (.array n e)) (he : P.underlying e = some (.int .u8)) (hsz : (P.info? e).map (·.size) = some 1)
    (xs ys : List UInt8) (hx : xs.length = n) (hy : ys.length = n) (w : World) :
    (Op.equalIn (d + 2) t (.agg (xs.map bv).toArray) (.agg (ys.map bv).toArray)).run P w = .ok (xs == ys) w := by
  have hs : ∀ w, (sizeOf e).run P w = .ok 1 w := fun w => by
    cases hq : P.info? e with
    | none => simp [hq] at hsz
    | some i => simp [hq] at hsz; simp [sizeOf, typeInfo, hq, hsz]
  exact run_equalIn_bytes (P := P) w d t e n ht he hs xs ys hx hy
theorem ext_id {d : DD} (h : d.id.length = 32) : (dcs d).toArray.extract 1 (1 + 32) = (d.id.map bv).toArray := by
  simp [dcs, h]
theorem desc_fields : (Try.prog.fieldsOf 25).toList.map (fun f => (f.name, f.type, f.offset)) = [("Media", 3, 0), ("ID", 23, 1), ("Size", 3, 33), ("Platform", 9, 34)] := by kernel_rfl
theorem run_eq_desc (a b : DD) (ha : a.id.length = 32) (hb : b.id.length = 32) (w : World) : (Op.equalIn 10000 25 (.agg (dcs a).toArray) (.agg (dcs b).toArray)).run Try.prog w = .ok (eqD a b) w := by
  rw [run_equalIn_struct w 9999 25 _ _ (by kernel_rfl) (by kernel_rfl)]
  obtain ⟨f0, f1, f2, f3, hl, h0, h1, h2, h3⟩ := four_map desc_fields
  simp only [Prod.mk.injEq] at h0 h1 h2 h3
  obtain ⟨n0, t0, o0⟩ := h0
  obtain ⟨n1, t1, o1⟩ := h1
  obtain ⟨n2, t2, o2⟩ := h2
  obtain ⟨n3, t3, o3⟩ := h3
  have hI := run_equal_arr' (P := Try.prog) 9997 23 5 32 Try.underlying23 Try.underlying5 (by kernel_rfl) a.id b.id ha hb
  have hpa : ∀ w, (Go.part 23 (dcs a).toArray 1).run Try.prog w = .ok (.agg (a.id.map bv).toArray) w := fun w => by rw [run_part_agg (n := 32) Try.underlying23 rfl (by kernel_rfl), ext_id ha]
  have hpb : ∀ w, (Go.part 23 (dcs b).toArray 1).run Try.prog w = .ok (.agg (b.id.map bv).toArray) w := fun w => by rw [run_part_agg (n := 32) Try.underlying23 rfl (by kernel_rfl), ext_id hb]
  rw [hl]
  have pa0 : ∀ w, (Go.part 3 (dcs a).toArray 0).run Try.prog w = .ok (.int .i64 a.m) w := fun w => run_part_at Try.underlying3 rfl (List.getElem?_toArray.trans (dcs_0 a))
  have pb0 : ∀ w, (Go.part 3 (dcs b).toArray 0).run Try.prog w = .ok (.int .i64 b.m) w := fun w => run_part_at Try.underlying3 rfl (List.getElem?_toArray.trans (dcs_0 b))
  have pa2 : ∀ w, (Go.part 3 (dcs a).toArray 33).run Try.prog w = .ok (.int .i64 a.s) w := fun w => run_part_at Try.underlying3 rfl (List.getElem?_toArray.trans (dcs_33 ha))
  have pb2 : ∀ w, (Go.part 3 (dcs b).toArray 33).run Try.prog w = .ok (.int .i64 b.s) w := fun w => run_part_at Try.underlying3 rfl (List.getElem?_toArray.trans (dcs_33 hb))
  have pa3 : ∀ w, (Go.part 9 (dcs a).toArray 34).run Try.prog w = .ok (.string (strB a.p)) w := fun w => run_part_at Try.underlying9 rfl (List.getElem?_toArray.trans (dcs_34 ha))
  have pb3 : ∀ w, (Go.part 9 (dcs b).toArray 34).run Try.prog w = .ok (.string (strB b.p)) w := fun w => run_part_at Try.underlying9 rfl (List.getElem?_toArray.trans (dcs_34 hb))
  have ei : ∀ (x y : Int) w, (Op.equalIn 9999 3 (.int .i64 x) (.int .i64 y)).run Try.prog w = .ok (x == y) w := fun x y w => run_equalIn_int w 9998 3 .i64 .i64 x y Try.underlying3
  have es : ∀ (x y : ByteArray) w, (Op.equalIn 9999 9 (.string x) (.string y)).run Try.prog w = .ok (x.toList == y.toList) w := fun x y w => run_equalIn_string w 9998 9 x y Try.underlying9
  have ed : ∀ w, (Op.equalIn 9999 23 (.agg (a.id.map bv).toArray) (.agg (b.id.map bv).toArray)).run Try.prog w = .ok (a.id == b.id) w := hI
  unfold eqD
  have q0 : ("Media" = "_") = False := by simp
  have q1 : ("ID" = "_") = False := by simp
  have q2 : ("Size" = "_") = False := by simp
  have q3 : ("Platform" = "_") = False := by simp
  simp only [Op.eqFields, n0, n1, n2, n3, t0, t1, t2, t3, o0, o1, o2, o3, ne_eq, q0, q1, q2, q3, not_false_eq_true, if_true, Sem.run_bind, pa0, pb0, Result.andThen_ok, ei]
  cases a.m == b.m
  · simp
  simp only [Bool.not_true, Bool.false_eq_true, if_false, Sem.run_bind, hpa, hpb, Result.andThen_ok, ed]
  cases a.id == b.id
  · simp
  simp only [Bool.not_true, Bool.false_eq_true, if_false, Sem.run_bind, pa2, pb2, Result.andThen_ok, ei]
  cases a.s == b.s
  · simp
  simp only [Bool.not_true, Bool.false_eq_true, if_false, Sem.run_bind, pa3, pb3, Result.andThen_ok, es, strB_eq]
  cases a.p == b.p <;> simp
section
variable {P : Program} {ops : Array Oper} {rest : List Oper} {o : Oper} {a : Act} {w : World} {Q : Exit → Act → World → Prop}
theorem run_eql_op {ρ : Operand → Value} (t : TypeId) (x y : Operand) (rt : TypeId) (ho : o.op = .binOp .eql t x y rt) (cs1 cs2 : Array Value) (hx : ρ x = .agg cs1) (hy : ρ y = .agg cs2) (hm : P.eqGuardType P.depth t = false) {b : Bool} (hq : (Op.equalIn 10000 t (.agg cs1) (.agg cs2)).run P w = .ok b w) : (execOp ρ o).run P w = .ok (.value (.bool b)) w := by
  unfold execOp
  simp only [ho, hx, hy, Sem.run_bind, run_eqGuard_agg w .eql t x y cs1 cs2 hm, run_eql_struct, hq, Result.andThen_ok, Sem.run_pure]
/-- an operation that is wanted, whose value is known -/
theorem wpList_val_g (hgd : Region.wanted o (yielded ops a.tmps) = true) (v : Value) (hr : (execOp a.eval o).run P w = .ok (.value v) w) (h : wpList P ops Q rest (a.put o.dst v) w) : wpList P ops Q (o :: rest) a w := by
  refine wpList_step fun K hK => ?_
  rw [if_pos hgd]
  unfold Oper.wp
  simp only [hr]
  exact hK _ _ h
theorem wpList_eql_agg (hg : o.guard = none) (t : TypeId) (x y : Operand) (rt : TypeId) (ho : o.op = .binOp .eql t x y rt) (cs1 cs2 : Array Value) (hx : a.eval x = .agg cs1) (hy : a.eval y = .agg cs2) (hm : P.eqGuardType P.depth t = false) {b : Bool} (hq : (Op.equalIn 10000 t (.agg cs1) (.agg cs2)).run P w = .ok b w) (h : wpList P ops Q rest (a.put o.dst (.bool b)) w) : wpList P ops Q (o :: rest) a w :=
  wpList_plain hg fun K hK => by
    have := run_eql_op (P := P) (w := w) (ρ := a.eval) t x y rt ho cs1 cs2 hx hy hm hq
    unfold Oper.wp
    simp only [this]
    exact hK _ _ h
end
end Go.Proofs.Ytljnpaikjljmbaa
