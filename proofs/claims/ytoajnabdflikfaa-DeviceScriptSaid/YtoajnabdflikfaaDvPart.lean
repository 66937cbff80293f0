/- A part of a block: the cells between what stands ahead and what stands behind. Plain lemmas over any program. -/
import Derived.Test.YtoajnabdflikfaaBlk
import Derived.Test.YtoajnabdflikfaaWrMem
import Derived.Laws.CopyOwn
namespace Go.Proofs.Ytoajnabdflikfaa
open Go.RowKit

/-- the cells of a block in three parts -/
def part (pre mid post : List Value) : Array Value := (pre ++ mid ++ post).toArray
theorem part_size (pre mid post : List Value) : (part pre mid post).size = pre.length + mid.length + post.length := by simp [part]; omega
theorem part_at {pre mid post : List Value} {i : Nat} {v : Value} (h : mid[i]? = some v) : (part pre mid post)[pre.length + i]? = some v := by
  have hl : i < mid.length := (List.getElem?_eq_some_iff.1 h).1
  simp only [part, List.getElem?_toArray]
  rw [List.append_assoc, List.getElem?_append_right (by omega), Nat.add_sub_cancel_left, List.getElem?_append_left hl, h]
theorem part_set (pre mid post : List Value) (i : Nat) (v : Value) (h : i < mid.length) : (part pre mid post).setIfInBounds (pre.length + i) v = part pre (mid.set i v) post := by
  simp only [part, List.setIfInBounds_toArray]
  rw [List.append_assoc, List.set_append_right _ _ (by omega), Nat.add_sub_cancel_left, List.set_append_left _ _ h, List.append_assoc]
theorem part_left (pre a b post : List Value) : part pre (a ++ b) post = part pre a (b ++ post) := by simp [part]
theorem part_right (pre a b post : List Value) : part pre (a ++ b) post = part (pre ++ a) b post := by simp [part]
theorem part_whole (mid : List Value) : part [] mid [] = mid.toArray := by simp [part]

section
variable {P : Program} {ops : Array Oper} {rest : List Oper} {o : Oper} {a : Act} {w : World} {Q : Exit → Act → World → Prop}
theorem part_load {g : Nat} {t : TypeId} {pre mid post : List Value} (hb : Blk w g t (part pre mid post)) (ty : TypeId) {off : Nat} (ho : pre.length = off)
    {d : TypeDesc} (hu : P.underlying ty = some d) (hd : (match d with | .struct _ => true | .array _ _ => true | _ => false) = true) (hi : (P.info? ty).map (·.size) = some mid.length) :
    (loadVar ty ⟨g, off, none⟩).run P w = .ok (.agg mid.toArray) w := by
  subst ho
  have hl := run_loadCells_list (P := P) w ⟨g, pre.length, none⟩ mid (fun j v hv => by
    rw [Addr.add_lit]; exact hb.cell _ (part_at hv))
  cases hq : P.info? ty with
  | none => simp [hq] at hi
  | some i =>
    have hs : i.size = mid.length := by simpa [hq] using hi
    have hagg : (isAgg ty).run P w = .ok true w := by
      unfold isAgg
      rw [Sem.run_bind, run_underlying hu w]
      cases d <;> simp_all
    simp [loadVar, Sem.run_bind, hagg, sizeOf, typeInfo, hq, hs, hl]
theorem wpList_load_part (hg : o.guard = none) (t : TypeId) (x : Operand) (ho : o.op = .load t x) (g off : Nat) (hx : a.eval x = .pointer (some ⟨g, off, none⟩)) {t' : TypeId} {pre mid post : List Value} (hb : Blk w g t' (part pre mid post)) (hoff : pre.length = off)
    {d : TypeDesc} (hu : P.underlying t = some d) (hd : (match d with | .struct _ => true | .array _ _ => true | _ => false) = true) (hi : (P.info? t).map (·.size) = some mid.length)
    (h : wpList P ops Q rest (a.put o.dst (.agg mid.toArray)) w) : wpList P ops Q (o :: rest) a w :=
  wpList_plain hg fun K hK => by
    unfold Oper.wp execOp
    simp only [ho, hx, Instr.loadAt, Instr.sureAddr, Sem.run_bind, Sem.run_pure, Result.andThen_ok, part_load hb t hoff hu hd hi]
    exact hK _ _ h
theorem part_store {g : Nat} {t : TypeId} {pre mid post cs : List Value} (hb : Blk w g t (part pre mid post)) (ty : TypeId) {off : Nat} (ho : pre.length = off)
    (hi : (P.info? ty).map (·.size) = some cs.length) (hc : cs.length = mid.length) (h1 : ∀ v ∈ cs, v.oneCell' = true) :
    (storeVar ty ⟨g, off, none⟩ (.agg cs.toArray)).run P w = .ok () (w.setRow g (part pre cs post)) := by
  subst ho
  have hst := run_storeCells_at P g pre.length t cs 0 (part pre mid post) w hb (by rw [part_size]; omega) h1
  have e : (part pre mid post).toList.take (pre.length + 0) ++ cs ++ (part pre mid post).toList.drop (pre.length + 0 + cs.length) = pre ++ cs ++ post := by
    simp only [part, Nat.add_zero]
    rw [List.append_assoc pre mid post, List.take_left, ← List.append_assoc pre mid post, List.drop_append_of_le_length (by simp; omega)]
    have : (pre ++ mid).drop (pre.length + cs.length) = [] := List.drop_of_length_le (by simp; omega)
    rw [this, List.nil_append]
  rw [e] at hst
  cases hq : P.info? ty with
  | none => simp [hq] at hi
  | some i =>
    have hs : cs.length = i.size := by simp [hq] at hi; omega
    simp [storeVar, sizeOf, typeInfo, hq, Value.cells, hs, hst, part]
theorem wpList_store_part (hg : o.guard = none) (t : TypeId) (x y : Operand) (ho : o.op = .store t x y) (g off : Nat) (cs : List Value) (hx : a.eval x = .pointer (some ⟨g, off, none⟩)) (hy : a.eval y = .agg cs.toArray)
    {t' : TypeId} {pre mid post : List Value} (hb : Blk w g t' (part pre mid post)) (hoff : pre.length = off) (hi : (P.info? t).map (·.size) = some cs.length) (hc : cs.length = mid.length) (h1 : ∀ v ∈ cs, v.oneCell' = true)
    (h : wpList P ops Q rest (a.put o.dst undef) (w.setRow g (part pre cs post))) : wpList P ops Q (o :: rest) a w :=
  wpList_plain hg fun K hK => by
    unfold Oper.wp execOp
    simp only [ho, hx, hy, Instr.storeAt, Instr.sureAddr, Sem.run_bind, Sem.run_pure, Result.andThen_ok, part_store hb t hoff hi hc h1]
    exact hK _ _ h
/-- bytes that are a part of a block, to be read -/
theorem part_sb {g B : Nat} {t : TypeId} {pre post : List Value} {bs : List UInt8} (hb : Blk w g t (part pre (bs.map bv) post)) (off n : Nat) (ho : pre.length = off) (hn : bs.length = n) (hg : g < B) : SB w B (some ⟨g, off, none⟩) n bs := by
  subst ho
  exact ⟨hn, fun _ => ⟨g, pre.length, rfl, hg, fun j x hj => hb.cell _ (part_at (by simp [hj]))⟩⟩
end
/-- a load of cells that are known -/
theorem wpList_load_cells {P : Program} {ops : Array Oper} {rest : List Oper} {o : Oper} {a : Act} {w : World} {Q : Exit → Act → World → Prop} (hg : o.guard = none) (t : TypeId) (x : Operand) (ho : o.op = .load t x) (ad : Addr) (hx : a.eval x = .pointer (some ad)) (cs : List Value) (hc : ∀ j v, cs[j]? = some v → w.cell? (ad.add j) = some v)
    {d : TypeDesc} (hu : P.underlying t = some d) (hd : (match d with | .struct _ => true | .array _ _ => true | _ => false) = true) (hi : (P.info? t).map (·.size) = some cs.length)
    (h : wpList P ops Q rest (a.put o.dst (.agg cs.toArray)) w) : wpList P ops Q (o :: rest) a w :=
  wpList_plain hg fun K hK => by
    have hl := run_loadCells_list (P := P) w ad cs hc
    have hr : (loadVar t ad).run P w = .ok (.agg cs.toArray) w := by
      cases hq : P.info? t with
      | none => simp [hq] at hi
      | some i =>
        have hs : i.size = cs.length := by simpa [hq] using hi
        have hagg : (isAgg t).run P w = .ok true w := by
          unfold isAgg
          rw [Sem.run_bind, run_underlying hu w]
          cases d <;> simp_all
        simp [loadVar, Sem.run_bind, hagg, sizeOf, typeInfo, hq, hs, hl]
    unfold Oper.wp execOp
    simp only [ho, hx, Instr.loadAt, Instr.sureAddr, Sem.run_bind, Sem.run_pure, Result.andThen_ok, hr]
    exact hK _ _ h
end Go.Proofs.Ytoajnabdflikfaa
