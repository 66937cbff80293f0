/- Bytes as a string: the conversion, and two of them side by side. Plain lemmas over any program. -/
import Derived.Test.YtiejndkchcljdaaMem
import Derived.Laws.BytesArg
import Derived.Stop.BytesEq
namespace Go.Proofs.Ytiejndkchcljdaa
open Go.RowKit

def strB (bs : List UInt8) : ByteArray := ⟨bs.toArray⟩
theorem strB_toList (a : List UInt8) : (strB a).toList = a := by rw [ByteArray.toList_eq]; rfl
theorem strB_eq (a b : List UInt8) : ((strB a).toList == (strB b).toList) = (a == b) := by rw [strB_toList, strB_toList]
theorem strB_ne (a b : List UInt8) : (!((strB a).toList == (strB b).toList)) = !(a == b) := by rw [strB_eq]
theorem ofNat_toNat_map (bs : List UInt8) : (bs.map fun b => ((b.toNat : Nat) : Int)).map (fun n => UInt8.ofNat n.toNat) = bs := by
  rw [List.map_map]
  conv => rhs; rw [← List.map_id bs]
  apply List.map_congr_left
  intro b _
  simp

theorem run_equal_arr {P : Program} (t e : TypeId) (n : Nat) (ht : P.underlying t = some (.array n e)) (he : P.underlying e = some (.int .u8)) (hsz : (P.info? e).map (·.size) = some 1)
    (xs ys : List UInt8) (hx : xs.length = n) (hy : ys.length = n) (w : World) :
    (Op.equalIn 10000 t (.agg (xs.map bv).toArray) (.agg (ys.map bv).toArray)).run P w = .ok (xs == ys) w := by
  have hs : ∀ w, (sizeOf e).run P w = .ok 1 w := fun w => by
    cases hq : P.info? e with
    | none => simp [hq] at hsz
    | some i => simp [hq] at hsz; simp [sizeOf, typeInfo, hq, hsz]
  have := run_equalIn_bytes (P := P) w 9998 t e n ht he hs xs ys hx hy
  exact this

theorem run_str {P : Program} {w : World} {B n : Nat} {A : Option Addr} {bs : List UInt8} (h : SB w B A n bs) (c : Nat) (src dst e : TypeId)
    (hs : P.underlying src = some (.slice e)) (he : P.underlying e = some (.int .u8)) (hd : P.underlying dst = some .string) :
    (convert src dst (.slice A n c)).run P w = .ok (.string (strB bs)) w := by
  rcases Nat.eq_zero_or_pos n with h0 | h0
  · subst h0
    have hn : bs = [] := List.eq_nil_of_length_eq_zero h.1
    subst hn
    rw [run_convert_bytes_string w src dst e _ _ c hs he hd]
    cases A with
    | none => simp [Conv.bytesToString]; rfl
    | some a => simp [Conv.bytesToString, loadCells, loadCellsFrom]; rfl
  · obtain ⟨b, off, rfl, _, hc⟩ := h.2 h0
    have hr := run_convert_bytes_arg (P := P) w src e hs he b off n c (bs.map fun b => ((b.toNat : Nat) : Int)) (by simp [h.1]) (fun i hi => by
      have hl : i < bs.length := by rw [h.1]; exact hi
      rw [hc i _ (List.getElem?_eq_getElem hl)]
      simp [bv, List.getD, hl]) dst hd
    rw [hr]
    congr 2
    unfold strOfNums strB
    rw [ofNat_toNat_map]

/-! A conversion of a []byte to its own type (a literal text as bytes): only a mark is set, no cell turns. -/
theorem freeze_cell (w : World) (a : Addr) (n : Nat) (b : Addr) : (w.freeze a n).cell? b = w.cell? b := by
  unfold World.freeze
  split
  · rfl
  · unfold World.cell?
    simp only [Array.getElem?_modify]
    by_cases h : a.block = b.block
    · rw [if_pos h]
      cases hq : w.heap[b.block]? with
      | none => simp
      | some o => cases o <;> simp
    · rw [if_neg h]
theorem freeze_grown (w : World) (a : Addr) (n : Nat) : w.grownBy (w.freeze a n) (some a.block) := by
  unfold World.freeze
  split
  · exact World.grownBy.refl _ _
  · refine ⟨rfl, rfl, rfl, by simp, fun k _ hne => ?_⟩
    simp only [Array.getElem?_modify]
    rw [if_neg (fun e => hne (by rw [e]))]
theorem run_same_bytes {P : Program} (w : World) (t e : TypeId) (a : Addr) (n c : Nat) (ht : P.underlying t = some (.slice e)) (he : P.underlying e = some (.int .u8)) :
    ∃ w', (convert t t (.slice (some a) n c)).run P w = .ok (.slice (some a) n c) w' ∧ (∀ b, w'.cell? b = w.cell? b) ∧ w.grownBy w' (some a.block) := by
  cases hq : w.shape? a.block with
  | none =>
    refine ⟨w, ?_, fun _ => rfl, World.grownBy.refl _ _⟩
    simp [convert, run_underlying ht, run_underlying he, markStringish, shape, Sem.run, hq]
  | some x =>
    refine ⟨w.freeze ⟨a.block, x.2, none⟩ 1, ?_, freeze_cell w _ _, freeze_grown w _ _⟩
    simp [convert, run_underlying ht, run_underlying he, markStringish, shape, freeze, Sem.run, hq]
theorem SB.cells {w w' : World} {B n : Nat} {A : Option Addr} {bs : List UInt8} (h : SB w B A n bs) (hc : ∀ b, w'.cell? b = w.cell? b) : SB w' B A n bs :=
  ⟨h.1, fun hn => by
    obtain ⟨b, off, e, hlt, hx⟩ := h.2 hn
    exact ⟨b, off, e, hlt, fun j x hj => (hc _).trans (hx j x hj)⟩⟩
theorem wpList_same_bytes {P : Program} (w : World) {ops : Array Oper} {rest : List Oper} {o : Oper} {a : Act} {Q : Exit → Act → World → Prop} (hgd : o.guard = none) (t e : TypeId) (x : Operand) (ho : o.op = .convert t t x)
    (ht : P.underlying t = some (.slice e)) (he : P.underlying e = some (.int .u8)) (ad : Addr) (n c : Nat) (hx : a.eval x = .slice (some ad) n c)
    (h : ∀ w', (∀ b, w'.cell? b = w.cell? b) → w.grownBy w' (some ad.block) → wpList P ops Q rest (a.put o.dst (.slice (some ad) n c)) w') : wpList P ops Q (o :: rest) a w := by
  refine wpList_plain hgd fun K hK => ?_
  obtain ⟨w', hr, h1, h2⟩ := run_same_bytes (P := P) w t e ad n c ht he
  unfold Oper.wp execOp
  simp only [ho, hx, Sem.run_bind, Sem.run_pure, Result.andThen_ok, hr]
  exact hK _ _ (h w' h1 h2)

theorem lit_sb (w : World) (e : TypeId) (bs : List UInt8) (cs : Array Value) (n : Nat) (hcs : cs = (bs.map bv).toArray) (hn : bs.length = n) :
    SB (w.alloc (.cells cs e)) (w.heap.size + 1) (some ⟨w.heap.size, 0, none⟩) n bs := by
  subst hcs
  refine ⟨hn, fun _ => ⟨w.heap.size, 0, rfl, Nat.lt_succ_self _, fun j x hj => ?_⟩⟩
  rw [Nat.zero_add, cell_of_row _ _ _ _ e (0, 0) (heap_alloc_new w _)]
  simp [hj]
/-- A text as bytes: a new block, marked. -/
theorem upon_text {P : Program} {o : Oper} {a : Act} {K : Act → World → Prop} {Q : Exit → Act → World → Prop} (w : World) (t e : TypeId) (ht : P.underlying t = some (.slice e)) (he : P.underlying e = some (.int .u8))
    (cs : Array Value) (bs : List UInt8) (hcs : cs = (bs.map bv).toArray) (n : Nat) (hn : bs.length = n)
    (h : ∀ w', SB w' (w.heap.size + 1) (some ⟨w.heap.size, 0, none⟩) n bs → Below w.heap.size w w' → o.upon P a K Q (.ok (.value (.slice (some ⟨w.heap.size, 0, none⟩) n n)) w')) :
    o.upon P a K Q (((convert t t (.slice (some ⟨w.heap.size, 0, none⟩) n n)).run P (w.alloc (.cells cs e))).andThen fun a w' => .ok (.value a) w') := by
  obtain ⟨w', hr, h1, h2⟩ := run_same_bytes (P := P) (w.alloc (.cells cs e)) t e ⟨w.heap.size, 0, none⟩ n n ht he
  rw [hr]
  exact h w' ((lit_sb w e bs cs n hcs hn).cells h1) (((Below.refl _ _).alloc (Nat.le_refl _) _).trans (below_of_grown h2 (by simp) (fun g e => by cases e; exact Nat.le_refl _)))
end Go.Proofs.Ytiejndkchcljdaa
