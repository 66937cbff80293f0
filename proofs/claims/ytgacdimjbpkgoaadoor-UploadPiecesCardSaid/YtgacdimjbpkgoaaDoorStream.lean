/- What a stream keeps of bytes, as lists; a copy of bytes into a part of a block. Nothing here speaks of a program. -/
import Derived.Test.YtgacdimjbpkgoaaDoorPart
import Derived.Test.YtgacdimjbpkgoaaDoorShaLists
namespace Go.Proofs.YtgacdimjbpkgoaaDoor
open Go.RowKit Crc

/-- the cells of a stream -/
def strm (s : St) (rest : List UInt8) (n : Nat) : List Value := (stL s).map rv ++ rest.map bv ++ [.int .i64 (n : Int)]
/-- what a stream keeps of the bytes written so far -/
def Kept (bs : List UInt8) (s : St) (rest : List UInt8) : Prop := s = runBlocks bs (bs.length / 64) ∧ rest.length = 64 ∧ rest.take (bs.length % 64) = bs.drop (64 * (bs.length / 64))

theorem runBlocks_left (bs cs : List UInt8) : ∀ k, 64 * k ≤ bs.length → runBlocks (bs ++ cs) k = runBlocks bs k
  | 0, _ => rfl
  | k + 1, h => by
    rw [runBlocks, runBlocks, runBlocks_left bs cs k (by omega), List.drop_append_of_le_length (by omega), List.take_append_of_le_length (by rw [List.length_drop]; omega)]

def spl (l : List UInt8) (h : Nat) (cs : List UInt8) : List UInt8 := l.take h ++ (cs ++ l.drop (h + cs.length))
theorem spl_length (l : List UInt8) (h : Nat) (cs : List UInt8) (hh : h + cs.length ≤ l.length) : (spl l h cs).length = l.length := by simp [spl]; omega
theorem spl_take (l : List UInt8) (h : Nat) (cs : List UInt8) (hh : h + cs.length ≤ l.length) : (spl l h cs).take (h + cs.length) = l.take h ++ cs := by
  unfold spl
  rw [← List.append_assoc, List.take_append_of_le_length (by simp; omega), List.take_of_length_le (by simp; omega)]
theorem spl_nil (l : List UInt8) (h : Nat) : spl l h [] = l := by simp [spl]
theorem part_spl (pre post : List Value) (l : List UInt8) (h : Nat) (cs : List UInt8) (hh : h + cs.length ≤ l.length) :
    ((part pre (l.map bv) post).toList.take (pre.length + h) ++ cs.map bv ++ (part pre (l.map bv) post).toList.drop (pre.length + h + cs.length)).toArray = part pre ((spl l h cs).map bv) post := by
  have e1 : (part pre (l.map bv) post).toList = pre ++ (l.map bv ++ post) := by simp [part]
  have e2 : (pre ++ (l.map bv ++ post)).take (pre.length + h) = pre ++ (l.take h).map bv := by
    rw [List.take_append, List.take_of_length_le (by omega), Nat.add_sub_cancel_left, List.take_append_of_le_length (by simp; omega), List.map_take]
  have e3 : (pre ++ (l.map bv ++ post)).drop (pre.length + h + cs.length) = (l.drop (h + cs.length)).map bv ++ post := by
    rw [List.drop_append, List.drop_of_length_le (by omega), Nat.add_assoc, Nat.add_sub_cancel_left, List.drop_append_of_le_length (by simp; omega), List.map_drop, List.nil_append]
  rw [e1, e2, e3]
  simp [part, spl]

section
variable {P : Program} {ops : Array Oper} {rest : List Oper} {o : Oper} {a : Act} {w : World} {Q : Exit → Act → World → Prop}
/-- 'copy' of bytes into a part of a block -/
theorem wpList_copy_part (hgd : o.guard = none) (d s : Operand) (dT sT : TypeId)
    (ho : o.op = .call { callee := .builtin .copy, args := #[d, s], argTypes := #[dT, sT] }) (elem : TypeId) (hu : P.underlying dT = some (.slice elem)) (hsz : (P.info? elem).map (·.size) = some 1)
    (g off dLen dCap : Nat) (hd : a.eval d = .slice (some ⟨g, off, none⟩) dLen dCap) (B : Nat) (A : Option Addr) (m c : Nat) (hs : a.eval s = .slice A m c) (cs : List UInt8) (hsb : SB w B A m cs)
    (t : TypeId) (pre post : List Value) (l : List UInt8) (hb : Blk w g t (part pre (l.map bv) post)) (h : Nat) (hoff : off = pre.length + h) (n : Nat) (hn : n = Nat.min m dLen) (hfit : h + n ≤ l.length)
    (hk : wpList P ops Q rest (a.put o.dst (.int .i64 (n : Int))) (w.setRow g (part pre ((spl l h (cs.take n)).map bv) post))) :
    wpList P ops Q (o :: rest) a w := by
  subst hoff
  have hlc : (cs.take n).length = n := by
    have h1 : n ≤ m := by rw [hn]; exact Nat.min_le_left _ _
    rw [List.length_take, hsb.1]; omega
  refine wpList_plain hgd fun K hK => ?_
  have hrun : (Builtin.copy_ #[dT, sT] o.type #[.slice (some ⟨g, pre.length + h, none⟩) dLen dCap, .slice A m c]).run P w =
      .ok (goInt n) (w.setRow g (part pre ((spl l h (cs.take n)).map bv) post)) := by
    by_cases h0 : n = 0
    · subst h0
      have := run_copy_none (P := P) w dT sT o.type elem (some ⟨g, pre.length + h, none⟩) A dLen dCap m c hu hsz hn.symm
      rw [this, List.take_zero, spl_nil, setRow_self w g _ t (0, 0) hb]
      rfl
    · have hnm : n ≤ m := by rw [hn]; exact Nat.min_le_left _ _
      obtain ⟨b, so, rfl, _, hc⟩ := hsb.2 (by omega)
      have := run_copy_row P w dT sT o.type elem g (pre.length + h) dLen dCap ⟨b, so, none⟩ m c (part pre (l.map bv) post) t ((cs.take n).map bv) hu hsz hb (by rw [List.length_map, hlc, hn])
        (fun j v hv => by
          rw [List.getElem?_map] at hv
          obtain ⟨x, hx, rfl⟩ := Option.map_eq_some_iff.1 hv
          rw [List.getElem?_take] at hx
          split at hx
          · rw [Addr.add_lit]; exact hc j x hx
          · cases hx) (by rw [List.length_map, hlc, part_size, List.length_map]; omega) (by intro v hv; obtain ⟨x, _, rfl⟩ := List.mem_map.1 hv; rfl)
      rw [this, List.length_map, part_spl pre post l h (cs.take n) (by rw [hlc]; exact hfit), hlc]
  unfold Oper.wp execOp
  simp only [ho, resolve, invoke, builtin, Sem.run_bind, Sem.run_pure, Result.andThen_ok, List.map_toArray, List.map_cons, List.map_nil, hd, hs, hrun]
  exact hK _ _ hk
end

/-! ### the steps of a write -/
theorem kept_short {bs rest cs : List UInt8} {s : St} (h : Kept bs s rest) (hh : bs.length % 64 + cs.length < 64) : Kept (bs ++ cs) s (spl rest (bs.length % 64) cs) := by
  obtain ⟨h1, h2, h3⟩ := h
  have e1 : (bs ++ cs).length / 64 = bs.length / 64 := by rw [List.length_append]; omega
  have e2 : (bs ++ cs).length % 64 = bs.length % 64 + cs.length := by rw [List.length_append]; omega
  refine ⟨?_, ?_, ?_⟩
  · rw [h1, e1, runBlocks_left _ _ _ (by omega)]
  · rw [spl_length _ _ _ (by omega), h2]
  · rw [e1, e2, spl_take _ _ _ (by omega), h3, List.drop_append_of_le_length (by omega)]
/-- a block that is whole now -/
theorem kept_full {bs rest cs : List UInt8} {s : St} (h : Kept bs s rest) (hc : 64 - bs.length % 64 ≤ cs.length) :
    blockR s (spl rest (bs.length % 64) (cs.take (64 - bs.length % 64))) = runBlocks (bs ++ cs) (bs.length / 64 + 1) := by
  obtain ⟨h1, h2, h3⟩ := h
  have hl : (cs.take (64 - bs.length % 64)).length = 64 - bs.length % 64 := by rw [List.length_take]; omega
  have e : spl rest (bs.length % 64) (cs.take (64 - bs.length % 64)) = ((bs ++ cs).drop (64 * (bs.length / 64))).take 64 := by
    have t := spl_take rest (bs.length % 64) (cs.take (64 - bs.length % 64)) (by omega)
    rw [hl, show bs.length % 64 + (64 - bs.length % 64) = 64 by omega, List.take_of_length_le (by rw [spl_length _ _ _ (by omega)]; omega)] at t
    have hd : (bs.drop (64 * (bs.length / 64))).length = bs.length % 64 := by rw [List.length_drop]; omega
    rw [t, h3, List.drop_append_of_le_length (by omega), List.take_append, List.take_of_length_le (l := bs.drop (64 * (bs.length / 64))) (by omega), hd]
  rw [e, runBlocks, h1, runBlocks_left _ _ _ (by omega)]
theorem drop_full (bs cs : List UInt8) : (bs ++ cs).drop (64 * (bs.length / 64 + 1)) = cs.drop (64 - bs.length % 64) ∨ bs.length % 64 = 0 := by
  by_cases h : bs.length % 64 = 0
  · exact .inr h
  · refine .inl ?_
    rw [List.drop_append, List.drop_of_length_le (by omega), List.nil_append]
    congr 1; omega
theorem drop_start (bs cs : List UInt8) (h : bs.length % 64 = 0) : (bs ++ cs).drop (64 * (bs.length / 64)) = cs := by
  rw [List.drop_append, List.drop_of_length_le (by omega), List.nil_append, show 64 * (bs.length / 64) - bs.length = 0 by omega, List.drop_zero]
theorem kept_end {all rest : List UInt8} {k : Nat} (hr : rest.length = 64) (hk : 64 * k ≤ all.length) (hlt : all.length - 64 * k < 64) :
    Kept all (runBlocks all k) (spl rest 0 ((all.drop (64 * k)).take (all.length - 64 * k))) := by
  have e1 : all.length / 64 = k := by omega
  have e2 : all.length % 64 = all.length - 64 * k := by omega
  have e3 : (all.drop (64 * k)).take (all.length - 64 * k) = all.drop (64 * k) := List.take_of_length_le (by rw [List.length_drop]; omega)
  have hl : (all.drop (64 * k)).length = all.length - 64 * k := List.length_drop
  refine ⟨by rw [e1], by rw [e3, spl_length _ _ _ (by omega), hr], ?_⟩
  rw [e3, e2, e1]
  have t := spl_take rest 0 (all.drop (64 * k)) (by omega)
  rw [hl, Nat.zero_add, List.take_zero, List.nil_append] at t
  exact t
theorem kept_start : Kept [] st0 (List.replicate 64 0) := ⟨rfl, rfl, rfl⟩
end Go.Proofs.YtgacdimjbpkgoaaDoor
