/- Blobs in memory: digests as keys, a map of pointers, a store. -/
import Derived.Test.YtoogaapjdlhpbaaDoorOwnCut
import Derived.Test.YtoogaapjdlhpbaaDoorWrMem
import Derived.Test.YtoogaapjdlhpbaaDoorRegInvG
import Derived.Maps.OwnSet
import Derived.DeepKeys4
import Derived.DataBytes
namespace Go.Proofs.YtoogaapjdlhpbaaDoor
open Go.RowKit Go.WideElems

theorem bl_laid : laidOutB Tryd.prog = true := by kernel_rfl
theorem bl_law : WideMaps.KeyLaw Tryd.prog 32 := deep_law_laid bl_laid (m := 2) (by omega) (of_decide_eq_true (by kernel_rfl)) (by kernel_rfl) (by rw [Tryd.underlying32])
theorem bl_keyed : Maps.Keyed Tryd.prog 32 := Maps.Keyed.of_law bl_law
theorem bl_keyType : Tryd.prog.keyType 32 = true := by kernel_rfl
theorem bl_cells : Tryd.prog.cellsOf 32 = 32 := by kernel_rfl
theorem bl_cells8 : Tryd.prog.cellsOf 5 = 1 := by kernel_rfl
theorem bl_types : ∃ m, Tryd.prog.types.size = m + 1 := ⟨Tryd.prog.types.size - 1, by have : 0 < Tryd.prog.types.size := of_decide_eq_true (by kernel_rfl); omega⟩
noncomputable def klit (l : List UInt8) : Lit := (keyOf Tryd.prog 32 (.agg (bcells l))).getD .nil
theorem bv_wf (x : UInt8) : (Lit.int .u8 (x.toNat : Int)).wf = true := by
  have := x.toNat_lt
  have e1 : IntKind.u8.min = 0 := rfl
  have e2 : IntKind.u8.max = 255 := rfl
  simp [Lit.wf, e1, e2]
  omega
theorem klit_of {l : List UInt8} (hl : l.length = 32) : keyOf Tryd.prog 32 (.agg (bcells l)) = some (klit l) := by
  have h : (keyOf Tryd.prog 32 (.agg (bcells l))).isSome = true := by
    obtain ⟨m, hm⟩ := bl_types
    unfold keyOf
    rw [Tryd.underlying32]
    have hf : (Value.agg (bcells l)).formed Tryd.prog 32 = true := by simp [Value.formed, Tryd.underlying32, bl_cells, bcells_size, hl]
    simp only [bl_keyType, hf, Bool.and_self, if_true, Option.isSome_map]
    unfold Program.keyLits
    rw [Tryd.underlying32, hm]
    have hc : (Value.agg (bcells l)).cells.toList = l.map bv := by simp [Value.cells, bcells]
    simp only [hc, List.length_map, hl, bl_cells, if_true, Option.isSome_map, bl_cells8, Nat.mul_one]
    have : ∀ i ∈ List.range 32, (Tryd.prog.keyLits (m + 1) 5 (((l.map bv).drop i).take 1)) = some ([.int .u8 (((l.getD i 0).toNat : Nat) : Int)]) := fun i hi => by
      have hi' : i < l.length := by rw [hl]; exact List.mem_range.1 hi
      have e : ((l.map bv).drop i).take 1 = [bv (l.getD i 0)] := by
        rw [List.drop_eq_getElem_cons (by simpa using hi')]
        simp [List.getD, hi']
      rw [e]
      unfold Program.keyLits bv
      rw [Tryd.underlying5]
      simp [bv_wf]
    rw [mapM_some_of_forall _ this]
    rfl
  obtain ⟨x, hx⟩ := Option.isSome_iff_exists.1 h
  unfold klit
  rw [hx]
  rfl
theorem bcells_inj {l l' : List UInt8} (h : bcells l = bcells l') : l = l' := by
  have h2 : l.map bv = l'.map bv := by simpa [bcells] using h
  refine (List.map_inj_right (fun x y hxy => ?_)).1 h2
  unfold bv at hxy
  simp only [Value.int.injEq, true_and] at hxy
  exact UInt8.toNat_inj.1 (by omega)
theorem klit_inj {l l' : List UInt8} (hl : l.length = 32) (hl' : l'.length = 32) (h : klit l = klit l') : l = l' := by
  have h1 := klit_of hl
  have h2 := klit_of hl'
  rw [← h] at h2
  have := bl_law.inj h1 h2
  simp only [Value.agg.injEq] at this
  exact bcells_inj this
attribute [irreducible] klit
theorem klit_key {l : List UInt8} (hl : l.length = 32) : WideAt.IsKeyLit (klit l) := bl_keyed.key (klit_of hl)
/-- how an element reads: a pointer at the front of a block -/
def ptrElem : Value → Option (DataW Unit × List MemPlace)
  | .pointer (some ⟨b, 0, none⟩) => some (.lit (.int .i64 (b : Int)), [])
  | _ => none
theorem ptrElem_inv {v : Value} {y : DataW Unit × List MemPlace} (h : ptrElem v = some y) : ∃ b : Nat, v = .pointer (some ⟨b, 0, none⟩) ∧ y = (.lit (.int .i64 (b : Int)), []) := by
  unfold ptrElem at h
  split at h
  · cases h; exact ⟨_, rfl, rfl⟩
  · cases h
def ptrD : Option Nat → DataW Unit
  | none => .nil
  | some b => .lit (.int .i64 (b : Int))
def ptrO : Option Nat → Value
  | none => .pointer none
  | some b => .pointer (some ⟨b, 0, none⟩)
/-- a map from digests to pointers -/
def MapP (w : World) (m n : Nat) (f : List UInt8 → Option Nat) : Prop := ∃ D : DataW Unit, w.ownsMap Tryd.prog 32 ptrElem m n D ∧ ∀ id : List UInt8, id.length = 32 → D.atKey (klit id) .nil = ptrD (f id)
theorem bl_zero (w : World) : (zeroValue 77).run Tryd.prog w = .ok (.pointer none) w := by kernel_rfl
section
variable {w w' : World} {m n : Nat} {f : List UInt8 → Option Nat}
theorem MapP.lt (h : MapP w m n f) : m < w.heap.size := by obtain ⟨D, h, -⟩ := h; exact h.lt
theorem MapP.grown {row : Option Nat} (h : MapP w m n f) (hg : w.grownBy w' row) (hne : row ≠ some m) : MapP w' m n f := by
  obtain ⟨D, h1, h2⟩ := h
  exact ⟨D, h1.kept hg (fun e => hne e.symm), h2⟩
theorem MapP.keep (h : MapP w m n f) (hb : Below w.heap.size w w') : MapP w' m n f := h.grown (grown_of_below hb none) (by simp)
theorem MapP.drew (h : MapP w m n f) : MapP w.drew m n f := h
theorem MapP.chg {L : List Nat} (h : MapP w m n f) (hc : Chg L w w') (hm : m ∉ L) : MapP w' m n f := by
  obtain ⟨D, ⟨es, clock, hb, r⟩, h2⟩ := h
  exact ⟨D, ⟨es, clock, (hc.block m (Array.getElem?_eq_some_iff.1 hb).1 hm).trans hb, r⟩, h2⟩
theorem MapP.new (w : World) : MapP (w.alloc (.map #[] 0)) w.heap.size 0 (fun _ => none) := ⟨.map [], World.ownsMap_made _ _ _ _, fun _ _ => rfl⟩
theorem MapP.look (h : MapP w m n f) {id : List UInt8} (hl : id.length = 32) : (Instr.lookup 52 (.map (some m)) (.agg (bcells id)) false).run Tryd.prog w = .ok (ptrO (f id)) w := by
  obtain ⟨D, ⟨es, clock, hb, F, _, rfl⟩, h2⟩ := h
  have h3 := h2 id hl
  rcases Maps.fit_look false bl_keyed Tryd.underlying52 (bl_zero w) hb F (klit_of hl) with ⟨hrun, _, hat⟩ | ⟨e0, y, _, _, hrun, hRv, hat, _⟩
  · rw [hat] at h3
    have : f id = none := by
      cases hf : f id with
      | none => rfl
      | some b => rw [hf] at h3; cases h3
    rw [this]
    exact hrun
  · obtain ⟨b, hv, rfl⟩ := ptrElem_inv hRv
    rw [hat] at h3
    cases hf : f id with
    | none => rw [hf] at h3; cases h3
    | some b' =>
      rw [hf] at h3
      have : b = b' := by simp [ptrD] at h3; omega
      subst this
      rw [hv] at hrun
      exact hrun
theorem MapP.store (h : MapP w m n f) {id : List UInt8} (hl : id.length = 32) (hn : n < maxLen) (b : Nat) : ∃ w', (Instr.mapUpdate 52 (.map (some m)) (.agg (bcells id)) (.pointer (some ⟨b, 0, none⟩))).run Tryd.prog w = .ok () w' ∧ MapP w' m (n + 1) (fun x => if x = id then some b else f x) ∧ w.grownBy w' (some m) := by
  obtain ⟨D, h1, h2⟩ := h
  obtain ⟨w', hrun, ho, hg⟩ := h1.update bl_keyed Tryd.underlying52 hn (val := .pointer (some ⟨b, 0, none⟩)) (klit_of hl) rfl
  refine ⟨w', hrun, ⟨_, ho, fun x hx => ?_⟩, hg⟩
  by_cases e : x = id
  · subst e
    rw [Maps.atKey_put_same h1.isMap (klit_key hx)]
    simp [ptrD]
  · rw [Maps.atKey_put_other (fun e2 => e (klit_inj hx hl e2)), h2 x hx]
    simp [e]
theorem MapP.drop (h : MapP w m n f) {id : List UInt8} (hl : id.length = 32) (ty : TypeId) : ∃ w', (Builtin.delete_ #[52, 32] ty #[.map (some m), .agg (bcells id)]).run Tryd.prog w = .ok (.tuple #[]) w' ∧ MapP w' m n (fun x => if x = id then none else f x) ∧ w.grownBy w' (some m) := by
  obtain ⟨D, h1, h2⟩ := h
  obtain ⟨w', hrun, ho, hg⟩ := h1.drop bl_keyed Tryd.underlying52 (klit_of hl) ty
  refine ⟨w', hrun, ⟨_, ho, fun x hx => ?_⟩, hg.grown⟩
  by_cases e : x = id
  · subst e
    rw [Maps.atKey_del_same]
    simp [ptrD]
  · rw [Maps.atKey_del_other (fun e2 => e (klit_inj hx hl e2)), h2 x hx]
    simp [e]
end
end Go.Proofs.YtoogaapjdlhpbaaDoor
