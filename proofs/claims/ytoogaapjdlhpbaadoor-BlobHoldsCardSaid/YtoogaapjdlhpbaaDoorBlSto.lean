/- Blobs in memory: digests as keys, a map of pointers, a store. -/
import Derived.Test.YtoogaapjdlhpbaaDoorOwnCut
import Derived.Test.YtoogaapjdlhpbaaDoorWrMem
import Derived.Test.YtoogaapjdlhpbaaDoorRegInvG
import Derived.Maps.OwnSet
import Derived.DeepKeys4
import Derived.DataBytes
import Derived.LaidEqlPtr
import Derived.Laws.EntriesVeiled
namespace Go.Proofs.YtoogaapjdlhpbaaDoor
open Go.RowKit Go.WideElems

theorem bl_laid : laidOutB Tryd.prog = true := by kernel_rfl
theorem bl_law : WideMaps.KeyLaw Tryd.prog 32 := deep_law_laid bl_laid (m := 2) (by omega) (of_decide_eq_true (by kernel_rfl)) (by kernel_rfl) (by rw [Tryd.underlying32])
theorem bl_keyed : Maps.Keyed Tryd.prog 32 := Maps.Keyed.of_law bl_law
theorem bl_keyType : Tryd.prog.keyType 32 = true := by kernel_rfl
theorem bl_cells : Tryd.prog.cellsOf 32 = 32 := by kernel_rfl
theorem bl_cells8 : Tryd.prog.cellsOf 5 = 1 := by kernel_rfl
theorem bl_types : ∃ m, Tryd.prog.types.size = m + 1 := ⟨Tryd.prog.types.size - 1, by have : 0 < Tryd.prog.types.size := of_decide_eq_true (by kernel_rfl); omega⟩
noncomputable def klit (l : List UInt8) : Lit := (keyOf Tryd.prog 32 (.agg (bcells l))).getD .nil
theorem bv_wf (x : UInt8) : (Lit.int .u8 (x.toNat : Int)).wf = true := by
  have := x.toNat_lt
  have e1 : IntKind.u8.min = 0 := rfl
  have e2 : IntKind.u8.max = 255 := rfl
  simp [Lit.wf, e1, e2]
  omega
theorem klit_of {l : List UInt8} (hl : l.length = 32) : keyOf Tryd.prog 32 (.agg (bcells l)) = some (klit l) := by
  have h : (keyOf Tryd.prog 32 (.agg (bcells l))).isSome = true := by
    obtain ⟨m, hm⟩ := bl_types
    unfold keyOf
    rw [Tryd.underlying32]
    have hf : (Value.agg (bcells l)).formed Tryd.prog 32 = true := by simp [Value.formed, Tryd.underlying32, bl_cells, bcells_size, hl]
    simp only [bl_keyType, hf, Bool.and_self, if_true, Option.isSome_map]
    unfold Program.keyLits
    rw [Tryd.underlying32, hm]
    have hc : (Value.agg (bcells l)).cells.toList = l.map bv := by simp [Value.cells, bcells]
    simp only [hc, List.length_map, hl, bl_cells, if_true, Option.isSome_map, bl_cells8, Nat.mul_one]
    have : ∀ i ∈ List.range 32, (Tryd.prog.keyLits (m + 1) 5 (((l.map bv).drop i).take 1)) = some ([.int .u8 (((l.getD i 0).toNat : Nat) : Int)]) := fun i hi => by
      have hi' : i < l.length := by rw [hl]; exact List.mem_range.1 hi
      have e : ((l.map bv).drop i).take 1 = [bv (l.getD i 0)] := by
        rw [List.drop_eq_getElem_cons (by simpa using hi')]
        simp [List.getD, hi']
      rw [e]
      unfold Program.keyLits bv
      rw [Tryd.underlying5]
      simp [bv_wf]
    rw [mapM_some_of_forall _ this]
    rfl
  obtain ⟨x, hx⟩ := Option.isSome_iff_exists.1 h
  unfold klit
  rw [hx]
  rfl
theorem bcells_inj {l l' : List UInt8} (h : bcells l = bcells l') : l = l' := by
  have h2 : l.map bv = l'.map bv := by simpa [bcells] using h
  refine (List.map_inj_right (fun x y hxy => ?_)).1 h2
  unfold bv at hxy
  simp only [Value.int.injEq, true_and] at hxy
  exact UInt8.toNat_inj.1 (by omega)
theorem klit_inj {l l' : List UInt8} (hl : l.length = 32) (hl' : l'.length = 32) (h : klit l = klit l') : l = l' := by
  have h1 := klit_of hl
  have h2 := klit_of hl'
  rw [← h] at h2
  have := bl_law.inj h1 h2
  simp only [Value.agg.injEq] at this
  exact bcells_inj this
attribute [irreducible] klit
theorem klit_key {l : List UInt8} (hl : l.length = 32) : WideAt.IsKeyLit (klit l) := bl_keyed.key (klit_of hl)
/-- how an element reads: a pointer at the front of a block -/
def ptrElem : Value → Option (DataW Unit × List MemPlace)
  | .pointer (some ⟨b, 0, none⟩) => some (.lit (.int .i64 (b : Int)), [])
  | _ => none
theorem ptrElem_inv {v : Value} {y : DataW Unit × List MemPlace} (h : ptrElem v = some y) : ∃ b : Nat, v = .pointer (some ⟨b, 0, none⟩) ∧ y = (.lit (.int .i64 (b : Int)), []) := by
  unfold ptrElem at h
  split at h
  · cases h; exact ⟨_, rfl, rfl⟩
  · cases h
def ptrD : Option Nat → DataW Unit
  | none => .nil
  | some b => .lit (.int .i64 (b : Int))
def ptrO : Option Nat → Value
  | none => .pointer none
  | some b => .pointer (some ⟨b, 0, none⟩)
/-- a map from digests to pointers -/
def MapP (w : World) (m n : Nat) (f : List UInt8 → Option Nat) : Prop := ∃ D : DataW Unit, w.ownsMap Tryd.prog 32 ptrElem m n D ∧ ∀ id : List UInt8, id.length = 32 → D.atKey (klit id) .nil = ptrD (f id)
theorem bl_zero (w : World) : (zeroValue 77).run Tryd.prog w = .ok (.pointer none) w := by kernel_rfl
section
variable {w w' : World} {m n : Nat} {f : List UInt8 → Option Nat}
theorem MapP.lt (h : MapP w m n f) : m < w.heap.size := by obtain ⟨D, h, -⟩ := h; exact h.lt
theorem MapP.grown {row : Option Nat} (h : MapP w m n f) (hg : w.grownBy w' row) (hne : row ≠ some m) : MapP w' m n f := by
  obtain ⟨D, h1, h2⟩ := h
  exact ⟨D, h1.kept hg (fun e => hne e.symm), h2⟩
theorem MapP.keep (h : MapP w m n f) (hb : Below w.heap.size w w') : MapP w' m n f := h.grown (grown_of_below hb none) (by simp)
theorem MapP.drew (h : MapP w m n f) : MapP w.drew m n f := h
theorem MapP.chg {L : List Nat} (h : MapP w m n f) (hc : Chg L w w') (hm : m ∉ L) : MapP w' m n f := by
  obtain ⟨D, ⟨es, clock, hb, r⟩, h2⟩ := h
  exact ⟨D, ⟨es, clock, (hc.block m (Array.getElem?_eq_some_iff.1 hb).1 hm).trans hb, r⟩, h2⟩
theorem MapP.new (w : World) : MapP (w.alloc (.map #[] 0)) w.heap.size 0 (fun _ => none) := ⟨.map [], World.ownsMap_made _ _ _ _, fun _ _ => rfl⟩
theorem MapP.look (h : MapP w m n f) {id : List UInt8} (hl : id.length = 32) : (Instr.lookup 52 (.map (some m)) (.agg (bcells id)) false).run Tryd.prog w = .ok (ptrO (f id)) w := by
  obtain ⟨D, ⟨es, clock, hb, F, _, rfl⟩, h2⟩ := h
  have h3 := h2 id hl
  rcases Maps.fit_look false bl_keyed Tryd.underlying52 (bl_zero w) hb F (klit_of hl) with ⟨hrun, _, hat⟩ | ⟨e0, y, _, _, hrun, hRv, hat, _⟩
  · rw [hat] at h3
    have : f id = none := by
      cases hf : f id with
      | none => rfl
      | some b => rw [hf] at h3; cases h3
    rw [this]
    exact hrun
  · obtain ⟨b, hv, rfl⟩ := ptrElem_inv hRv
    rw [hat] at h3
    cases hf : f id with
    | none => rw [hf] at h3; cases h3
    | some b' =>
      rw [hf] at h3
      have : b = b' := by simp [ptrD] at h3; omega
      subst this
      rw [hv] at hrun
      exact hrun
theorem MapP.store (h : MapP w m n f) {id : List UInt8} (hl : id.length = 32) (hn : n < maxLen) (b : Nat) : ∃ w', (Instr.mapUpdate 52 (.map (some m)) (.agg (bcells id)) (.pointer (some ⟨b, 0, none⟩))).run Tryd.prog w = .ok () w' ∧ MapP w' m (n + 1) (fun x => if x = id then some b else f x) ∧ w.grownBy w' (some m) := by
  obtain ⟨D, h1, h2⟩ := h
  obtain ⟨w', hrun, ho, hg⟩ := h1.update bl_keyed Tryd.underlying52 hn (val := .pointer (some ⟨b, 0, none⟩)) (klit_of hl) rfl
  refine ⟨w', hrun, ⟨_, ho, fun x hx => ?_⟩, hg⟩
  by_cases e : x = id
  · subst e
    rw [Maps.atKey_put_same h1.isMap (klit_key hx)]
    simp [ptrD]
  · rw [Maps.atKey_put_other (fun e2 => e (klit_inj hx hl e2)), h2 x hx]
    simp [e]
theorem MapP.drop (h : MapP w m n f) {id : List UInt8} (hl : id.length = 32) (ty : TypeId) : ∃ w', (Builtin.delete_ #[52, 32] ty #[.map (some m), .agg (bcells id)]).run Tryd.prog w = .ok (.tuple #[]) w' ∧ MapP w' m n (fun x => if x = id then none else f x) ∧ w.grownBy w' (some m) := by
  obtain ⟨D, h1, h2⟩ := h
  obtain ⟨w', hrun, ho, hg⟩ := h1.drop bl_keyed Tryd.underlying52 (klit_of hl) ty
  refine ⟨w', hrun, ⟨_, ho, fun x hx => ?_⟩, hg.grown⟩
  by_cases e : x = id
  · subst e
    rw [Maps.atKey_del_same]
    simp [ptrD]
  · rw [Maps.atKey_del_other (fun e2 => e (klit_inj hx hl e2)), h2 x hx]
    simp [e]
end
end Go.Proofs.YtoogaapjdlhpbaaDoor
/- Contracts of package blob: what stands alone: unless, first, valid; bytes cloned and compared. -/
namespace Go.Proofs.YtoogaapjdlhpbaaDoor
open Go.RowKit

theorem sameBytes_calls (B n c B' n' c' : Nat) (A A' : Option Addr) (xs bs : List UInt8) (w : World) (ha : SB w B A n xs) (hb : SB w B' A' n' bs) :
    Calls Tryd.prog 37 #[.slice A n c, .slice A' n' c'] w fun e w' => e = .returned (.bool (xs == bs)) ∧ w = w' := by
  have h1 := run_str (P := Tryd.prog) ha c 33 9 5 Tryd.underlying33 Tryd.underlying5 Tryd.underlying9
  have h2 := run_str (P := Tryd.prog) hb c' 33 9 5 Tryd.underlying33 Tryd.underlying5 Tryd.underlying9
  go_enter Tryd.func37, Tryd.ntmps37
  go_wp2_with fail
  go_ret
  exact ⟨ret_bool (strB_eq xs bs), rfl⟩
theorem equal_calls (B n c B' n' c' : Nat) (A A' : Option Addr) (xs bs : List UInt8) (w : World) (ha : SB w B A n xs) (hb : SB w B' A' n' bs) :
    Calls Tryd.prog 62 #[.slice A n c, .slice A' n' c'] w fun e w' => e = .returned (.bool (xs == bs)) ∧ w = w' := by
  have h1 := run_str (P := Tryd.prog) ha c 33 9 5 Tryd.underlying33 Tryd.underlying5 Tryd.underlying9
  have h2 := run_str (P := Tryd.prog) hb c' 33 9 5 Tryd.underlying33 Tryd.underlying5 Tryd.underlying9
  go_enter Tryd.func62, Tryd.ntmps62
  go_wp2_with fail
  go_ret
  exact ⟨ret_bool (strB_eq xs bs), rfl⟩
theorem eql_nil {P : Program} (w : World) (t e : TypeId) (a : Option Addr) (n c : Nat) (h : P.underlying t = some (.slice e)) :
    (binOp .eql t (.slice a n c) (.slice none 0 0)).run P w = .ok (.bool a.isNone) w := by
  have hq : ∀ d : Nat, (Op.equalIn (d + 1) t (.slice a n c) (.slice none 0 0)).run P w = .ok a.isNone w := fun d => by
    cases a <;> simp [Op.equalIn, run_underlying h]
  simp only [binOp]
  simp [Op.equal, Op.maxDepth, hq 9999]
theorem info5b : (Tryd.prog.info? 5).map (fun i => (i.zero, i.size, i.bytes)) = some (some (.int .u8 0), 1, 1) := by kernel_rfl
theorem bl_clone (B n c : Nat) (A : Option Addr) (bs : List UInt8) (w : World) (hs : SB w B A n bs) (hc : n ≤ c) (hn : n ≤ 1099511627776) :
    Calls Tryd.prog 43 #[.slice A n c] w fun e w' => ∃ v, e = .returned v ∧ Own w' w.heap.size 5 v n bs ∧ Below w.heap.size w w' := by
  cases A with
  | none =>
    have hn0 : n = 0 := by
      rcases Nat.eq_zero_or_pos n with h | h
      · exact h
      · obtain ⟨_, _, e, _⟩ := hs.2 h; cases e
    subst hn0
    obtain rfl : bs = [] := List.eq_nil_of_length_eq_zero hs.1
    clear hs
    have hq := fun w => eql_nil (P := Tryd.prog) w 33 5 none 0 c Tryd.underlying33
    go_enter Tryd.func43, Tryd.ntmps43
    go_wp2_with fail
    go_ret
    exact ⟨_, rfl, Own.nil _ _ _, Below.refl _ _⟩
  | some a =>
    have HS := hid hs
    clear hs
    have hq := fun w => eql_nil (P := Tryd.prog) w 33 5 (some a) n c Tryd.underlying33
    go_enter Tryd.func43, Tryd.ntmps43
    go_wp2_with (at_builtin; refine Held.go ?_)
    have ho := Own.lit w 5 w.heap.size [] #[] 0 rfl rfl (Nat.le_refl _) (by omega)
    have hb := below_new w (.cells #[] 5)
    generalize w.alloc (.cells #[] 5) = w1 at ho hb ⊢
    refine wpList_append_bytes _ rfl _ _ _ rfl _ Tryd.underlying33 info5b w.heap.size _ 0 [] rfl ho B _ n c bs rfl (HS.out.keep hb) (by omega) hb.size ?_
    intro v' w' h1 h2 h3
    have HK := hid (show Own w' w.heap.size 5 v' n bs ∧ Below w.heap.size w w' from ⟨by simpa using h1, hb.trans (below_of_grown h2 hb.size (fun g e => (ho.block g e).1))⟩)
    clear h1 h2 h3 ho hb
    go_wp2_with fail
    go_ret
    exact ⟨v', rfl, HK.out⟩
theorem unless_calls (b : Bool) (k : Nat) (w : World) : Calls Tryd.prog 57 #[.bool b, .int .i64 (k : Int)] w fun e w' => e = .returned (.int .i64 ((if b then 0 else k : Nat) : Int)) ∧ w = w' := by
  cases b with
  | true =>
    go_enter Tryd.func57, Tryd.ntmps57
    go_wp2_with fail
    go_ret
    exact ⟨rfl, rfl⟩
  | false =>
    go_enter Tryd.func57, Tryd.ntmps57
    go_wp2_with fail
    go_ret
    exact ⟨rfl, rfl⟩
/-- a function value: a function of the program, what stands ahead of its arguments, and what it holds -/
structure FnV where
  k : FuncId
  first : Array Value
  cap : Array Value
def fnV (f : FnV) : Value := .func (.func f.k) f.first f.cap
def EntersV (k : FuncId) : Prop := ∀ args w, (callFunc k args).run Tryd.prog w = .ok (.enter k args) w
/-- the first number that is not 0 -/
def firstE : List Nat → Nat
  | [] => 0
  | e :: l => if e = 0 then firstE l else e
theorem firstE_zero {es : List Nat} (h : ∀ e ∈ es, e = 0) : firstE es = 0 := by
  induction es with
  | nil => rfl
  | cons e l ih => rw [firstE, if_pos (h e (by simp))]; exact ih (fun x hx => h x (by simp [hx]))
set_option maxRecDepth 20000 in
set_option maxHeartbeats 4000000 in
theorem first_calls (es : List Nat) (vs : List FnV) (b c n : Nat) (w : World) (hl : vs.length = es.length) (hn : es.length = n) (hn2 : n ≤ 1099511627776)
    (hcell : ∀ (k : Nat) v, vs[k]? = some v → w.cell? ⟨b, k, none⟩ = some (fnV v))
    (hstep : ∀ (k : Nat) e v, es[k]? = some e → vs[k]? = some v → (∀ j < k, es[j]? = some 0) → EntersV v.k ∧ ∀ W, Below w.heap.size w W → Calls Tryd.prog v.k (v.first ++ v.cap) W fun x W' => x = .returned (.int .i64 (e : Int)) ∧ Below w.heap.size w W') :
    Calls Tryd.prog 55 #[.slice (some ⟨b, 0, none⟩) n c] w fun e w' => e = .returned (.int .i64 ((firstE es : Nat) : Int)) ∧ Below w.heap.size w w' := by
  have HC := hid hcell; have HS := hid hstep
  have HR := hid (show firstE (es.drop 0) = firstE es from rfl)
  clear hcell hstep
  generalize firstE es = R at HR ⊢
  go_enter Tryd.func55, Tryd.ntmps55
  go_wp2_with fail
  go_loopw [8] (fun v8 wr => ∃ (k : Nat), v8 = .int .i64 (k : Int) ∧ k ≤ n ∧ Hid (Below w.heap.size w wr) ∧ Hid (firstE (es.drop k) = R) ∧ Hid (∀ j < k, es[j]? = some 0)) (fun v8 _ => n - (intOf v8).toNat)
  case atStart => exact ⟨0, rfl, Nat.zero_le _, hid (Below.refl _ _), HR, hid (fun j h => absurd h (by omega))⟩
  case round =>
    clear HR
    obtain ⟨k, rfl, hk, HI, HR, HQ⟩ := hrel
    by_cases hlt : k < n
    · have hlt' : (k : Int) < (n : Int) := by omega
      obtain ⟨f, hf⟩ : ∃ f, es[k]? = some f := ⟨es[k]'(by omega), List.getElem?_eq_getElem (by omega)⟩
      obtain ⟨v, hv⟩ : ∃ v, vs[k]? = some v := ⟨vs[k]'(by omega), List.getElem?_eq_getElem (by omega)⟩
      have hc := (HI.out.cell (p := ⟨b, k, none⟩) (lt_of_cell (HC.out k v hv))).trans (HC.out k v hv)
      obtain ⟨hE, hS⟩ := HS.out k f v hf hv HQ.out
      unfold EntersV at hE
      have HST := hid (hS wr HI.out)
      have hd : es.drop k = f :: es.drop (k + 1) := by
        have hkf : k < es.length := by omega
        rw [List.drop_eq_getElem_cons hkf]
        rw [List.getElem?_eq_getElem hkf] at hf
        cases hf
        rfl
      rw [hd] at HR
      have HF := hid hf
      obtain ⟨fk, first, cap⟩ := v
      unfold fnV at hc
      dsimp only at hc hE HST
      clear hd hf hv hS HI
      go_wp2_with fail
      refine HST.out.mono ?_
      rintro _ w1 ⟨rfl, hI⟩
      have HI := hid hI
      clear hI HST hc hE
      by_cases hz : f = 0
      · subst hz
        have HR2 := hid (show firstE (es.drop (k + 1)) = R from by have := HR.out; rw [firstE, if_pos rfl] at this; exact this)
        have HQ2 := hid (show ∀ j < k + 1, es[j]? = some 0 from fun j hj => by
          by_cases e : j = k
          · rw [e]; exact HF.out
          · exact HQ.out j (by omega))
        rw [show ((0 : Nat) : Int) = 0 from rfl]
        clear HR HQ HF
        go_wp2_with fail
        go_roundw
        case rel => exact ⟨k + 1, by go_num, by omega, HI, HR2, HQ2⟩
        case measure => simp [intOf]; omega
      · have HE := hid (show f = R from by have := HR.out; rw [firstE, if_neg hz] at this; exact this)
        have hz' : ¬ (f : Int) = 0 := by omega
        clear HR hz HQ HF
        go_wp2_with fail
        go_ret
        exact ⟨by rw [← HE.out]; rfl, HI.out⟩
    · obtain rfl : k = n := by omega
      have HE := hid (show 0 = R from by
        have := HR.out
        rw [List.drop_of_length_le (by omega)] at this
        exact this)
      clear HR
      go_wp2_with fail
      go_ret
      exact ⟨by rw [← HE.out]; rfl, HI.out⟩
end Go.Proofs.YtoogaapjdlhpbaaDoor
/- A store of blobs in memory; what it asks of itself. -/
namespace Go.Proofs.YtoogaapjdlhpbaaDoor
open Go.RowKit

theorem does_load {P : Program} {o : Oper} {a : Act} {w : World} {T : Value → World → Prop} (t : TypeId) (x : Operand) (ho : o.op = .load t x) (g : Nat) (hx : a.eval x = .pointer (some ⟨g, 0, none⟩)) (t' : TypeId) {cs : Array Value} (hb : Blk w g t' cs) (d : TypeDesc)
    (hu : P.underlying t = some d) (hd : (match d with | .struct _ | .array _ _ => true | _ => false) = true) (hi : (P.info? t).map (·.size) = some cs.size) (h : T (.agg cs) w) : OpDoes P o a w T :=
  fun _ _ hK => wp_load_row t x ho g hx t' cs (0, 0) d hb hu hd hi (hK _ _ h)
theorem cell_keep {w w' : World} {b o : Nat} {v : Value} (h : w.cell? ⟨b, o, none⟩ = some v) (hb : Below w.heap.size w w') : w'.cell? ⟨b, o, none⟩ = some v := (hb.cell (p := ⟨b, o, none⟩) (lt_of_cell h)).trans h
/-- a store of blobs, as the document tells it -/
structure BS where
  width : Nat
  room : Nat
  l : List (List UInt8 × List UInt8)
def lookB (l : List (List UInt8 × List UInt8)) (id : List UInt8) : Option (List UInt8) := (l.find? (fun p => p.1 == id)).map (·.2)
def usedB (l : List (List UInt8 × List UInt8)) : Nat := (l.map (fun p => p.2.length)).sum
structure OKB (b : BS) : Prop where
  w1 : 1 ≤ b.width
  w2 : b.width ≤ 32
  r : b.room ≤ 67108864
  ids : ∀ p ∈ b.l, p.1.length = 32
  lens : ∀ p ∈ b.l, p.2.length ≤ 4096
  used : usedB b.l ≤ b.room
  nodup : (b.l.map (fun p => p.1)).Nodup
/-- one blob in memory, or none -/
def ElB (w : World) (F : List Nat) (s m : Nat) : Option Nat → Option (List UInt8) → Prop
  | none, none => True
  | some g, some bs => ∃ A c, Blk w g 79 #[.slice A bs.length c] ∧ SB w w.heap.size A bs.length bs ∧ bs.length ≤ c ∧ bs.length ≤ 4096 ∧ (g ∈ F ∧ g ≠ s ∧ g ≠ m) ∧ ∀ b off sp, A = some ⟨b, off, sp⟩ → b ∈ F ∧ b ≠ s ∧ b ≠ m
  | _, _ => False
def bcell (s m : Nat) (b : BS) : Array Value := #[.pointer (some ⟨s, 0, none⟩), .int .i64 (b.width : Int), .int .i64 (b.room : Int), .int .i64 (usedB b.l : Int), .map (some m)]
structure StB (w : World) (F : List Nat) (s m n : Nat) (b : BS) (f : List UInt8 → Option Nat) : Prop where
  ok : OKB b
  hd : Blk w s 54 (bcell s m b)
  mp : MapP w m n f
  sin : s ∈ F
  min_ : m ∈ F
  ne : s ≠ m
  each : ∀ id : List UInt8, id.length = 32 → ElB w F s m (f id) (lookB b.l id)
  lt : ∀ x ∈ F, x < w.heap.size
section
variable {w w' : World} {F : List Nat} {s m n : Nat} {b : BS} {f : List UInt8 → Option Nat}
theorem ElB.chg {L F' : List Nat} {x : Option Nat} {y : Option (List UInt8)} (h : ElB w F s m x y) (hc : Chg L w w') (hL : ∀ b ∈ F, b ≠ s → b ≠ m → b ∉ L) (hF : ∀ b ∈ F, b ∈ F') : ElB w' F' s m x y := by
  cases x with
  | none => cases y with
    | none => trivial
    | some bs => exact h.elim
  | some g => cases y with
    | none => exact h.elim
    | some bs =>
      obtain ⟨A, c, h1, h2, h3, h4, ⟨h5, h6, h7⟩, h8⟩ := h
      refine ⟨A, c, h1.chg hc (hL g h5 h6 h7), (h2.chg hc (fun b off e _ => ?_)).more hc.size, h3, h4, ⟨hF g h5, h6, h7⟩, fun b off sp e => ?_⟩
      · obtain ⟨h9, h10, h11⟩ := h8 b off none e
        exact hL b h9 h10 h11
      · obtain ⟨h9, h10, h11⟩ := h8 b off sp e
        exact ⟨hF b h9, h10, h11⟩
theorem StB.chg {L : List Nat} (h : StB w F s m n b f) (hc : Chg L w w') (hL : ∀ b ∈ F, b ∉ L) : StB w' F s m n b f where
  ok := h.ok
  hd := h.hd.chg hc (hL s h.sin)
  mp := h.mp.chg hc (hL m h.min_)
  sin := h.sin
  min_ := h.min_
  ne := h.ne
  each := fun id hl => (h.each id hl).chg hc (fun b hb _ _ => hL b hb) (fun _ hb => hb)
  lt := fun x hx => Nat.lt_of_lt_of_le (h.lt x hx) hc.size
theorem StB.keep (h : StB w F s m n b f) (hb : Below w.heap.size w w') : StB w' F s m n b f := h.chg (Chg.of_below (L := []) hb) (fun _ _ hn => by cases hn)
theorem StB.drew (h : StB w F s m n b f) : StB w.drew F s m n b f := h.keep ((Below.refl _ _).drew)
end
set_option maxRecDepth 20000 in
theorem bvalid_calls (s : Nat) (wd rm us mv : Value) (w : World) (h : Blk w s 54 #[.pointer (some ⟨s, 0, none⟩), wd, rm, us, mv]) : Calls Tryd.prog 45 #[.pointer (some ⟨s, 0, none⟩)] w fun e w' => e = .returned (.bool true) ∧ w = w' := by
  have hsz : (Tryd.prog.info? 54).map (·.size) = some 5 := by kernel_rfl
  obtain ⟨j, hj, _⟩ := Option.map_eq_some_iff.1 hsz
  have he := fun W => run_eql_ptr_same (P := Tryd.prog) W (tp := 23) (te := 54) ⟨s, 0, none⟩ (by kernel_rfl) hj
  have c0 : w.cell? ⟨s, 0, none⟩ = some (.pointer (some ⟨s, 0, none⟩)) := h.cell 0 rfl
  clear h hj hsz
  go_enter Tryd.func45, Tryd.ntmps45
  go_wp2_with fail
  go_ret
  exact ⟨rfl, rfl⟩
/-- a store that nobody made: nil, or one that does not know itself -/
def NoObj (w : World) (h : Value) : Prop := h = .pointer none ∨ ∃ g, h = .pointer (some ⟨g, 0, none⟩) ∧ w.cell? ⟨g, 0, none⟩ = some (.pointer none)
theorem NoObj.keep {w w' : World} {h : Value} (hn : NoObj w h) (hb : Below w.heap.size w w') : NoObj w' h := by
  rcases hn with rfl | ⟨g, rfl, hc⟩
  · exact .inl rfl
  · exact .inr ⟨g, rfl, (hb.cell (p := ⟨g, 0, none⟩) (lt_of_cell hc)).trans hc⟩
theorem eql_none_ptr {P : Program} (w : World) (t e : TypeId) (b : Option Addr) (h : P.underlying t = some (.pointer e)) :
    (binOp .eql t (.pointer none) (.pointer b)).run P w = .ok (.bool b.isNone) w := by
  have hq : ∀ d : Nat, (Op.equalIn (d + 1) t (.pointer none) (.pointer b)).run P w = .ok b.isNone w := fun d => by
    simp [Op.equalIn, run_underlying h]
  simp only [binOp]
  simp [Op.equal, Op.maxDepth, hq 9999]
set_option maxRecDepth 20000 in
theorem bvalid_none (h : Value) (w : World) (hn : NoObj w h) : Calls Tryd.prog 45 #[h] w fun e w' => e = .returned (.bool false) ∧ w = w' := by
  rcases hn with rfl | ⟨g, rfl, hc⟩
  · go_enter Tryd.func45, Tryd.ntmps45
    go_wp2_with fail
    go_ret
    exact ⟨rfl, rfl⟩
  · have he := fun W => eql_none_ptr (P := Tryd.prog) W 23 54 (some ⟨g, 0, none⟩) Tryd.underlying23
    go_enter Tryd.func45, Tryd.ntmps45
    go_wp2_with fail
    go_ret
    exact ⟨rfl, rfl⟩
end Go.Proofs.YtoogaapjdlhpbaaDoor
