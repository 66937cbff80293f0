/- Maps whose keys and elements are of any kind: looked up, written, gone through. Plain lemmas over any program. -/
import Derived.Test.YtjgnbmkhibdcfaaWrMem
import Derived.Test.YtjgnbmkhibdcfaaRegInvG
import Derived.Maps.OwnSet
import Derived.Maps.RangeWalk
import Derived.StringKeys
import Derived.DeepKeys4
import Derived.LaidEqlPtr
import Derived.Laws.EntriesVeiled
namespace Go.Proofs.Ytjgnbmkhibdcfaa
open Go.RowKit Go.WideElems

/-- a kind of keys -/
structure KeyK (P : Program) (t : TypeId) (K : Type) where
  keyed : Maps.Keyed P t
  val : K → Value
  ok : K → Prop
  isk : ∀ {k}, ok k → (keyOf P t (val k)).isSome = true
  inj : ∀ {k k'}, ok k → ok k' → val k = val k' → k = k'
  inv : ∀ {v kl}, keyOf P t v = some kl → ∃ k, ok k ∧ v = val k
/-- a kind of elements -/
structure ElemK (P : Program) (e : TypeId) (E : Type) where
  val : E → Value
  zero : Value
  hz : ∀ w, (zeroValue e).run P w = .ok zero w
  rd : Value → Option (DataW Unit × List MemPlace)
  enc : E → DataW Unit
  made : ∀ x, rd (val x) = some (enc x, [])
  inv : ∀ {v y}, rd v = some y → ∃ x, v = val x ∧ y = (enc x, [])
  inj : ∀ {x x'}, enc x = enc x' → x = x'
  nn : ∀ x, enc x ≠ .nil
section
variable {P : Program} {t e : TypeId} {K E : Type} {κ : KeyK P t K} {ε : ElemK P e E}
noncomputable def KeyK.lit (κ : KeyK P t K) (k : K) : Lit := (keyOf P t (κ.val k)).getD .nil
theorem KeyK.lit_of {k : K} (h : κ.ok k) : keyOf P t (κ.val k) = some (κ.lit k) := by
  obtain ⟨x, hx⟩ := Option.isSome_iff_exists.1 (κ.isk h)
  unfold KeyK.lit
  rw [hx]
  rfl
theorem KeyK.lit_inj {k k' : K} (h : κ.ok k) (h' : κ.ok k') (he : κ.lit k = κ.lit k') : k = k' := by
  have h1 := KeyK.lit_of h
  have h2 := KeyK.lit_of h'
  rw [← he] at h2
  exact κ.inj h h' (κ.keyed.inj h1 h2)
theorem KeyK.lit_key {k : K} (h : κ.ok k) : WideAt.IsKeyLit (κ.lit k) := κ.keyed.key (KeyK.lit_of h)
def ElemK.encO (ε : ElemK P e E) : Option E → DataW Unit
  | none => .nil
  | some x => ε.enc x
def ElemK.valO (ε : ElemK P e E) : Option E → Value
  | none => ε.zero
  | some x => ε.val x
theorem ElemK.encO_inj {x y : Option E} (h : ε.encO x = ε.encO y) : x = y := by
  cases x with
  | none => cases y with
    | none => rfl
    | some y => exact (ε.nn y h.symm).elim
  | some x => cases y with
    | none => exact (ε.nn x h).elim
    | some y => rw [ε.inj h]
/-- a map in memory: f tells its entries -/
def MapG (κ : KeyK P t K) (ε : ElemK P e E) (w : World) (m n : Nat) (f : K → Option E) : Prop :=
  ∃ D : DataW Unit, w.ownsMap P t ε.rd m n D ∧ ∀ k, κ.ok k → D.atKey (κ.lit k) .nil = ε.encO (f k)
variable {w w' : World} {m n : Nat} {f : K → Option E}
theorem MapG.lt (h : MapG κ ε w m n f) : m < w.heap.size := by obtain ⟨D, h, -⟩ := h; exact h.lt
theorem MapG.grown {row : Option Nat} (h : MapG κ ε w m n f) (hg : w.grownBy w' row) (hne : row ≠ some m) : MapG κ ε w' m n f := by
  obtain ⟨D, h1, h2⟩ := h
  exact ⟨D, h1.kept hg (fun e => hne e.symm), h2⟩
theorem MapG.keep (h : MapG κ ε w m n f) (hb : Below w.heap.size w w') : MapG κ ε w' m n f := h.grown (grown_of_below hb none) (by simp)
theorem MapG.drew (h : MapG κ ε w m n f) : MapG κ ε w.drew m n f := h
theorem MapG.chg {L : List Nat} (h : MapG κ ε w m n f) (hc : Chg L w w') (hm : m ∉ L) : MapG κ ε w' m n f := by
  obtain ⟨D, ⟨es, clock, hb, r⟩, h2⟩ := h
  exact ⟨D, ⟨es, clock, (hc.block m (Array.getElem?_eq_some_iff.1 hb).1 hm).trans hb, r⟩, h2⟩
theorem MapG.mono {n' : Nat} (h : MapG κ ε w m n f) (hn : n ≤ n') : MapG κ ε w m n' f := by
  obtain ⟨D, h1, h2⟩ := h
  exact ⟨D, h1.mono hn, h2⟩
theorem MapG.congr {g : K → Option E} (h : MapG κ ε w m n f) (hg : ∀ k, κ.ok k → f k = g k) : MapG κ ε w m n g := by
  obtain ⟨D, h1, h2⟩ := h
  exact ⟨D, h1, fun k hk => by rw [h2 k hk, hg k hk]⟩
theorem MapG.new (κ : KeyK P t K) (ε : ElemK P e E) (w : World) : MapG κ ε (w.alloc (.map #[] 0)) w.heap.size 0 (fun _ => none) := ⟨.map [], World.ownsMap_made _ _ _ _, fun _ _ => rfl⟩
theorem MapG.look (h : MapG κ ε w m n f) {T : TypeId} (hT : P.underlying T = some (.map t e)) {k : K} (hk : κ.ok k) (c : Bool) :
    (Instr.lookup T (.map (some m)) (κ.val k) c).run P w = .ok (if c then .tuple #[ε.valO (f k), .bool (f k).isSome] else ε.valO (f k)) w := by
  obtain ⟨D, ⟨es, clock, hb, F, _, rfl⟩, h2⟩ := h
  have h3 := h2 k hk
  rcases Maps.fit_look c κ.keyed hT (ε.hz w) hb F (KeyK.lit_of hk) with ⟨hrun, _, hat⟩ | ⟨e0, y, _, _, hrun, hRv, hat, _⟩
  · rw [hat] at h3
    obtain hf := ElemK.encO_inj (x := none) h3
    rw [← hf]
    exact hrun
  · obtain ⟨x, hv, rfl⟩ := ε.inv hRv
    rw [hat] at h3
    obtain hf := ElemK.encO_inj (x := some x) h3
    rw [← hf, hrun, hv]
    rfl
theorem MapG.store [DecidableEq K] (h : MapG κ ε w m n f) {T : TypeId} (hT : P.underlying T = some (.map t e)) {k : K} (hk : κ.ok k) (hn : n < maxLen) (x : E) :
    ∃ w', (Instr.mapUpdate T (.map (some m)) (κ.val k) (ε.val x)).run P w = .ok () w' ∧ MapG κ ε w' m (n + 1) (fun z => if z = k then some x else f z) ∧ w.grownBy w' (some m) ∧ w'.heap.size = w.heap.size := by
  obtain ⟨D, h1, h2⟩ := h
  obtain ⟨w', hrun, ho, ht⟩ := h1.store κ.keyed hT hn (val := ε.val x) (KeyK.lit_of hk) (ε.made x)
  refine ⟨w', hrun, ⟨_, ho, fun z hz => ?_⟩, ht.grown, ?_⟩
  · by_cases e : z = k
    · subst e
      rw [Maps.atKey_put_same h1.isMap (KeyK.lit_key hz)]
      simp [ElemK.encO]
    · rw [Maps.atKey_put_other (fun e2 => e (KeyK.lit_inj hz hk e2)), h2 z hz]
      simp [e]
  · obtain ⟨es, clock, es', clock', hb, rfl⟩ := ht
    simp [ChangeMaps.setBlock]
theorem MapG.drop [DecidableEq K] (h : MapG κ ε w m n f) {T : TypeId} (hT : P.underlying T = some (.map t e)) {k : K} (hk : κ.ok k) (ty : TypeId) :
    ∃ w', (Builtin.delete_ #[T, t] ty #[.map (some m), κ.val k]).run P w = .ok (.tuple #[]) w' ∧ MapG κ ε w' m n (fun z => if z = k then none else f z) ∧ w.grownBy w' (some m) ∧ w'.heap.size = w.heap.size := by
  obtain ⟨D, h1, h2⟩ := h
  obtain ⟨w', hrun, ho, hg⟩ := h1.drop κ.keyed hT (KeyK.lit_of hk) ty
  refine ⟨w', hrun, ⟨_, ho, fun z hz => ?_⟩, hg.grown, ?_⟩
  · by_cases e : z = k
    · subst e
      rw [Maps.atKey_del_same]
      simp [ElemK.encO]
    · rw [Maps.atKey_del_other (fun e2 => e (KeyK.lit_inj hz hk e2)), h2 z hz]
      simp [e]
  · obtain ⟨es, clock, es', clock', hb, rfl⟩ := hg
    simp [ChangeMaps.setBlock]
theorem MapG.len (h : MapG κ ε w m n f) {T : TypeId} (hT : P.underlying T = some (.map t e)) (ty : TypeId) : ∃ s : Nat, s ≤ n ∧ (Builtin.len_ #[T] ty #[.map (some m)]).run P w = .ok (.int .i64 (s : Int)) w := by
  obtain ⟨D, h1, -⟩ := h
  exact ⟨_, h1.size_le, h1.len hT ty⟩
/-- a map that is gone through: todo tells what is still to come -/
def RanG (κ : KeyK P t K) (ε : ElemK P e E) (w : World) (m r n : Nat) (f : K → Option E) (todo : K → Bool) : Prop :=
  ∃ (D : DataW Unit) (left : Lit → Bool) (cnt : Nat), w.ranges P t ε.rd m r n D left cnt ∧ (∀ k, κ.ok k → D.atKey (κ.lit k) .nil = ε.encO (f k)) ∧ ∀ k, κ.ok k → left (κ.lit k) = todo k
variable {r : Nat} {todo : K → Bool}
theorem RanG.map (h : RanG κ ε w m r n f todo) : MapG κ ε w m n f := by
  obtain ⟨D, left, cnt, h1, h2, _⟩ := h
  exact ⟨D, h1.owns, h2⟩
theorem RanG.lt (h : RanG κ ε w m r n f todo) : r < w.heap.size := by obtain ⟨_, _, _, h1, _⟩ := h; exact h1.lt
theorem RanG.ne (h : RanG κ ε w m r n f todo) : r ≠ m := by obtain ⟨_, _, _, h1, _⟩ := h; exact h1.ne
theorem RanG.chg {L : List Nat} (h : RanG κ ε w m r n f todo) (hc : Chg L w w') (hm : m ∉ L) (hr : r ∉ L) : RanG κ ε w' m r n f todo ∧ w'.rangeLeft m r = w.rangeLeft m r := by
  have hrl := h.lt
  have hbl := h.map.lt
  obtain ⟨D, left, cnt, h1, h2, h3⟩ := h
  have hl := h1.left_eq
  obtain ⟨es, clock, since, seen, c0, e1, e2, e3, e4, e5, e6⟩ := h1
  have hnew : w'.ranges P t ε.rd m r n D left cnt := ⟨es, clock, since, seen, c0, (hc.block m hbl hm).trans e1, e2, e3, e4, (hc.block r hrl hr).trans e5, e6⟩
  exact ⟨⟨D, left, cnt, hnew, h2, h3⟩, by rw [hl, hnew.left_eq]⟩
theorem RanG.keep (h : RanG κ ε w m r n f todo) (hb : Below w.heap.size w w') : RanG κ ε w' m r n f todo ∧ w'.rangeLeft m r = w.rangeLeft m r := h.chg (L := []) (Chg.of_below hb) (by simp) (by simp)
theorem map_has_G {D : DataW Unit} (ho : w.ownsMap P t ε.rd m n D) {T : TypeId} (hT : P.underlying T = some (.map t e)) (hD : ∀ k, κ.ok k → D.atKey (κ.lit k) .nil = ε.encO (f k)) {k : K} (hk : κ.ok k) : Maps.has D (κ.lit k) = (f k).isSome := by
  obtain ⟨es, clock, hb, F, _, rfl⟩ := ho
  have h3 := hD k hk
  rcases Maps.fit_look false κ.keyed hT (ε.hz w) hb F (KeyK.lit_of hk) with ⟨_, _, hat⟩ | ⟨e0, y, _, _, _, hRv, hat, _⟩
  · rw [hat] at h3
    have hf := ElemK.encO_inj (x := none) h3
    rw [← hf, Maps.has_false_of_atKey hat]
    rfl
  · obtain ⟨x, hv, rfl⟩ := ε.inv hRv
    rw [hat] at h3
    have hf := ElemK.encO_inj (x := some x) h3
    rw [← hf, Maps.has_true_of_atKey hat]
    rfl
theorem wpList_range_G {ops : Array Oper} {rest : List Oper} {o : Oper} {a : Act} {Q : Exit → Act → World → Prop} (hg : o.guard = none) (x : Operand) {T : TypeId} (hop : o.op = .range T x) (hT : P.underlying T = some (.map t e)) (hx : a.eval x = .map (some m)) (h : MapG κ ε w m n f)
    (hK : ∀ w', RanG κ ε w' m w.heap.size n f (fun k => (f k).isSome) → w.grownBy w' none → w'.heap.size = w.heap.size + 1 → wpList P ops Q rest (a.put o.dst (.pointer (some ⟨w.heap.size, 0, none⟩))) w') : wpList P ops Q (o :: rest) a w := by
  obtain ⟨D, ho, hD⟩ := h
  refine wpList_range_own w hg x T hop t e κ.keyed hT ε.rd m n D hx ho fun w' h1 h2 h3 => hK w' ⟨D, _, _, h1, hD, fun k hk => map_has_G ho hT hD hk⟩ h2 h3
theorem wpList_next_G [DecidableEq K] {ops : Array Oper} {rest : List Oper} {o : Oper} {a : Act} {Q : Exit → Act → World → Prop} (hg : o.guard = none) (x : Operand) (hop : o.op = .next x false) (hx : a.eval x = .pointer (some ⟨r, 0, none⟩)) (h : RanG κ ε w m r n f todo)
    (hDone : (∀ k, κ.ok k → todo k = false) → wpList P ops Q rest (a.put o.dst (.tuple #[.bool false])) w)
    (hMore : ∀ (k : K) (c : E) (w' : World), κ.ok k → todo k = true → f k = some c → RanG κ ε w' m r n f (fun z => todo z && !decide (z = k)) → w'.rangeLeft m r < w.rangeLeft m r → w.grownBy w' (some r) → w'.heap.size = w.heap.size →
      (Instr.entry (.pointer (some ⟨r, 0, none⟩))).run P w' = .ok (.tuple #[κ.val k, ε.val c]) w' → wpList P ops Q rest (a.put o.dst (.tuple #[.bool true, κ.val k, ε.val c])) w') :
    wpList P ops Q (o :: rest) a w := by
  obtain ⟨D, left, cnt, h1, h2, h3⟩ := h
  refine wpList_next_ranges w hg x hop t κ.keyed ε.rd κ.val ε.val (fun key kl hk => (κ.inv hk).elim fun k hk => ⟨k, hk.2⟩) (fun v y hv => (ε.inv hv).elim fun c hc => ⟨c, hc.1⟩) m r n D left cnt hx h1 ?_ ?_
  · intro _ hl
    exact hDone fun k hk => by rw [← h3 k hk]; exact hl _
  · intro k c kl y w' cnt' hkey hlk hv hat hrg hlt hgr hsz hen
    obtain ⟨k', hk', ek⟩ := κ.inv hkey
    rw [ek] at hkey hen ⊢
    have ekl : kl = κ.lit k' := by
      have := KeyK.lit_of hk'
      rw [hkey] at this
      exact Option.some.inj this
    subst ekl
    have ey : y = (ε.enc c, []) := by
      have := ε.made c
      rw [hv] at this
      exact Option.some.inj this
    subst ey
    have hf : f k' = some c := by
      have h4 := h2 k' hk'
      rw [hat] at h4
      exact (ElemK.encO_inj (x := some c) h4).symm
    refine hMore k' c w' hk' (by rw [← h3 k' hk']; exact hlk) hf ⟨D, _, cnt', hrg, h2, fun z hz => ?_⟩ (by rw [hrg.left_eq, h1.left_eq]; exact hlt) hgr hsz hen
    rw [h3 z hz]
    by_cases ez : z = k'
    · subst ez
      rw [WideAt.sameKey_self (KeyK.lit_key hz)]
      simp
    · rw [Maps.sameKey_ne (fun e2 => ez (KeyK.lit_inj hz hk' e2))]
      simp [ez]
theorem RanG.drop [DecidableEq K] (h : RanG κ ε w m r n f todo) {T : TypeId} (hT : P.underlying T = some (.map t e)) {k : K} (hk : κ.ok k) (ty : TypeId) :
    ∃ w', (Builtin.delete_ #[T, t] ty #[.map (some m), κ.val k]).run P w = .ok (.tuple #[]) w' ∧ RanG κ ε w' m r n (fun z => if z = k then none else f z) (fun z => todo z && !decide (z = k)) ∧ w'.rangeLeft m r ≤ w.rangeLeft m r ∧ w.grownBy w' (some m) ∧ w'.heap.size = w.heap.size := by
  obtain ⟨D, left, cnt, h1, h2, h3⟩ := h
  obtain ⟨w', cnt', hrun, hrg, hle, ht⟩ := h1.drop κ.keyed hT (KeyK.lit_of hk) ty
  refine ⟨w', hrun, ⟨_, _, cnt', hrg, fun z hz => ?_, fun z hz => ?_⟩, by rw [hrg.left_eq, h1.left_eq]; exact hle, ht.grown, ?_⟩
  · by_cases e : z = k
    · subst e
      rw [Maps.atKey_del_same]
      simp [ElemK.encO]
    · rw [Maps.atKey_del_other (fun e2 => e (KeyK.lit_inj hz hk e2)), h2 z hz]
      simp [e]
  · rw [h3 z hz]
    by_cases ez : z = k
    · subst ez
      rw [WideAt.sameKey_self (KeyK.lit_key hz)]
      simp
    · rw [Maps.sameKey_ne (fun e2 => ez (KeyK.lit_inj hz hk e2))]
      simp [ez]
  · obtain ⟨es, clock, es', clock', hb, rfl⟩ := ht
    simp [ChangeMaps.setBlock]
end
end Go.Proofs.Ytjgnbmkhibdcfaa
