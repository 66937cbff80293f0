/- Contract of package quota: inOrder; rows that grow by one. -/
import Derived.Test.YtjgnbmkhibdcfaaQtSort
import Derived.Maps.AppendAt
import Derived.Great.Walk
import Derived.OwnWalk
namespace Go.Proofs.Ytjgnbmkhibdcfaa
open Go.RowKit Go.Shelf Go.WideElems
open Go.Sort (HoldsK PermIn SortedIn)

section
variable {P : Program} {ops : Array Oper} {rest : List Oper} {o : Oper} {a : Act} {w w' : World} {Q : Exit → Act → World → Prop}
theorem wpList_does {T : Value → World → Prop} (hg : o.guard = none) (h : OpDoes P o a w T) (hK : ∀ v w', T v w' → wpList P ops Q rest (a.put o.dst v) w') : wpList P ops Q (o :: rest) a w :=
  wpList_plain hg fun K hK' => h K Q (fun v w' t => hK' _ _ (hK v w' t))
theorem wpList_slice1 (hg : o.guard = none) (t : TypeId) (len i : Nat) (x : Operand) (ho : o.op = .buildSlice t len #[(i, x)]) {u v : Value} (hx : a.eval x = u) (hr : (Instr.buildSlice t len #[(i, u)]).run P w = .ok v w') (h : wpList P ops Q rest (a.put o.dst v) w') : wpList P ops Q (o :: rest) a w :=
  wpList_does (T := fun v2 w2 => v2 = v ∧ w2 = w') hg (fun K Q hK => by
    unfold Oper.wp execOp
    simp only [ho, List.map_toArray, List.map_cons, List.map_nil, hx, Sem.run_bind, hr, Result.andThen_ok]
    exact hK _ _ ⟨rfl, rfl⟩) (by rintro _ _ ⟨rfl, rfl⟩; exact h)
theorem wpList_append1 (hg : o.guard = none) (s x : Operand) (t : TypeId) (ho : o.op = .call { callee := .builtin .append, args := #[s, x], argTypes := #[t, t] }) {v u v' : Value} (hv : a.eval s = v) (hx : a.eval x = u)
    (hr : (Builtin.append_ #[t, t] o.type #[v, u]).run P w = .ok v' w') (h : wpList P ops Q rest (a.put o.dst v') w') : wpList P ops Q (o :: rest) a w :=
  wpList_does (T := fun v2 w2 => v2 = v' ∧ w2 = w') hg (fun K Q hK => by
    unfold Oper.wp
    simp [execOp, ho, resolve, invoke, builtin, hv, hx, hr, Result.andThen]
    exact hK _ _ ⟨rfl, rfl⟩) (by rintro _ _ ⟨rfl, rfl⟩; exact h)
theorem run_callc {kf : FuncId} {cap : Array Value} (hE : ∀ args W, (callFunc kf args).run P W = .ok (.enter kf args) W) {c x : Operand} {ts : Array TypeId} (ho : o.op = .call { callee := .value c, args := #[x], argTypes := ts }) {v : Value} (hc : a.eval c = .func (.func kf) #[] cap) (hx : a.eval x = v) (W : World) :
    (execOp a.eval o).run P W = .ok (.enter kf (#[v] ++ cap)) W := by
  simp [execOp, ho, resolve, Deferred.ofValue, invoke, hc, hx, hE]
theorem wpList_callc {kf : FuncId} {cap args : Array Value} (hg : o.guard = none) (hE : ∀ args W, (callFunc kf args).run P W = .ok (.enter kf args) W) {c x : Operand} {ts : Array TypeId} (ho : o.op = .call { callee := .value c, args := #[x], argTypes := ts }) {v : Value} (hc : a.eval c = .func (.func kf) #[] cap) (hx : a.eval x = v) (hA : args = #[v] ++ cap)
    {T : Value → World → Prop} (hcall : Calls P kf args w fun e w' => ∃ u, e = .returned u ∧ T u w') (hK : ∀ u w', T u w' → wpList P ops Q rest (a.put o.dst u) w') : wpList P ops Q (o :: rest) a w :=
  wpList_does hg (does_call kf args (by rw [hA]; exact run_callc hE ho hc hx w) hcall) hK
end
theorem slice_one {P : Program} {t e : TypeId} {z : Value} {size bytes : Nat} (ht : P.underlying t = some (.slice e)) (info : (P.info? e).map (fun i => (i.zero, i.size, i.bytes)) = some (some z, size, bytes)) (u : Value) (hu : u.cells.size = size) (hs : 0 < size) (hs2 : size ≤ 1000) (W : World) :
    (Instr.buildSlice t 1 #[(0, u)]).run P W = .ok (.slice (some ⟨W.heap.size, 0, none⟩) 1 1) (W.alloc (.cells u.cells e)) := by
  obtain ⟨i, hi, hz, hsz, hb⟩ := info_parts info
  refine run_buildSlice (P := P) W _ _ 1 _ _ i _ ht hi hz (by rw [hsz]; omega) (by rw [hsz]; omega) ?_
  rw [hsz]
  have := Great.fill_whole (s := size) hs [u] ((Array.range (1 * size)).map (z.cells[· % z.cells.size]!)) (by simp [hu]) (by simp)
  simpa using this
theorem app_one {P : Program} {w : World} {base : Nat} {t ty e : TypeId} {z : Value} {size bytes : Nat} (ht : P.underlying t = some (.slice e)) (info : (P.info? e).map (fun i => (i.zero, i.size, i.bytes)) = some (some z, size, bytes)) (hzs : z.cells.size = size) (hs : 0 < size) (hby : bytes ≤ 1000) {v : Value} {n : Nat} {xs : List Value}
    (hown : w.ownsRow base e size v n xs) {q : Nat} {cs : Array Value} (hq : Blk w q e cs) (hcs : cs.size = size) (h1 : ∀ u ∈ cs.toList, u.oneCell' = true) (hn : n ≤ 1000000) (hb : base ≤ w.heap.size) :
    ∃ v' w', (Builtin.append_ #[t, t] ty #[v, .slice (some ⟨q, 0, none⟩) 1 1]).run P w = .ok v' w' ∧ w'.ownsRow base e size v' (n + 1) (xs ++ cs.toList) ∧ w.grownBy w' v.ownBlock ∧ (v'.ownBlock = v.ownBlock ∨ v'.ownBlock = some w.heap.size) := by
  obtain ⟨i, hi, hz, hsz, hbi⟩ := info_parts info
  obtain ⟨v', w', hr, h2, h3, -, h5⟩ := run_append_own_at (P := P) w base t ty e i z size bytes ht hi hz hsz hbi hzs hs v n xs hown ⟨q, 0, none⟩ 1 1 cs.toList (by simp [hcs]) (fun j u hu => by
    rw [Addr.add_lit, Nat.zero_add]
    exact hq.cell j (by simpa using hu)) h1 (by simp [maxLen]; omega) (by
      have : (n + 1) * bytes ≤ 1000001 * 1000 := Nat.mul_le_mul (by omega) hby
      omega) hb
  exact ⟨v', w', hr, h2, h3, h5⟩
theorem RanG.left_le {P : Program} {t e : TypeId} {K E : Type} {κ : KeyK P t K} {ε : ElemK P e E} {w : World} {m r n : Nat} {f : K → Option E} {todo : K → Bool} (h : RanG κ ε w m r n f todo) : w.rangeLeft m r ≤ n := by
  obtain ⟨_, _, _, h1, _⟩ := h
  rw [h1.left_eq]
  obtain ⟨es, _, _, seen, _, _, _, hs, _, _, _, hc, _⟩ := h1
  rw [← hc]
  unfold leftOf
  exact Nat.le_trans (Array.size_filter_le) hs
theorem row_grown {w w' : World} {base size n : Nat} {e : TypeId} {v : Value} {xs : List Value} {row : Option Nat} (h : w.ownsRow base e size v n xs) (hg : w.grownBy w' row) (hne : v.ownBlock = none ∨ row ≠ v.ownBlock) : w'.ownsRow base e size v n xs := by
  refine ⟨h.1, ?_⟩
  rcases h.2 with h2 | ⟨g, cap, cur, e1, e2, e3, e4⟩
  · exact .inl h2
  · refine .inr ⟨g, cap, cur, e1, e2, ?_, e4⟩
    have hlt : g < w.heap.size := (Array.getElem?_eq_some_iff.1 e3).1
    exact (hg.block g hlt (fun e5 => by
      rcases hne with h | h
      · rw [e1] at h; cases h
      · exact h (by rw [← e5, e1]; rfl))).trans e3
theorem row_keep {w w' : World} {base size n : Nat} {e : TypeId} {v : Value} {xs : List Value} (h : w.ownsRow base e size v n xs) (hb : Below w.heap.size w w') : w'.ownsRow base e size v n xs := by
  refine ⟨h.1, ?_⟩
  rcases h.2 with h2 | ⟨g, cap, cur, e1, e2, e3, e4⟩
  · exact .inl h2
  · exact .inr ⟨g, cap, cur, e1, e2, (hb.block g (Array.getElem?_eq_some_iff.1 e3).1).trans e3, e4⟩
theorem own_lt {w : World} {base size n : Nat} {e : TypeId} {v : Value} {xs : List Value} (h : w.ownsRow base e size v n xs) {b : Nat} (hb : v.ownBlock = some b) : base ≤ b ∧ b < w.heap.size := by
  rcases h.2 with ⟨h2, _⟩ | ⟨g, cap, cur, e1, e2, e3, e4⟩
  · rw [h2] at hb; cases hb
  · rw [e1] at hb; cases hb; exact ⟨e2, (Array.getElem?_eq_some_iff.1 e3).1⟩
theorem infoLK : (Try.prog.info? 71).map (fun i => (i.zero, i.size, i.bytes)) = some (some (.agg (kcells ([], zeroB 32))), 33, 48) := by kernel_rfl
theorem infoLK2 : (Try.prog.info? 71).map (fun i => (i.zero, i.size)) = some (some (.agg (kcells ([], zeroB 32))), 33) := by kernel_rfl
def flatK (ks : List SK) : List Value := ks.flatMap skEnc
theorem flatK_snoc (ks : List SK) (k : SK) : flatK (ks ++ [k]) = flatK ks ++ (kcells k.1).toList := by simp [flatK, skEnc]
/-- links that stand one behind the other -/
def LRow (w : World) (base : Nat) (A : Option Addr) (n : Nat) (ks : List SK) : Prop :=
  ks.length = n ∧ (0 < n → ∃ g, A = some ⟨g, 0, none⟩ ∧ base ≤ g ∧ ∀ (i : Nat) x, ks[i]? = some x → ∀ (j : Nat) v, (kcells x.1)[j]? = some v → w.cell? ⟨g, i * 33 + j, none⟩ = some v)
theorem LRow.keep {w w' : World} {base n : Nat} {A : Option Addr} {ks : List SK} (h : LRow w base A n ks) (hb : Below w.heap.size w w') : LRow w' base A n ks :=
  ⟨h.1, fun hn => by
    obtain ⟨g, h1, h2, h3⟩ := h.2 hn
    exact ⟨g, h1, h2, fun i x hx j v hv => cell_keep (h3 i x hx j v hv) hb⟩⟩
theorem get_flatK : ∀ (ks : List SK) (t : Nat), t < ks.length * 33 → (flatK ks)[t]? = some ((skEnc (ks[t / 33]!))[t % 33]!)
  | [], t, h => by simp at h
  | k :: ks, t, h => by
    have hl := skEnc_length k
    show (skEnc k ++ flatK ks)[t]? = _
    by_cases h1 : t < 33
    · rw [List.getElem?_append_left (by omega), show t / 33 = 0 by omega, show t % 33 = t by omega]
      simp [hl, h1]
    · rw [List.getElem?_append_right (by omega), hl, get_flatK ks (t - 33) (by simp at h; omega)]
      obtain ⟨u, rfl⟩ : ∃ u, t = u + 33 := ⟨t - 33, by omega⟩
      rw [show (u + 33) / 33 = u / 33 + 1 by omega, show (u + 33) % 33 = u % 33 by omega, Nat.add_sub_cancel]
      simp
theorem holds_row {w : World} {base g cap n : Nat} {ks : List SK} (h : w.ownsRow base 71 33 (.slice (some ⟨g, 0, none⟩) n cap) n (flatK ks)) (hn : ks.length = n) : HoldsK skEnc 33 w g 0 ks.toArray ∧ g < w.heap.size ∧ base ≤ g := by
  rcases h.2 with ⟨h2, _⟩ | ⟨g', cap', cur, e1, e2, e3, e4, e5, e6, e7⟩
  · simp at h2
  · simp only [Value.slice.injEq, Option.some.injEq, Addr.mk.injEq, and_true, true_and] at e1
    obtain ⟨rfl, rfl⟩ := e1
    refine ⟨fun j hj => ?_, (Array.getElem?_eq_some_iff.1 e3).1, e2⟩
    rw [Go.Sort.size_flatK] at hj
    have hj' : j < ks.length * 33 := by simpa using hj
    have hv : cur[j]? = some ((skEnc (ks[j / 33]!))[j % 33]!) := by
      rw [← get_flatK ks j hj', ← e7, List.getElem?_take_of_lt (by omega)]
      simp
    rw [Go.Sort.get_flatK _ _ _ _ hj, Nat.zero_add]
    have hb : Blk w g 71 cur := e3
    refine ⟨?_, hb.frozen j⟩
    rw [hb.cell j hv]
    simp
theorem ge_of_get {α : Type} [Inhabited α] {l : List α} {i : Nat} {x : α} (h : l[i]? = some x) : i < l.length ∧ l[i]! = x := by
  obtain ⟨h1, h2⟩ := List.getElem?_eq_some_iff.1 h
  exact ⟨h1, by rw [getElem!_pos l i h1]; exact h2⟩
theorem sort_row {w : World} {g n2 : Nat} {d d' : Array SK} {os : Array Obj} (hH : HoldsK skEnc 33 w g 0 d) (hg : g < w.heap.size) (hs : d'.size = d.size) :
    (∀ (i : Nat) x, d'.toList[i]? = some x → ∀ (j : Nat) v, (kcells x.1)[j]? = some v → (sortWorldK skEnc 33 w g 0 n2 d' os).cell? ⟨g, i * 33 + j, none⟩ = some v) ∧ w.grownBy (sortWorldK skEnc 33 w g 0 n2 d' os) (some g) := by
  have h2 := holdsK_sortWorldK_c skEnc 33 w g 0 d d' n2 os hH hg hs
  refine ⟨fun i x hx j v hv => ?_, ?_⟩
  · obtain ⟨h3, h4⟩ := ge_of_get hx
    have hj : j < 33 := by
      have := (Array.getElem?_eq_some_iff.1 hv).1
      have := kcells_size x.2
      omega
    have hc := (h2.cell (i := i) (c := j) (by simpa using h3) hj).1
    rw [Nat.zero_add] at hc
    rw [hc]
    have e1 : d'[i]! = x := by
      rw [getElem!_pos d' i (by simpa using h3)]
      have := (List.getElem?_eq_some_iff.1 hx).2
      simpa using this
    rw [e1]
    unfold skEnc
    have hlt : j < (kcells x.1).toList.length := by simpa using (Array.getElem?_eq_some_iff.1 hv).1
    rw [getElem!_pos _ j hlt]
    have := (Array.getElem?_eq_some_iff.1 hv).2
    simpa using this
  · unfold sortWorldK Go.Sort.putRowK Go.Sort.putRow Go.Sort.mapBlock Go.Sort.ahead Go.Sort.grow
    refine ⟨rfl, rfl, rfl, by simp, fun k hk hne => ?_⟩
    simp only
    rw [Array.getElem?_append_left (by simpa using hk), Array.getElem?_modify]
    rw [if_neg (fun e => hne (by rw [e]))]
/-- the keys that have come and are wanted -/
structure KeysK (l : List (LKey × Int)) (wn : LKey → Bool) (todo : LKey → Bool) (ks : List SK) : Prop where
  mem : ∀ k : SK, kok k.1 → (k ∈ ks ↔ ((szQ l k.1).isSome = true ∧ wn k.1 = true) ∧ todo k.1 = false)
  nodup : ks.Nodup
  ok : ∀ k ∈ ks, kok k.1
theorem KeysK.start (l : List (LKey × Int)) (wn : LKey → Bool) : KeysK l wn (fun k => (szQ l k).isSome) [] :=
  ⟨fun k _ => ⟨fun h => (by cases h), fun h => (by have h1 := h.1.1; have h2 := h.2; rw [h1] at h2; cases h2)⟩, List.nodup_nil, fun k h => (by cases h)⟩
theorem KeysK.take {l : List (LKey × Int)} {wn todo : LKey → Bool} {ks : List SK} (h : KeysK l wn todo ks) {k : LKey} (hk : kok k) (hs : (szQ l k).isSome = true) (ht : todo k = true) (hw : wn k = true) : KeysK l wn (fun z => todo z && !decide (z = k)) (ks ++ [skOf k hk]) where
  mem := fun z hz => by
    rw [List.mem_append, h.mem z hz, List.mem_singleton]
    by_cases e : z.1 = k
    · have e2 : z = skOf k hk := sk_ext e
      rw [e2, skOf_val]
      simp [hs, hw]
    · have e2 : z ≠ skOf k hk := fun e3 => e (by rw [e3]; rfl)
      simp [e, e2]
  nodup := by
    rw [List.nodup_append]
    refine ⟨h.nodup, by simp, fun a ha b hb => ?_⟩
    rw [List.mem_singleton.1 hb]
    intro e
    rw [e] at ha
    have := ((h.mem (skOf k hk) hk).1 ha).2
    rw [skOf_val, ht] at this
    cases this
  ok := fun z hz => by
    rcases List.mem_append.1 hz with hz | hz
    · exact h.ok z hz
    · rw [List.mem_singleton.1 hz]; exact hk
theorem KeysK.leave {l : List (LKey × Int)} {wn todo : LKey → Bool} {ks : List SK} (h : KeysK l wn todo ks) {k : LKey} (hw : wn k = false) : KeysK l wn (fun z => todo z && !decide (z = k)) ks where
  mem := fun z hz => by
    rw [h.mem z hz]
    by_cases e : z.1 = k
    · rw [e]; simp [hw]
    · simp [e]
  nodup := h.nodup
  ok := h.ok
/-- what inOrder gives -/
def InOP (w : World) (n : Nat) (l : List (LKey × Int)) (wn : LKey → Bool) (e : Ending) (w' : World) : Prop :=
  ∃ A c k ks, e = .returned (.slice A k c) ∧ LRow w' w.heap.size A k ks ∧ ks.Pairwise (fun a b => cmpK a.1 b.1 < 0) ∧ (∀ z : SK, kok z.1 → (z ∈ ks ↔ (szQ l z.1).isSome = true ∧ wn z.1 = true)) ∧ (∀ z ∈ ks, kok z.1) ∧ k ≤ n ∧ Below w.heap.size w w'
theorem sorted_strict {ks out : List SK} (hp : out.Perm ks) (hn : ks.Nodup) (hs : ∀ i j : Nat, i < j → ∀ x y, out[i]? = some x → out[j]? = some y → ¬ skCmp y x < 0) : out.Pairwise (fun a b => cmpK a.1 b.1 < 0) := by
  have hn2 : out.Nodup := hp.nodup_iff.2 hn
  rw [List.pairwise_iff_getElem]
  intro i j hi hj hij
  have h1 := hs i j hij _ _ (List.getElem?_eq_getElem hi) (List.getElem?_eq_getElem hj)
  have h2 := cmpK_swap (out[j]).2 (out[i]).2
  unfold skCmp at h1
  have h3 : cmpK out[i].1 out[j].1 ≠ 0 := fun e => by
    have e2 := cmpK_zero (out[i]).2 (out[j]).2 e
    have e3 : out[i] = out[j] := sk_ext e2
    have := (List.nodup_iff_pairwise_ne.1 hn2)
    have h4 := List.pairwise_iff_getElem.1 this i j hi hj hij
    exact h4 e3
  omega
end Go.Proofs.Ytjgnbmkhibdcfaa
