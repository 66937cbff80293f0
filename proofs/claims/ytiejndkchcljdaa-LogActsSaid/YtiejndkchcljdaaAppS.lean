/- 'x.f = append(x.f, g(..))' as a region that draws its order: what holds between its operations. Plain lemmas over any program. -/
import Derived.Test.YtiejndkchcljdaaRegInvG
import Derived.Test.YtiejndkchcljdaaWrMem
import Derived.Maps.AppendAt
namespace Go.Proofs.Ytiejndkchcljdaa
open Go Go.RowKit

structure ApS (w1 : World) (base T fi : Nat) (te e : TypeId) (cs : Array Value) (sv : Value) (n : Nat) (xs : List Value) (ic ib ia is : Nat) (CP : Value → World → Prop) (NP : Value → Nat → Prop) (f : Nat → Bool) (gh : Nat → Value) (W : World) : Prop where
  top0 : Blk w1 T te cs
  svc : cs[fi]? = some sv
  row0 : w1.ownsRow base e 1 sv n xs
  hb : base ≤ w1.heap.size
  ne : sv.ownBlock ≠ some T
  st : ∀ v W W', w1.heap.size ≤ W.heap.size → Chg (T :: sv.ownBlock.toList) W W' → CP v W → CP v W'
  chg : Chg (T :: sv.ownBlock.toList) w1 W
  pre : f ic = false → Below w1.heap.size w1 W
  post : f ic = true → CP (gh ic) W
  lit : f ib = true → f ic = true ∧ ∃ q, gh ib = .slice (some ⟨q, 0, none⟩) 1 1 ∧ w1.heap.size ≤ q ∧ Blk W q e #[gh ic]
  row : f ia = false → W.ownsRow base e 1 sv n xs
  ap : f ia = true → f ib = true ∧ W.ownsRow base e 1 (gh ia) (n + 1) (xs ++ [gh ic]) ∧ ((gh ia).ownBlock = sv.ownBlock ∨ ∃ b, (gh ia).ownBlock = some b ∧ w1.heap.size ≤ b ∧ NP (gh ic) b)
  top : f is = false → Blk W T te cs
  up : f is = true → f ia = true ∧ Blk W T te (cs.setIfInBounds fi (gh ia))
theorem ap_ne {f : Nat → Bool} {i j : Nat} (h : j ≠ i) : upd f i j = f j := by unfold upd; simp [h]
theorem ap_eq {f : Nat → Bool} {i : Nat} : upd f i i = true := by unfold upd; simp
theorem apN_ne {G : Type} {gh : Nat → G} {i j : Nat} {k : G} (h : j ≠ i) : updN gh i k j = gh j := by unfold updN; simp [h]
theorem apN_eq {G : Type} {gh : Nat → G} {i : Nat} {k : G} : updN gh i k i = k := by unfold updN; simp
section
variable {w1 W W' : World} {base T fi n ic ib ia is : Nat} {te e : TypeId} {cs : Array Value} {sv : Value} {xs : List Value} {CP : Value → World → Prop} {NP : Value → Nat → Prop} {f : Nat → Bool} {gh : Nat → Value}
theorem kept_below {base : Nat} {e : TypeId} {v : Value} {n : Nat} {xs : List Value} (h : W.ownsRow base e 1 v n xs) (hb : Below W.heap.size W W') : W'.ownsRow base e 1 v n xs := World.ownsRow.kept h (grown_of_below hb none) (by
  rcases hv : v.ownBlock with _ | b
  · exact .inl rfl
  · exact .inr (by simp))
theorem kept_block {base : Nat} {e : TypeId} {v : Value} {n : Nat} {xs : List Value} {g : Nat} (h : W.ownsRow base e 1 v n xs) (hg : W.grownBy W' (some g)) (hne : v.ownBlock ≠ some g) : W'.ownsRow base e 1 v n xs := World.ownsRow.kept h hg (.inr hne)
theorem ApS.start (w1 : World) (base T fi : Nat) (te e : TypeId) (cs : Array Value) (sv : Value) (n : Nat) (xs : List Value) (ic ib ia is m : Nat) (CP : Value → World → Prop) (NP : Value → Nat → Prop) (hm : ic < m ∧ ib < m ∧ ia < m ∧ is < m) (gh : Nat → Value)
    (h1 : Blk w1 T te cs) (h2 : cs[fi]? = some sv) (h3 : w1.ownsRow base e 1 sv n xs) (h4 : base ≤ w1.heap.size) (h5 : sv.ownBlock ≠ some T) (h6 : ∀ v W W', w1.heap.size ≤ W.heap.size → Chg (T :: sv.ownBlock.toList) W W' → CP v W → CP v W') :
    ApS w1 base T fi te e cs sv n xs ic ib ia is CP NP (fun j => decide (m ≤ j)) gh w1.drew where
  top0 := h1
  svc := h2
  row0 := h3
  hb := h4
  ne := h5
  st := h6
  chg := (Chg.refl _ _).drew
  pre := fun _ => (Below.refl _ _).drew
  post := fun h => by have := of_decide_eq_true h; omega
  lit := fun h => by have := of_decide_eq_true h; omega
  row := fun _ => kept_below h3 (Below.refl _ _).drew
  ap := fun h => by have := of_decide_eq_true h; omega
  top := fun _ => h1.drew
  up := fun h => by have := of_decide_eq_true h; omega
theorem ApS.step (h : ApS w1 base T fi te e cs sv n xs ic ib ia is CP NP f gh W) (hb : Below W.heap.size W W') (i : Nat) (v : Value) (n1 : ic ≠ i) (n2 : ib ≠ i) (n3 : ia ≠ i) (n4 : is ≠ i) : ApS w1 base T fi te e cs sv n xs ic ib ia is CP NP (upd f i) (updN gh i v) W' where
  top0 := h.top0
  svc := h.svc
  row0 := h.row0
  hb := h.hb
  ne := h.ne
  st := h.st
  chg := h.chg.trans (Chg.of_below (L := []) hb) (fun _ hm => by cases hm)
  pre := fun e => by rw [ap_ne n1] at e; exact (h.pre e).trans (hb.mono h.chg.size)
  post := fun e => by rw [ap_ne n1] at e; rw [apN_ne n1]; exact h.st _ _ _ h.chg.size (Chg.of_below hb) (h.post e)
  lit := fun e => by
    rw [ap_ne n2] at e; rw [apN_ne n2, apN_ne n1, ap_ne n1]
    obtain ⟨q0, q, k1, k2, k3⟩ := h.lit e
    exact ⟨q0, q, k1, k2, k3.keep hb⟩
  row := fun e => by rw [ap_ne n3] at e; exact kept_below (h.row e) hb
  ap := fun e => by
    rw [ap_ne n3] at e; rw [ap_ne n2, apN_ne n3, apN_ne n1]
    obtain ⟨k1, k2, k3⟩ := h.ap e
    exact ⟨k1, kept_below k2 hb, k3⟩
  top := fun e => by rw [ap_ne n4] at e; exact (h.top e).keep hb
  up := fun e => by
    rw [ap_ne n4] at e; rw [ap_ne n3, apN_ne n3]
    obtain ⟨k1, k2⟩ := h.up e
    exact ⟨k1, k2.keep hb⟩
theorem ApS.call (h : ApS w1 base T fi te e cs sv n xs ic ib ia is CP NP f gh W) (hf : f ic = false) (n2 : ib ≠ ic) (n3 : ia ≠ ic) (n4 : is ≠ ic) (hb : Below W.heap.size W W') (v : Value) (hv : CP v W') : ApS w1 base T fi te e cs sv n xs ic ib ia is CP NP (upd f ic) (updN gh ic v) W' := by
  have fb : f ib = false := by
    cases hh : f ib with
    | false => rfl
    | true => rw [(h.lit hh).1] at hf; cases hf
  have fa : f ia = false := by
    cases hh : f ia with
    | false => rfl
    | true => rw [(h.ap hh).1] at fb; cases fb
  have fs : f is = false := by
    cases hh : f is with
    | false => rfl
    | true => rw [(h.up hh).1] at fa; cases fa
  exact {
    top0 := h.top0
    svc := h.svc
    row0 := h.row0
    hb := h.hb
    ne := h.ne
    st := h.st
    chg := h.chg.trans (Chg.of_below (L := []) hb) (fun _ hm => by cases hm)
    pre := fun e => by rw [ap_eq] at e; cases e
    post := fun _ => by rw [apN_eq]; exact hv
    lit := fun e => by rw [ap_ne n2, fb] at e; cases e
    row := fun e => kept_below (h.row fa) hb
    ap := fun e => by rw [ap_ne n3, fa] at e; cases e
    top := fun e => (h.top fs).keep hb
    up := fun e => by rw [ap_ne n4, fs] at e; cases e }
theorem ApS.build (h : ApS w1 base T fi te e cs sv n xs ic ib ia is CP NP f gh W) (hc : f ic = true) (hf : f ib = false) (n1 : ic ≠ ib) (n3 : ia ≠ ib) (n4 : is ≠ ib) : ApS w1 base T fi te e cs sv n xs ic ib ia is CP NP (upd f ib) (updN gh ib (.slice (some ⟨W.heap.size, 0, none⟩) 1 1)) (W.alloc (.cells #[gh ic] e)) := by
  have fa : f ia = false := by
    cases hh : f ia with
    | false => rfl
    | true => rw [(h.ap hh).1] at hf; cases hf
  have fs : f is = false := by
    cases hh : f is with
    | false => rfl
    | true => rw [(h.up hh).1] at fa; cases fa
  have hb := below_new W (.cells #[gh ic] e)
  exact {
    top0 := h.top0
    svc := h.svc
    row0 := h.row0
    hb := h.hb
    ne := h.ne
    st := h.st
    chg := h.chg.trans (Chg.of_below (L := []) hb) (fun _ hm => by cases hm)
    pre := fun e => by rw [ap_ne n1, hc] at e; cases e
    post := fun _ => by rw [apN_ne n1]; exact h.st _ _ _ h.chg.size (Chg.of_below hb) (h.post hc)
    lit := fun _ => by rw [apN_eq, apN_ne n1, ap_ne n1]; exact ⟨hc, _, rfl, h.chg.size, Blk.new _ _ _⟩
    row := fun _ => kept_below (h.row fa) hb
    ap := fun e => by rw [ap_ne n3, fa] at e; cases e
    top := fun _ => (h.top fs).keep hb
    up := fun e => by rw [ap_ne n4, fs] at e; cases e }
theorem ApS.app {P : Program} {by_ : Nat} {z : Value} (h : ApS w1 base T fi te e cs sv n xs ic ib ia is CP NP f gh W) (hc : f ib = true) (hf : f ia = false) (n1 : ic ≠ ia) (n2 : ib ≠ ia) (n4 : is ≠ ia) (t ty : TypeId) (ht : P.underlying t = some (.slice e)) (hi : (P.info? e).map (fun i => (i.zero, i.size, i.bytes)) = some (some z, 1, by_)) (hz : z.cells.size = 1)
    (hn : n ≤ 1000000) (hby : by_ ≤ 1000) (h1 : (gh ic).oneCell' = true) (hNP : NP (gh ic) W.heap.size) : ∃ q v' W', gh ib = .slice (some ⟨q, 0, none⟩) 1 1 ∧ (Builtin.append_ #[t, t] ty #[sv, .slice (some ⟨q, 0, none⟩) 1 1]).run P W = .ok v' W' ∧ ApS w1 base T fi te e cs sv n xs ic ib ia is CP NP (upd f ia) (updN gh ia v') W' := by
  obtain ⟨hcc, q, e6, hq, hbq⟩ := h.lit hc
  have fs : f is = false := by
    cases hh : f is with
    | false => rfl
    | true => rw [(h.up hh).1] at hf; cases hf
  obtain ⟨i, hi, hz0, hsz, hby0⟩ := info_parts hi
  have hrow := h.row hf
  obtain ⟨v', W', hr, h2, h3, -, h5⟩ := run_append_own_at (P := P) W base t ty e i z 1 by_ ht hi hz0 hsz hby0 hz (by omega) sv n xs hrow ⟨q, 0, none⟩ 1 1 [gh ic] (by simp) (fun j u hu => by
    rw [Addr.add_lit, Nat.zero_add]
    exact hbq.cell j (by simpa using hu)) (fun u hu => by rw [List.mem_singleton.1 hu]; exact h1) (by simp [maxLen]; omega) (by
      have : (n + 1) * by_ ≤ (1000000 + 1) * 1000 := Nat.mul_le_mul (by omega) hby
      omega) (Nat.le_trans h.hb h.chg.size)
  have hm : v'.ownBlock = sv.ownBlock ∨ ∃ b, v'.ownBlock = some b ∧ w1.heap.size ≤ b ∧ NP (gh ic) b := by
    rcases h5 with h5 | h5
    · exact .inl h5
    · exact .inr ⟨_, h5, h.chg.size, hNP⟩
  have hcg : Chg (T :: sv.ownBlock.toList) W W' := Chg.of_grown h3 (fun g hg => by rw [hg]; simp)
  refine ⟨q, v', W', e6, hr, {
    top0 := h.top0
    svc := h.svc
    row0 := h.row0
    hb := h.hb
    ne := h.ne
    st := h.st
    chg := h.chg.trans hcg (fun b hb => .inl hb)
    pre := fun e => by rw [ap_ne n1, hcc] at e; cases e
    post := fun _ => by rw [apN_ne n1]; exact h.st _ _ _ h.chg.size hcg (h.post hcc)
    lit := fun _ => by
      rw [apN_ne n2, apN_ne n1, ap_ne n1]
      refine ⟨hcc, q, e6, hq, hbq.grown h3 (fun hh => ?_)⟩
      have := (World.ownsRow.lt h.row0 q hh).2
      omega
    row := fun e => by rw [ap_eq] at e; cases e
    ap := fun _ => by rw [apN_eq, apN_ne n1, ap_ne n2]; exact ⟨hc, h2, hm⟩
    top := fun _ => (h.top fs).grown h3 h.ne
    up := fun e => by rw [ap_ne n4, fs] at e; cases e }⟩
theorem ApS.form (h : ApS w1 base T fi te e cs sv n xs ic ib ia is CP NP f gh W) (hc : f ia = true) : ∃ g c, gh ia = .slice (some ⟨g, 0, none⟩) (n + 1) c := by
  obtain ⟨-, hr, -⟩ := h.ap hc
  rcases hr.2 with ⟨_, h0⟩ | ⟨g2, c2, _, e, _⟩
  · omega
  · exact ⟨g2, c2, e⟩
theorem ApS.put (h : ApS w1 base T fi te e cs sv n xs ic ib ia is CP NP f gh W) (hc : f ia = true) (hf : f is = false) (n1 : ic ≠ is) (n2 : ib ≠ is) (n3 : ia ≠ is) (k : Value) {v : Value} (hv : gh ia = v) : ApS w1 base T fi te e cs sv n xs ic ib ia is CP NP (upd f is) (updN gh is k) (W.setCell ⟨T, fi, none⟩ v) := by
  subst hv
  have hg := grown_setCell W T fi (gh ia)
  have hcg : Chg (T :: sv.ownBlock.toList) W (W.setCell ⟨T, fi, none⟩ (gh ia)) := Chg.of_grown hg (fun g e => by cases e; simp)
  obtain ⟨hbt, hap, hmv⟩ := h.ap hc
  obtain ⟨hcc, q, e6, hq, hbq⟩ := h.lit hbt
  have hT := h.top0.lt
  exact {
    top0 := h.top0
    svc := h.svc
    row0 := h.row0
    hb := h.hb
    ne := h.ne
    st := h.st
    chg := h.chg.trans hcg (fun b hb => .inl hb)
    pre := fun e => by rw [ap_ne n1, hcc] at e; cases e
    post := fun _ => by rw [apN_ne n1]; exact h.st _ _ _ h.chg.size hcg (h.post hcc)
    lit := fun _ => by
      rw [apN_ne n2, apN_ne n1, ap_ne n1]
      exact ⟨hcc, q, e6, hq, hbq.grown hg (by intro e2; cases e2; omega)⟩
    row := fun e => by rw [ap_ne n3, hc] at e; cases e
    ap := fun _ => by
      rw [apN_ne n3, apN_ne n1, ap_ne n2]
      refine ⟨hbt, kept_block hap hg (fun e2 => ?_), hmv⟩
      rcases hmv with hm | ⟨b, hm, hl, -⟩
      · rw [hm] at e2; exact h.ne e2
      · rw [hm] at e2; cases e2; omega
    top := fun e => by rw [ap_eq] at e; cases e
    up := fun _ => by rw [ap_ne n3, apN_ne n3]; exact ⟨hc, (h.top hf).set_ fi _⟩ }
theorem ApS.cell (h : ApS w1 base T fi te e cs sv n xs ic ib ia is CP NP f gh W) (hf : f is = false) : W.cell? ⟨T, fi, none⟩ = some sv := (h.top hf).cell fi h.svc
theorem ApS.frozen (h : ApS w1 base T fi te e cs sv n xs ic ib ia is CP NP f gh W) (hf : f is = false) : W.frozen? ⟨T, fi, none⟩ = false := (h.top hf).frozen fi
end
theorem does_append {P : Program} {o : Oper} {a : Act} {w w' : World} {T : Value → World → Prop} (s x : Operand) (t : TypeId) (ho : o.op = .call { callee := .builtin .append, args := #[s, x], argTypes := #[t, t] }) {v u v' : Value} (hv : a.eval s = v) (hx : a.eval x = u)
    (hr : (Builtin.append_ #[t, t] o.type #[v, u]).run P w = .ok v' w') (h : T v' w') : OpDoes P o a w T := by
  refine does_value (w' := w') (v := v') ?_ h
  unfold execOp
  simp only [ho, resolve, invoke, builtin, Sem.run_bind, Sem.run_pure, Result.andThen_ok, List.map_toArray, List.map_cons, List.map_nil, hv, hx, hr]
end Go.Proofs.Ytiejndkchcljdaa
