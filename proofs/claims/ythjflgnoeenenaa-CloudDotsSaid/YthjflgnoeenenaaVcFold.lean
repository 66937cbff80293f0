/- Contracts: the fold over the numbers of two vectors, of lists and of numbers. Written by tools/mkvc.py. -/
import Derived.Test.YthjflgnoeenenaaVcLeq
namespace Go.Proofs.Ythjflgnoeenenaa
open Go Go.RowKit Go.Shelf
attribute [local go_sem] Oper.semAt_some
attribute [local go_sem] vc_mkf

theorem run_store_one {P : Program} {t : TypeId} (hsz : (P.info? t).map (·.size) = some 1) {w : World} {g : Nat} {ty : TypeId} {old v : Value} (hv : (∃ A n c, v = .slice A n c) ∨ ∃ z, v = .int .i64 z) (hb : Blk w g ty #[old]) : (storeVar t ⟨g, 0, none⟩ v).run P w = .ok () (w.setCell ⟨g, 0, none⟩ v) := by
  obtain ⟨i, hi, hs⟩ := Option.map_eq_some_iff.1 hsz
  have h1 := hb.cell 0 rfl
  have h2 := hb.frozen 0
  rcases hv with ⟨A, n, c, rfl⟩ | ⟨z, rfl⟩ <;> simp [storeVar, sizeOf, typeInfo, hi, hs, Value.cells, storeCells, go_sem, h1, h2]
theorem does_store_one {P : Program} {o : Oper} {a : Act} {w : World} {T : Value → World → Prop} (t : TypeId) (x y : Operand) (ho : o.op = .store t x y) (g : Nat) (v : Value) (hx : a.eval x = .pointer (some ⟨g, 0, none⟩)) (hy : a.eval y = v)
    (hr : (storeVar t ⟨g, 0, none⟩ v).run P w = .ok () (w.setCell ⟨g, 0, none⟩ v)) (h : T undef (w.setCell ⟨g, 0, none⟩ v)) : OpDoes P o a w T := fun K Q hK => by
  unfold Oper.wp execOp
  simp only [ho, hx, hy, Instr.storeAt, Instr.sureAddr, Sem.run_bind, Sem.run_pure, Result.andThen_ok, hr]
  exact hK _ _ h
def isSl (v : Value) : Prop := ∃ A n c, v = .slice A n c
def isNu (v : Value) : Prop := ∃ z, v = .int .i64 z
/-- what a state of the fold must keep to: its value's own block lies from base on, and holds cells; others may change; what take does with it -/
structure FdV (Fm : Value → Prop) (base ftk : Nat) (V : List Nat → Value → World → Prop) (num : Nat → Int) (N : Nat) : Prop where
  st : ∀ pre v W W', V pre v W → W.heap.size ≤ W'.heap.size → (∀ b, v.ownBlock = some b → W'.heap[b]? = W.heap[b]?) → V pre v W'
  ob : ∀ pre v W, V pre v W → ∀ b, v.ownBlock = some b → base ≤ b ∧ ∃ o, W.heap[b]? = some o ∧ o.isCells = true
  form : ∀ pre v W, V pre v W → Fm v
  take : ∀ pre i v W, V pre v W → pre.length < N → base ≤ W.heap.size → Calls Try.prog ftk #[v, .int .i64 (num i)] W fun e W' => ∃ v', e = .returned v' ∧ V (pre ++ [i]) v' W' ∧ W.heap.size ≤ W'.heap.size ∧ Below base W W' ∧ (∀ b, b < W.heap.size → v.ownBlock ≠ some b → W'.heap[b]? = W.heap[b]?) ∧ (v'.ownBlock = v.ownBlock ∨ ∀ b, v'.ownBlock = some b → W.heap.size ≤ b)

/-- what holds between two rounds -/
structure FdIL (w : World) (base fch ftk : Nat) (V : List Nat → Value → World → Prop) (pre : List Nat) (W : World) : Prop where
  b7 : Blk W w.heap.size 54 #[.func (.func fch) #[] #[]]
  b9 : Blk W (w.heap.size + 2) 103 #[.func (.func ftk) #[] #[]]
  bel : Below base w W
  sz : w.heap.size + 5 ≤ W.heap.size
  v : ∃ v, Blk W (w.heap.size + 1) 22 #[v] ∧ V pre v W ∧ ∀ b, v.ownBlock = some b → b < w.heap.size ∨ w.heap.size + 5 ≤ b
theorem FdIL.own {w : World} {base fch ftk N : Nat} {V : List Nat → Value → World → Prop} {num : Nat → Int} (hV : FdV isSl base ftk V num N) {B : Nat} (hB : base ≤ B) (hbw : base ≤ w.heap.size) : OwnFrom B (FdIL w base fch ftk V) := fun pre A C row h hg hr => by
  obtain ⟨v, h8, hv, ho⟩ := h.v
  refine ⟨blk_nc h.b7 hg hr, blk_nc h.b9 hg hr, below_nc h.bel hB (Nat.le_trans hbw h.bel.size) hg hr, Nat.le_trans h.sz hg.size, v, blk_nc h8 hg hr, hV.st _ _ _ _ hv hg.size (fun b hb => ?_), ho⟩
  obtain ⟨_, o, hob, hoc⟩ := hV.ob _ _ _ hv b hb
  refine hg.block b (Array.getElem?_eq_some_iff.1 hob).1 (fun e => ?_)
  obtain ⟨o2, ho2, hc2⟩ := (hr b e.symm).2
  rw [hob] at ho2
  cases ho2
  rw [hoc] at hc2
  cases hc2
theorem FdIL.next {w W W1 Wm : World} {base fch ftk N i : Nat} {V : List Nat → Value → World → Prop} {num : Nat → Int} {pre : List Nat} {v v' : Value} {G : Nat → Prop} (hV : FdV isSl base ftk V num N) (hbw : base ≤ w.heap.size) (h : FdIL w base fch ftk V pre W) (hv : V pre v W) (ho : ∀ b, v.ownBlock = some b → b < w.heap.size ∨ w.heap.size + 5 ≤ b)
    (hW1 : w.heap.size + 5 ≤ W1.heap.size) (hG : ∀ b, G b → b < base ∨ b = w.heap.size + 3 ∨ b = w.heap.size + 4)
    (hT : V (pre ++ [i]) v' Wm ∧ W.heap.size ≤ Wm.heap.size ∧ Below base W Wm ∧ (∀ b, b < W.heap.size → v.ownBlock ≠ some b → Wm.heap[b]? = W.heap[b]?) ∧ (v'.ownBlock = v.ownBlock ∨ ∀ b, v'.ownBlock = some b → W.heap.size ≤ b)) (h8 : Blk W (w.heap.size + 1) 22 #[v]) :
    KeepsFrom W1.heap.size W (Wm.setCell ⟨w.heap.size + 1, 0, none⟩ v') ∧ VkG G W (Wm.setCell ⟨w.heap.size + 1, 0, none⟩ v') ∧ FdIL w base fch ftk V (pre ++ [i]) (Wm.setCell ⟨w.heap.size + 1, 0, none⟩ v') := by
  obtain ⟨t1, t2, t3, t4, t5⟩ := hT
  have hgs := grown_setCell Wm (w.heap.size + 1) 0 v'
  have hob := hV.ob _ _ _ hv
  have hsz := h.sz
  have hne : ∀ b, b < w.heap.size + 5 → w.heap.size ≤ b → v.ownBlock ≠ some b := fun b h1 h2 e => by rcases ho b e with h3 | h3 <;> omega
  have far : ∀ b, b ≠ w.heap.size + 1 → b < Wm.heap.size → (Wm.setCell ⟨w.heap.size + 1, 0, none⟩ v').heap[b]? = Wm.heap[b]? := fun b hb hl => hgs.block b hl (fun e => hb (Option.some.inj e))
  have own' : ∀ b, v'.ownBlock = some b → (b < w.heap.size ∨ w.heap.size + 5 ≤ b) := fun b hb => by
    rcases t5 with e | e
    · rw [e] at hb; exact ho b hb
    · have := e b hb; omega
  have hsz2 := hgs.size
  refine ⟨⟨Nat.le_trans t2 hsz2, fun k o hk hko hc => ?_⟩, ⟨Nat.le_trans t2 hsz2, fun b hb => ?_⟩, ?_⟩
  · have hkl := (Array.getElem?_eq_some_iff.1 hko).1
    rw [far k (by omega) (by omega), t4 k hkl (fun e => by
      obtain ⟨_, o2, ho2, hc2⟩ := hob k e
      rw [hko] at ho2
      cases ho2
      rw [hc] at hc2
      cases hc2)]
    exact hko
  · have hb' := hG b hb
    have hbl : b < W.heap.size := by omega
    rw [far b (by omega) (by omega)]
    exact t4 b hbl (fun e => by
      have h1 := (hob b e).1
      have h2 := ho b e
      omega)
  · have k7 : Blk Wm w.heap.size _ _ := (t4 _ (by omega) (hne _ (by omega) (by omega))).trans h.b7
    have k9 : Blk Wm (w.heap.size + 2) _ _ := (t4 _ (by omega) (hne _ (by omega) (by omega))).trans h.b9
    have k8 : Blk Wm (w.heap.size + 1) _ _ := (t4 _ (by omega) (hne _ (by omega) (by omega))).trans h8
    refine ⟨(far _ (by omega) (by omega)).trans k7, (far _ (by omega) (by omega)).trans k9, (h.bel.trans t3).setCell (p := ⟨w.heap.size + 1, 0, none⟩) (by show base ≤ w.heap.size + 1; omega) v', by omega, v', ?_, hV.st _ _ _ _ t1 hsz2 (fun b hb => ?_), own'⟩
    · have := k8.set_ 0 v'; simpa using this
    · have := own' b hb
      obtain ⟨_, o, ho, _⟩ := hV.ob _ _ _ t1 b hb
      exact far b (by omega) (Array.getElem?_eq_some_iff.1 ho).1
def fdLVal (fch ftk : Nat) (v : Value) (x y z : Int) : Nat → Value → Value
  | 0, _ => .func (.func ftk) #[] #[]
  | 1, _ => v
  | 2, _ => .func (.func fch) #[] #[]
  | 3, _ => .int .i64 x
  | 4, _ => .int .i64 y
  | 5, _ => .int .i64 z
  | 6, g => g
  | _, _ => undef
/-- take has been called, and what it answered is stored -/
structure FdSL (W0 : World) (b8 : Nat) (T : Value → World → Prop) (f : Nat → Bool) (gh : Nat → Value) (W : World) : Prop where
  pre : f 6 = false → W = W0
  mid : f 6 = true → f 7 = false → T (gh 6) W
  fin : f 7 = true → f 6 = true ∧ ∃ Wm, T (gh 6) Wm ∧ W = Wm.setCell ⟨b8, 0, none⟩ (gh 6)
theorem FdSL.step {W0 W : World} {b8 : Nat} {T : Value → World → Prop} {f : Nat → Bool} {gh : Nat → Value} (h : FdSL W0 b8 T f gh W) (i : Nat) (k : Value) (n6 : 6 ≠ i) (n7 : 7 ≠ i) : FdSL W0 b8 T (upd f i) (updN gh i k) W :=
  ⟨fun e => h.pre (by rwa [un_ne n6] at e), fun e e7 => by rw [un_ne n6] at e; rw [un_ne n7] at e7; rw [unN_ne n6]; exact h.mid e e7, fun e => by rw [un_ne n7] at e; rw [un_ne n6, unN_ne n6]; exact h.fin e⟩
set_option maxRecDepth 100000 in
set_option maxHeartbeats 2000000 in
theorem foldL_calls (base fch ftk : Nat) (V : List Nat → Value → World → Prop) (ch : Int → Int → Int) (n1 c1 n2 c2 : Nat) (A1 A2 : Option Addr) (v1 v2 : List Int) (sv : Value) (w : World) (h1 : NI w A1 n1 v1) (h2 : NI w A2 n2 v2) (hn1 : n1 ≤ 1000000) (hn2 : n2 ≤ 1000000)
    (hV : FdV isSl base ftk V (fun i => ch (nth v1 i) (nth v2 i)) (max n1 n2)) (hbase : base ≤ w.heap.size) (hA1 : ∀ b off, A1 = some ⟨b, off, none⟩ → 0 < n1 → b < base) (hA2 : ∀ b off, A2 = some ⟨b, off, none⟩ → 0 < n2 → b < base)
    (hch : ∀ x y W, Calls Try.prog fch #[.int .i64 x, .int .i64 y] W fun e W' => e = .returned (.int .i64 (ch x y)) ∧ W = W')
    (ech : ∀ args w, (callFunc fch args).run Try.prog w = .ok (.enter fch args) w) (etk : ∀ args w, (callFunc ftk args).run Try.prog w = .ok (.enter ftk args) w)
    (h0 : V [] sv w) (hsb : ∀ b, sv.ownBlock = some b → b < w.heap.size) :
    Calls Try.prog 85 #[.slice A1 n1 c1, .slice A2 n2 c2, .func (.func fch) #[] #[], sv, .func (.func ftk) #[] #[]] w fun e w' => ∃ v, e = .returned v ∧ V (List.range (max n1 n2)) v w' ∧ Below base w w' := by
  have hform := hV.form _ _ _ h0
  obtain ⟨w3, hw3, k7, k8, k9, hb3, hs3⟩ : ∃ w3, w3 = ((w.alloc (.cells #[.func (.func fch) #[] #[]] 54)).alloc (.cells #[sv] 22)).alloc (.cells #[.func (.func ftk) #[] #[]] 103) ∧ Blk w3 w.heap.size 54 #[.func (.func fch) #[] #[]] ∧ Blk w3 (w.heap.size + 1) 22 #[sv] ∧ Blk w3 (w.heap.size + 2) 103 #[.func (.func ftk) #[] #[]] ∧ Below w.heap.size w w3 ∧ w3.heap.size = w.heap.size + 3 := by
    have s1 := size_new w (.cells #[.func (.func fch) #[] #[]] 54)
    have s2 := size_new (w.alloc (.cells #[.func (.func fch) #[] #[]] 54)) (.cells #[sv] 22)
    have s3 := size_new ((w.alloc (.cells #[.func (.func fch) #[] #[]] 54)).alloc (.cells #[sv] 22)) (.cells #[.func (.func ftk) #[] #[]] 103)
    have b1 := below_new w (.cells #[.func (.func fch) #[] #[]] 54)
    have b2 := below_new (w.alloc (.cells #[.func (.func fch) #[] #[]] 54)) (.cells #[sv] 22)
    have b3 := below_new ((w.alloc (.cells #[.func (.func fch) #[] #[]] 54)).alloc (.cells #[sv] 22)) (.cells #[.func (.func ftk) #[] #[]] 103)
    have k1 := Blk.new w 54 #[.func (.func fch) #[] #[]]
    have k2 := Blk.new (w.alloc (.cells #[.func (.func fch) #[] #[]] 54)) 22 #[sv]
    have k3 := Blk.new ((w.alloc (.cells #[.func (.func fch) #[] #[]] 54)).alloc (.cells #[sv] 22)) 103 #[.func (.func ftk) #[] #[]]
    rw [s1] at k2
    rw [s2, s1] at k3
    exact ⟨_, rfl, (k1.keep b2).keep b3, k2.keep b3, k3, b1.trans ((b2.trans (b3.mono b2.size)).mono b1.size), by rw [s3, s2, s1]⟩
  have HSD := hid (sides_calls n1 c1 n2 c2 A1 A2 v1 v2 w3 (h1.keep hb3) (h2.keep hb3) hn1 hn2)
  have HV3 := hid (hV.st _ _ _ _ h0 hb3.size (fun b hb => hb3.block b (hsb b hb)))
  have HEG := hid (enters_of Try.func92 (by kernel_rfl) rfl)
  have HW3 := hid hw3; have HN1 := hid h1; have HN2 := hid h2; have HV := hid hV; have HA1 := hid hA1; have HA2 := hid hA2; have HCH := hid hch; have HEC := hid ech; have HET := hid etk; have HSB := hid hsb; have HB3 := hid hb3; have HS3 := hid hs3; have K7 := hid k7; have K8 := hid k8; have K9 := hid k9
  clear h1 h2 hV hA1 hA2 hch ech etk h0 hsb hb3 hs3 k7 k8 k9 hw3
  obtain ⟨SA, sn, sc, rfl⟩ := hform
  refine (callsIn_wide (n := 3)).1 (callsIn_of_wp_marks Try.func85 rfl trivial (wpIn_wide.2 ?_))
  simp only [Try.ntmps85, List.size_toArray, List.length_cons, List.length_nil, Nat.reduceAdd, Nat.reduceSub, Array.replicate_succ, Array.replicate_zero, List.push_toArray, List.append_toArray, List.nil_append, List.cons_append]
  go_wp2_with fail
  rw [← HW3.out]
  clear HW3
  refine HSD.out.mono ?_
  rintro e W1 ⟨rfl, hs1, hb1, hsq⟩
  have HSQ := hid (hsq 2); have HB1 := hid hb1
  have hs0 := HS3.out
  rw [hs0] at hs1
  have HS1 := hid hs1
  have h0 : FdIL w base fch ftk V [] W1 := ⟨K7.out.keep hb1, K9.out.keep hb1, (HB3.out.mono hbase).trans (hb1.mono (by omega)), by omega, (.slice SA sn sc), K8.out.keep hb1, HV.out.st _ _ _ _ HV3.out hb1.size (fun b hb => hb1.block b (by have := HSB.out b hb; omega)), fun b hb => .inl (HSB.out b hb)⟩
  have HG := hid (show ∀ b, vkS A1 A2 n1 n2 w3.heap.size b → b < W1.heap.size from vkS_lt (HN1.out.keep HB3.out) (HN2.out.keep HB3.out) (by omega))
  have HGO := hid (show ∀ b, vkS A1 A2 n1 n2 w3.heap.size b → b < base ∨ b = w.heap.size + 3 ∨ b = w.heap.size + 4 from fun b hb => by
    rcases hb with rfl | rfl | ⟨off, e, hn⟩ | ⟨off, e, hn⟩
    · exact .inr (by omega)
    · exact .inr (by omega)
    · exact .inl (HA1.out b off e hn)
    · exact .inl (HA2.out b off e hn))
  have hw2 : w.heap.size + 5 = W1.heap.size := by omega
  have HW2 := hid hw2
  have hOwn := FdIL.own (fch := fch) HV.out (B := W1.heap.size) (by omega) hbase
  clear hsq hb1 HSD hs1 hs0 hw2 HV3 K7 K8 K9
  go_wp2_with fail
  refine wpIn_wide.1 (wpIn_rangeFunc_ownG (F := Fence.wide) (n := 3) rfl (by omega) rfl trivial HEG.out HSQ.out (fun h k => VkG.trans h k) (VkG.put HG.out) (Below.refl _ _) (fun _ => rfl) (FdIL w base fch ftk V) (fun _ _ _ => False) hOwn (fun _ _ _ _ _ h _ _ => h) h0 (fun i => { tmps := #[.slice A1 n1 c1, .slice A2 n2 c2, .func (.func fch) #[] #[], (.slice SA sn sc), .func (.func ftk) #[] #[], undef, undef, .pointer (some ⟨w.heap.size, 0, none⟩), .pointer (some ⟨w.heap.size + 1, 0, none⟩), .pointer (some ⟨w.heap.size + 2, 0, none⟩), .slice none 0 0, .int .i64 (nth v1 i), .int .i64 (nth v2 i), .slice A1 n1 c1, .slice A2 n2 c2, .func (.func 92) #[] #[.pointer (some ⟨w3.heap.size, 0, none⟩), .pointer (some ⟨w3.heap.size + 1, 0, none⟩)], .int .i64 (nth v1 i), .int .i64 (nth v2 i), undef, undef, undef, undef, undef, undef, undef, undef], defers := [] }) ?assign ?body ?done ?stop)
  case assign =>
    intro l x W K hK
    unfold iv
    gi_wp2
    simpa using hK
  case body =>
    intro l pre i W hI hlt
    obtain ⟨v, k8, hv, ho⟩ := hI.v
    obtain ⟨x, hx⟩ : ∃ x, nth v1 i = x := ⟨_, rfl⟩
    obtain ⟨y, hy⟩ : ∃ y, nth v2 i = y := ⟨_, rfl⟩
    obtain ⟨z, hz⟩ : ∃ z, ch x y = z := ⟨_, rfl⟩
    have hwW : w.heap.size ≤ W.heap.size := by have := hI.sz; omega
    have hTK := HV.out.take pre i v W.drew (HV.out.st _ _ W W.drew hv (Nat.le_refl _) (fun _ _ => rfl)) hlt (Nat.le_trans hbase hwW)
    rw [hx, hy, hz] at hTK
    rw [hx, hy]
    have HTK := hid hTK; have HZ := hid hz
    have HC7 := hid (show W.drew.cell? ⟨w.heap.size, 0, none⟩ = some (.func (.func fch) #[] #[]) from hI.b7.cell 0 rfl)
    have HC8 := hid (show W.drew.cell? ⟨w.heap.size + 1, 0, none⟩ = some v from k8.cell 0 rfl)
    have HC9 := hid (show W.drew.cell? ⟨w.heap.size + 2, 0, none⟩ = some (.func (.func ftk) #[] #[]) from hI.b9.cell 0 rfl)
    have HK8 := hid k8; have HI := hid hI; have HVv := hid hv; have HO := hid ho
    have HSZ := hid hI.sz
    have HNE := hid (show v.ownBlock ≠ some (w.heap.size + 1) from fun e => by rcases ho _ e with h | h <;> omega)
    clear hTK hz k8 hI hv ho hx hy h0 HSQ hlt hOwn HEG
    gi_wp2_with fail
    refine wpIn_region_invG 26 (Value.bool false) (fdLVal fch ftk v x y z) (fun f gh W' => FdSL W.drew (w.heap.size + 1) (fun v' Wm => V (pre ++ [i]) v' Wm ∧ W.heap.size ≤ Wm.heap.size ∧ Below base W.drew Wm ∧ (∀ b, b < W.heap.size → v.ownBlock ≠ some b → Wm.heap[b]? = W.heap[b]?) ∧ (v'.ownBlock = v.ownBlock ∨ ∀ b, v'.ownBlock = some b → W.heap.size ≤ b)) f gh W') (by kernel_rfl) (by kernel_rfl) (by exact Nat.le_refl 26) ?_ ?_ ?_
    · exact ⟨fun _ => rfl, fun e => absurd e (by decide), fun e => absurd e (by decide)⟩
    · intro j o f gh a W' hi hf hdep hsame hcl hval hS
      rcases j with _ | _ | _ | _ | _ | _ | _ | _ | j
      all_goals simp only [List.getElem?_cons_succ, List.getElem?_cons_zero, List.getElem?_nil, Option.some.injEq, reduceCtorEq] at hi
      all_goals subst hi
      · have n6 := not_yet hcl hf 6 (by rfl)
        obtain rfl := hS.pre n6
        have E9 : a.tmps[9]? = some (.pointer (some ⟨w.heap.size + 2, 0, none⟩)) := (same_of hsame 9 (by rfl)).trans rfl
        have c9 := HC9.out
        refine gin_of (l2 := l) (.inr rfl) rfl (g_plain rfl ?_)
        exact does_value (w' := W.drew) (v := .func (.func ftk) #[] #[]) (by go_simp) ⟨.bool false, .inr rfl, hS.step 0 _ (by decide) (by decide)⟩
      · have n6 := not_yet hcl hf 6 (by rfl)
        obtain rfl := hS.pre n6
        have E8 : a.tmps[8]? = some (.pointer (some ⟨w.heap.size + 1, 0, none⟩)) := (same_of hsame 8 (by rfl)).trans rfl
        have c8 := HC8.out
        refine gin_of (l2 := l) (.inr rfl) rfl (g_plain rfl ?_)
        exact does_value (w' := W.drew) (v := v) (by go_simp) ⟨.bool false, .inr rfl, hS.step 1 _ (by decide) (by decide)⟩
      · have n5 := not_yet hcl hf 5 (by rfl)
        have n6 := not_yet hcl n5 6 (by rfl)
        obtain rfl := hS.pre n6
        have E7 : a.tmps[7]? = some (.pointer (some ⟨w.heap.size, 0, none⟩)) := (same_of hsame 7 (by rfl)).trans rfl
        have c7 := HC7.out
        refine gin_of (l2 := l) (.inr rfl) rfl (g_plain rfl ?_)
        exact does_value (w' := W.drew) (v := .func (.func fch) #[] #[]) (by go_simp) ⟨.bool false, .inr rfl, hS.step 2 _ (by decide) (by decide)⟩
      · have n5 := not_yet hcl hf 5 (by rfl)
        have n6 := not_yet hcl n5 6 (by rfl)
        obtain rfl := hS.pre n6
        have E11 : a.tmps[11]? = some (.int .i64 x) := (same_of hsame 11 (by rfl)).trans rfl
        refine gin_of (l2 := l) (.inr rfl) rfl (g_plain rfl ?_)
        exact does_value (w' := W.drew) (v := .int .i64 x) (by go_simp) ⟨.bool false, .inr rfl, hS.step 3 _ (by decide) (by decide)⟩
      · have n5 := not_yet hcl hf 5 (by rfl)
        have n6 := not_yet hcl n5 6 (by rfl)
        obtain rfl := hS.pre n6
        have E12 : a.tmps[12]? = some (.int .i64 y) := (same_of hsame 12 (by rfl)).trans rfl
        refine gin_of (l2 := l) (.inr rfl) rfl (g_plain rfl ?_)
        exact does_value (w' := W.drew) (v := .int .i64 y) (by go_simp) ⟨.bool false, .inr rfl, hS.step 4 _ (by decide) (by decide)⟩
      · have n6 := not_yet hcl hf 6 (by rfl)
        obtain rfl := hS.pre n6
        have E20 := hval 2 _ 20 rfl rfl (dep_of hdep 2 (by rfl))
        unfold fdLVal at E20
        have E21 := hval 3 _ 21 rfl rfl (dep_of hdep 3 (by rfl))
        unfold fdLVal at E21
        have E22 := hval 4 _ 22 rfl rfl (dep_of hdep 4 (by rfl))
        unfold fdLVal at E22
        have hec := HEC.out
        refine gin_of (l2 := l) (.inr rfl) rfl (g_plain rfl ?_)
        exact does_call fch #[.int .i64 x, .int .i64 y] (by go_simp) ((HCH.out x y _).mono (by rintro e w' ⟨rfl, rfl⟩; exact ⟨.int .i64 z, by rw [HZ.out], .bool false, .inr rfl, hS.step 5 _ (by decide) (by decide)⟩))
      · obtain rfl := hS.pre hf
        have n7 := not_yet hcl hf 7 (by rfl)
        have E18 := hval 0 _ 18 rfl rfl (dep_of hdep 0 (by rfl))
        unfold fdLVal at E18
        have E19 := hval 1 _ 19 rfl rfl (dep_of hdep 1 (by rfl))
        unfold fdLVal at E19
        have E23 := hval 5 _ 23 rfl rfl (dep_of hdep 5 (by rfl))
        unfold fdLVal at E23
        have het := HET.out
        refine gin_of (l2 := l) (.inr rfl) rfl (g_plain rfl ?_)
        refine does_call ftk #[v, .int .i64 z] (by go_simp) (HTK.out.mono ?_)
        rintro e w' ⟨v', rfl, hT⟩
        exact ⟨v', rfl, v', .inr rfl, fun e => by (rw [un_eq] at e; cases e), fun _ _ => by (rw [unN_eq]; exact hT), fun e => by (rw [un_ne (by decide), n7] at e; cases e)⟩
      · have f6 := dep_of hdep 6 (by rfl)
        have E24 := hval 6 _ 24 rfl rfl (dep_of hdep 6 (by rfl))
        unfold fdLVal at E24
        have E8 : a.tmps[8]? = some (.pointer (some ⟨w.heap.size + 1, 0, none⟩)) := (same_of hsame 8 (by rfl)).trans rfl
        have hT := hS.mid f6 hf
        have hT2 := hid hT
        have k8 : Blk W' (w.heap.size + 1) 22 #[v] := (hT.2.2.2.1 _ (by have := HSZ.out; omega) (HNE.out)).trans HK8.out
        refine gin_of (l2 := l) (.inr rfl) rfl (g_plain rfl ?_)
        refine does_store_one 22 _ _ rfl (w.heap.size + 1) (gh 6) (by rw [eval_getD, E8]; rfl) (by rw [eval_getD, E24]; rfl) (run_store_one (by kernel_rfl) (.inl (HV.out.form _ _ _ hT.1)) k8) ⟨.bool false, .inl rfl, fun e => ?_, fun e e7 => ?_, fun e => ?_⟩
        · rw [un_ne (by decide), f6] at e; cases e
        · rw [un_eq] at e7; cases e7
        · exact ⟨by rw [un_ne (by decide)]; exact f6, W', by rw [unN_ne (by decide)]; exact hT, by rw [unN_ne (by decide)]⟩
    · intro gh W3 hS
      obtain ⟨_, Wm, hT, rfl⟩ := hS.fin rfl
      have HEnd := hid (FdIL.next HV.out hbase HI.out HVv.out HO.out (W1 := W1) (by rw [HW2.out]; exact Nat.le_refl _) HGO.out (i := i) ⟨hT.1, hT.2.1, ((Below.refl base W).drew).trans hT.2.2.1, hT.2.2.2⟩ HK8.out)
      simp only [putAll, fdLVal, Nat.reduceAdd, Nat.zero_add, Act.put, List.setIfInBounds_toArray, List.set_cons_zero, List.set_cons_succ]
      clear hS hT HTK HC7 HC8 HC9
      gi_wp2_with fail
      exact HEnd.out
  case done =>
    intro D xs W hD hxs hI hK
    subst hxs
    obtain ⟨v, k8, hv, ho⟩ := hI.v
    have c8 := k8.cell 0 rfl
    have hgp := grownBy_putObj' W D (.deferred none)
    have hrw : rowNC base W (some D) := fun r e => by cases e; exact ⟨by have := HW2.out; omega, _, hK, rfl⟩
    have hVV : V (List.range (max n1 n2)) v (W.putObj D (.deferred none)) := HV.out.st _ _ _ _ hv hgp.size (fun b hb => by
      obtain ⟨_, o, hob, hoc⟩ := HV.out.ob _ _ _ hv b hb
      refine hgp.block b (Array.getElem?_eq_some_iff.1 hob).1 (fun e => ?_)
      cases e
      rw [hK] at hob
      cases hob
      cases hoc)
    have hBB := below_nc hI.bel (Nat.le_refl _) (Nat.le_trans hbase hI.bel.size) hgp hrw
    have HK2 := hid hK; have HVV := hid hVV; have HBB := hid hBB
    clear hI hK hgp hrw k8 hv ho hVV hBB h0 HSQ HEG hOwn
    go_wp2_with fail
    refine ⟨by simp, .inl ⟨_, _, rfl, run_takeDeferred HK2.out, ?_⟩⟩
    exact ⟨_, results_tmp rfl _ _ _, v, rfl, HVV.out, HBB.out⟩
  case stop =>
    rintro D c pre W hD ⟨k, hk, rfl⟩ hx hK
    exact hx.elim

/-- what holds between two rounds -/
structure FdII (w : World) (base fch ftk : Nat) (V : List Nat → Value → World → Prop) (pre : List Nat) (W : World) : Prop where
  b7 : Blk W w.heap.size 54 #[.func (.func fch) #[] #[]]
  b9 : Blk W (w.heap.size + 2) 54 #[.func (.func ftk) #[] #[]]
  bel : Below base w W
  sz : w.heap.size + 5 ≤ W.heap.size
  v : ∃ v, Blk W (w.heap.size + 1) 3 #[v] ∧ V pre v W ∧ ∀ b, v.ownBlock = some b → b < w.heap.size ∨ w.heap.size + 5 ≤ b
theorem FdII.own {w : World} {base fch ftk N : Nat} {V : List Nat → Value → World → Prop} {num : Nat → Int} (hV : FdV isNu base ftk V num N) {B : Nat} (hB : base ≤ B) (hbw : base ≤ w.heap.size) : OwnFrom B (FdII w base fch ftk V) := fun pre A C row h hg hr => by
  obtain ⟨v, h8, hv, ho⟩ := h.v
  refine ⟨blk_nc h.b7 hg hr, blk_nc h.b9 hg hr, below_nc h.bel hB (Nat.le_trans hbw h.bel.size) hg hr, Nat.le_trans h.sz hg.size, v, blk_nc h8 hg hr, hV.st _ _ _ _ hv hg.size (fun b hb => ?_), ho⟩
  obtain ⟨_, o, hob, hoc⟩ := hV.ob _ _ _ hv b hb
  refine hg.block b (Array.getElem?_eq_some_iff.1 hob).1 (fun e => ?_)
  obtain ⟨o2, ho2, hc2⟩ := (hr b e.symm).2
  rw [hob] at ho2
  cases ho2
  rw [hoc] at hc2
  cases hc2
theorem FdII.next {w W W1 Wm : World} {base fch ftk N i : Nat} {V : List Nat → Value → World → Prop} {num : Nat → Int} {pre : List Nat} {v v' : Value} {G : Nat → Prop} (hV : FdV isNu base ftk V num N) (hbw : base ≤ w.heap.size) (h : FdII w base fch ftk V pre W) (hv : V pre v W) (ho : ∀ b, v.ownBlock = some b → b < w.heap.size ∨ w.heap.size + 5 ≤ b)
    (hW1 : w.heap.size + 5 ≤ W1.heap.size) (hG : ∀ b, G b → b < base ∨ b = w.heap.size + 3 ∨ b = w.heap.size + 4)
    (hT : V (pre ++ [i]) v' Wm ∧ W.heap.size ≤ Wm.heap.size ∧ Below base W Wm ∧ (∀ b, b < W.heap.size → v.ownBlock ≠ some b → Wm.heap[b]? = W.heap[b]?) ∧ (v'.ownBlock = v.ownBlock ∨ ∀ b, v'.ownBlock = some b → W.heap.size ≤ b)) (h8 : Blk W (w.heap.size + 1) 3 #[v]) :
    KeepsFrom W1.heap.size W (Wm.setCell ⟨w.heap.size + 1, 0, none⟩ v') ∧ VkG G W (Wm.setCell ⟨w.heap.size + 1, 0, none⟩ v') ∧ FdII w base fch ftk V (pre ++ [i]) (Wm.setCell ⟨w.heap.size + 1, 0, none⟩ v') := by
  obtain ⟨t1, t2, t3, t4, t5⟩ := hT
  have hgs := grown_setCell Wm (w.heap.size + 1) 0 v'
  have hob := hV.ob _ _ _ hv
  have hsz := h.sz
  have hne : ∀ b, b < w.heap.size + 5 → w.heap.size ≤ b → v.ownBlock ≠ some b := fun b h1 h2 e => by rcases ho b e with h3 | h3 <;> omega
  have far : ∀ b, b ≠ w.heap.size + 1 → b < Wm.heap.size → (Wm.setCell ⟨w.heap.size + 1, 0, none⟩ v').heap[b]? = Wm.heap[b]? := fun b hb hl => hgs.block b hl (fun e => hb (Option.some.inj e))
  have own' : ∀ b, v'.ownBlock = some b → (b < w.heap.size ∨ w.heap.size + 5 ≤ b) := fun b hb => by
    rcases t5 with e | e
    · rw [e] at hb; exact ho b hb
    · have := e b hb; omega
  have hsz2 := hgs.size
  refine ⟨⟨Nat.le_trans t2 hsz2, fun k o hk hko hc => ?_⟩, ⟨Nat.le_trans t2 hsz2, fun b hb => ?_⟩, ?_⟩
  · have hkl := (Array.getElem?_eq_some_iff.1 hko).1
    rw [far k (by omega) (by omega), t4 k hkl (fun e => by
      obtain ⟨_, o2, ho2, hc2⟩ := hob k e
      rw [hko] at ho2
      cases ho2
      rw [hc] at hc2
      cases hc2)]
    exact hko
  · have hb' := hG b hb
    have hbl : b < W.heap.size := by omega
    rw [far b (by omega) (by omega)]
    exact t4 b hbl (fun e => by
      have h1 := (hob b e).1
      have h2 := ho b e
      omega)
  · have k7 : Blk Wm w.heap.size _ _ := (t4 _ (by omega) (hne _ (by omega) (by omega))).trans h.b7
    have k9 : Blk Wm (w.heap.size + 2) _ _ := (t4 _ (by omega) (hne _ (by omega) (by omega))).trans h.b9
    have k8 : Blk Wm (w.heap.size + 1) _ _ := (t4 _ (by omega) (hne _ (by omega) (by omega))).trans h8
    refine ⟨(far _ (by omega) (by omega)).trans k7, (far _ (by omega) (by omega)).trans k9, (h.bel.trans t3).setCell (p := ⟨w.heap.size + 1, 0, none⟩) (by show base ≤ w.heap.size + 1; omega) v', by omega, v', ?_, hV.st _ _ _ _ t1 hsz2 (fun b hb => ?_), own'⟩
    · have := k8.set_ 0 v'; simpa using this
    · have := own' b hb
      obtain ⟨_, o, ho, _⟩ := hV.ob _ _ _ t1 b hb
      exact far b (by omega) (Array.getElem?_eq_some_iff.1 ho).1
def fdIVal (fch ftk : Nat) (v : Value) (x y z : Int) : Nat → Value → Value
  | 0, _ => .func (.func ftk) #[] #[]
  | 1, _ => v
  | 2, _ => .func (.func fch) #[] #[]
  | 3, _ => .int .i64 x
  | 4, _ => .int .i64 y
  | 5, _ => .int .i64 z
  | 6, g => g
  | _, _ => undef
/-- take has been called, and what it answered is stored -/
structure FdSI (W0 : World) (b8 : Nat) (T : Value → World → Prop) (f : Nat → Bool) (gh : Nat → Value) (W : World) : Prop where
  pre : f 6 = false → W = W0
  mid : f 6 = true → f 7 = false → T (gh 6) W
  fin : f 7 = true → f 6 = true ∧ ∃ Wm, T (gh 6) Wm ∧ W = Wm.setCell ⟨b8, 0, none⟩ (gh 6)
theorem FdSI.step {W0 W : World} {b8 : Nat} {T : Value → World → Prop} {f : Nat → Bool} {gh : Nat → Value} (h : FdSI W0 b8 T f gh W) (i : Nat) (k : Value) (n6 : 6 ≠ i) (n7 : 7 ≠ i) : FdSI W0 b8 T (upd f i) (updN gh i k) W :=
  ⟨fun e => h.pre (by rwa [un_ne n6] at e), fun e e7 => by rw [un_ne n6] at e; rw [un_ne n7] at e7; rw [unN_ne n6]; exact h.mid e e7, fun e => by rw [un_ne n7] at e; rw [un_ne n6, unN_ne n6]; exact h.fin e⟩
set_option maxRecDepth 100000 in
set_option maxHeartbeats 2000000 in
theorem foldI_calls (base fch ftk : Nat) (V : List Nat → Value → World → Prop) (ch : Int → Int → Int) (n1 c1 n2 c2 : Nat) (A1 A2 : Option Addr) (v1 v2 : List Int) (sv : Value) (w : World) (h1 : NI w A1 n1 v1) (h2 : NI w A2 n2 v2) (hn1 : n1 ≤ 1000000) (hn2 : n2 ≤ 1000000)
    (hV : FdV isNu base ftk V (fun i => ch (nth v1 i) (nth v2 i)) (max n1 n2)) (hbase : base ≤ w.heap.size) (hA1 : ∀ b off, A1 = some ⟨b, off, none⟩ → 0 < n1 → b < base) (hA2 : ∀ b off, A2 = some ⟨b, off, none⟩ → 0 < n2 → b < base)
    (hch : ∀ x y W, Calls Try.prog fch #[.int .i64 x, .int .i64 y] W fun e W' => e = .returned (.int .i64 (ch x y)) ∧ W = W')
    (ech : ∀ args w, (callFunc fch args).run Try.prog w = .ok (.enter fch args) w) (etk : ∀ args w, (callFunc ftk args).run Try.prog w = .ok (.enter ftk args) w)
    (h0 : V [] sv w) (hsb : ∀ b, sv.ownBlock = some b → b < w.heap.size) :
    Calls Try.prog 75 #[.slice A1 n1 c1, .slice A2 n2 c2, .func (.func fch) #[] #[], sv, .func (.func ftk) #[] #[]] w fun e w' => ∃ v, e = .returned v ∧ V (List.range (max n1 n2)) v w' ∧ Below base w w' := by
  have hform := hV.form _ _ _ h0
  obtain ⟨w3, hw3, k7, k8, k9, hb3, hs3⟩ : ∃ w3, w3 = ((w.alloc (.cells #[.func (.func fch) #[] #[]] 54)).alloc (.cells #[sv] 3)).alloc (.cells #[.func (.func ftk) #[] #[]] 54) ∧ Blk w3 w.heap.size 54 #[.func (.func fch) #[] #[]] ∧ Blk w3 (w.heap.size + 1) 3 #[sv] ∧ Blk w3 (w.heap.size + 2) 54 #[.func (.func ftk) #[] #[]] ∧ Below w.heap.size w w3 ∧ w3.heap.size = w.heap.size + 3 := by
    have s1 := size_new w (.cells #[.func (.func fch) #[] #[]] 54)
    have s2 := size_new (w.alloc (.cells #[.func (.func fch) #[] #[]] 54)) (.cells #[sv] 3)
    have s3 := size_new ((w.alloc (.cells #[.func (.func fch) #[] #[]] 54)).alloc (.cells #[sv] 3)) (.cells #[.func (.func ftk) #[] #[]] 54)
    have b1 := below_new w (.cells #[.func (.func fch) #[] #[]] 54)
    have b2 := below_new (w.alloc (.cells #[.func (.func fch) #[] #[]] 54)) (.cells #[sv] 3)
    have b3 := below_new ((w.alloc (.cells #[.func (.func fch) #[] #[]] 54)).alloc (.cells #[sv] 3)) (.cells #[.func (.func ftk) #[] #[]] 54)
    have k1 := Blk.new w 54 #[.func (.func fch) #[] #[]]
    have k2 := Blk.new (w.alloc (.cells #[.func (.func fch) #[] #[]] 54)) 3 #[sv]
    have k3 := Blk.new ((w.alloc (.cells #[.func (.func fch) #[] #[]] 54)).alloc (.cells #[sv] 3)) 54 #[.func (.func ftk) #[] #[]]
    rw [s1] at k2
    rw [s2, s1] at k3
    exact ⟨_, rfl, (k1.keep b2).keep b3, k2.keep b3, k3, b1.trans ((b2.trans (b3.mono b2.size)).mono b1.size), by rw [s3, s2, s1]⟩
  have HSD := hid (sides_calls n1 c1 n2 c2 A1 A2 v1 v2 w3 (h1.keep hb3) (h2.keep hb3) hn1 hn2)
  have HV3 := hid (hV.st _ _ _ _ h0 hb3.size (fun b hb => hb3.block b (hsb b hb)))
  have HEG := hid (enters_of Try.func92 (by kernel_rfl) rfl)
  have HW3 := hid hw3; have HN1 := hid h1; have HN2 := hid h2; have HV := hid hV; have HA1 := hid hA1; have HA2 := hid hA2; have HCH := hid hch; have HEC := hid ech; have HET := hid etk; have HSB := hid hsb; have HB3 := hid hb3; have HS3 := hid hs3; have K7 := hid k7; have K8 := hid k8; have K9 := hid k9
  clear h1 h2 hV hA1 hA2 hch ech etk h0 hsb hb3 hs3 k7 k8 k9 hw3
  obtain ⟨z0, rfl⟩ := hform
  refine (callsIn_wide (n := 3)).1 (callsIn_of_wp_marks Try.func75 rfl trivial (wpIn_wide.2 ?_))
  simp only [Try.ntmps75, List.size_toArray, List.length_cons, List.length_nil, Nat.reduceAdd, Nat.reduceSub, Array.replicate_succ, Array.replicate_zero, List.push_toArray, List.append_toArray, List.nil_append, List.cons_append]
  go_wp2_with fail
  rw [← HW3.out]
  clear HW3
  refine HSD.out.mono ?_
  rintro e W1 ⟨rfl, hs1, hb1, hsq⟩
  have HSQ := hid (hsq 2); have HB1 := hid hb1
  have hs0 := HS3.out
  rw [hs0] at hs1
  have HS1 := hid hs1
  have h0 : FdII w base fch ftk V [] W1 := ⟨K7.out.keep hb1, K9.out.keep hb1, (HB3.out.mono hbase).trans (hb1.mono (by omega)), by omega, (.int .i64 z0), K8.out.keep hb1, HV.out.st _ _ _ _ HV3.out hb1.size (fun b hb => hb1.block b (by have := HSB.out b hb; omega)), fun b hb => .inl (HSB.out b hb)⟩
  have HG := hid (show ∀ b, vkS A1 A2 n1 n2 w3.heap.size b → b < W1.heap.size from vkS_lt (HN1.out.keep HB3.out) (HN2.out.keep HB3.out) (by omega))
  have HGO := hid (show ∀ b, vkS A1 A2 n1 n2 w3.heap.size b → b < base ∨ b = w.heap.size + 3 ∨ b = w.heap.size + 4 from fun b hb => by
    rcases hb with rfl | rfl | ⟨off, e, hn⟩ | ⟨off, e, hn⟩
    · exact .inr (by omega)
    · exact .inr (by omega)
    · exact .inl (HA1.out b off e hn)
    · exact .inl (HA2.out b off e hn))
  have hw2 : w.heap.size + 5 = W1.heap.size := by omega
  have HW2 := hid hw2
  have hOwn := FdII.own (fch := fch) HV.out (B := W1.heap.size) (by omega) hbase
  clear hsq hb1 HSD hs1 hs0 hw2 HV3 K7 K8 K9
  go_wp2_with fail
  refine wpIn_wide.1 (wpIn_rangeFunc_ownG (F := Fence.wide) (n := 3) rfl (by omega) rfl trivial HEG.out HSQ.out (fun h k => VkG.trans h k) (VkG.put HG.out) (Below.refl _ _) (fun _ => rfl) (FdII w base fch ftk V) (fun _ _ _ => False) hOwn (fun _ _ _ _ _ h _ _ => h) h0 (fun i => { tmps := #[.slice A1 n1 c1, .slice A2 n2 c2, .func (.func fch) #[] #[], (.int .i64 z0), .func (.func ftk) #[] #[], undef, undef, .pointer (some ⟨w.heap.size, 0, none⟩), .pointer (some ⟨w.heap.size + 1, 0, none⟩), .pointer (some ⟨w.heap.size + 2, 0, none⟩), .int .i64 0, .int .i64 (nth v1 i), .int .i64 (nth v2 i), .slice A1 n1 c1, .slice A2 n2 c2, .func (.func 92) #[] #[.pointer (some ⟨w3.heap.size, 0, none⟩), .pointer (some ⟨w3.heap.size + 1, 0, none⟩)], .int .i64 (nth v1 i), .int .i64 (nth v2 i), undef, undef, undef, undef, undef, undef, undef, undef], defers := [] }) ?assign ?body ?done ?stop)
  case assign =>
    intro l x W K hK
    unfold iv
    gi_wp2
    simpa using hK
  case body =>
    intro l pre i W hI hlt
    obtain ⟨v, k8, hv, ho⟩ := hI.v
    obtain ⟨x, hx⟩ : ∃ x, nth v1 i = x := ⟨_, rfl⟩
    obtain ⟨y, hy⟩ : ∃ y, nth v2 i = y := ⟨_, rfl⟩
    obtain ⟨z, hz⟩ : ∃ z, ch x y = z := ⟨_, rfl⟩
    have hwW : w.heap.size ≤ W.heap.size := by have := hI.sz; omega
    have hTK := HV.out.take pre i v W.drew (HV.out.st _ _ W W.drew hv (Nat.le_refl _) (fun _ _ => rfl)) hlt (Nat.le_trans hbase hwW)
    rw [hx, hy, hz] at hTK
    rw [hx, hy]
    have HTK := hid hTK; have HZ := hid hz
    have HC7 := hid (show W.drew.cell? ⟨w.heap.size, 0, none⟩ = some (.func (.func fch) #[] #[]) from hI.b7.cell 0 rfl)
    have HC8 := hid (show W.drew.cell? ⟨w.heap.size + 1, 0, none⟩ = some v from k8.cell 0 rfl)
    have HC9 := hid (show W.drew.cell? ⟨w.heap.size + 2, 0, none⟩ = some (.func (.func ftk) #[] #[]) from hI.b9.cell 0 rfl)
    have HK8 := hid k8; have HI := hid hI; have HVv := hid hv; have HO := hid ho
    have HSZ := hid hI.sz
    have HNE := hid (show v.ownBlock ≠ some (w.heap.size + 1) from fun e => by rcases ho _ e with h | h <;> omega)
    clear hTK hz k8 hI hv ho hx hy h0 HSQ hlt hOwn HEG
    gi_wp2_with fail
    refine wpIn_region_invG 26 (Value.bool false) (fdIVal fch ftk v x y z) (fun f gh W' => FdSI W.drew (w.heap.size + 1) (fun v' Wm => V (pre ++ [i]) v' Wm ∧ W.heap.size ≤ Wm.heap.size ∧ Below base W.drew Wm ∧ (∀ b, b < W.heap.size → v.ownBlock ≠ some b → Wm.heap[b]? = W.heap[b]?) ∧ (v'.ownBlock = v.ownBlock ∨ ∀ b, v'.ownBlock = some b → W.heap.size ≤ b)) f gh W') (by kernel_rfl) (by kernel_rfl) (by exact Nat.le_refl 26) ?_ ?_ ?_
    · exact ⟨fun _ => rfl, fun e => absurd e (by decide), fun e => absurd e (by decide)⟩
    · intro j o f gh a W' hi hf hdep hsame hcl hval hS
      rcases j with _ | _ | _ | _ | _ | _ | _ | _ | j
      all_goals simp only [List.getElem?_cons_succ, List.getElem?_cons_zero, List.getElem?_nil, Option.some.injEq, reduceCtorEq] at hi
      all_goals subst hi
      · have n6 := not_yet hcl hf 6 (by rfl)
        obtain rfl := hS.pre n6
        have E9 : a.tmps[9]? = some (.pointer (some ⟨w.heap.size + 2, 0, none⟩)) := (same_of hsame 9 (by rfl)).trans rfl
        have c9 := HC9.out
        refine gin_of (l2 := l) (.inr rfl) rfl (g_plain rfl ?_)
        exact does_value (w' := W.drew) (v := .func (.func ftk) #[] #[]) (by go_simp) ⟨.bool false, .inr rfl, hS.step 0 _ (by decide) (by decide)⟩
      · have n6 := not_yet hcl hf 6 (by rfl)
        obtain rfl := hS.pre n6
        have E8 : a.tmps[8]? = some (.pointer (some ⟨w.heap.size + 1, 0, none⟩)) := (same_of hsame 8 (by rfl)).trans rfl
        have c8 := HC8.out
        refine gin_of (l2 := l) (.inr rfl) rfl (g_plain rfl ?_)
        exact does_value (w' := W.drew) (v := v) (by go_simp) ⟨.bool false, .inr rfl, hS.step 1 _ (by decide) (by decide)⟩
      · have n5 := not_yet hcl hf 5 (by rfl)
        have n6 := not_yet hcl n5 6 (by rfl)
        obtain rfl := hS.pre n6
        have E7 : a.tmps[7]? = some (.pointer (some ⟨w.heap.size, 0, none⟩)) := (same_of hsame 7 (by rfl)).trans rfl
        have c7 := HC7.out
        refine gin_of (l2 := l) (.inr rfl) rfl (g_plain rfl ?_)
        exact does_value (w' := W.drew) (v := .func (.func fch) #[] #[]) (by go_simp) ⟨.bool false, .inr rfl, hS.step 2 _ (by decide) (by decide)⟩
      · have n5 := not_yet hcl hf 5 (by rfl)
        have n6 := not_yet hcl n5 6 (by rfl)
        obtain rfl := hS.pre n6
        have E11 : a.tmps[11]? = some (.int .i64 x) := (same_of hsame 11 (by rfl)).trans rfl
        refine gin_of (l2 := l) (.inr rfl) rfl (g_plain rfl ?_)
        exact does_value (w' := W.drew) (v := .int .i64 x) (by go_simp) ⟨.bool false, .inr rfl, hS.step 3 _ (by decide) (by decide)⟩
      · have n5 := not_yet hcl hf 5 (by rfl)
        have n6 := not_yet hcl n5 6 (by rfl)
        obtain rfl := hS.pre n6
        have E12 : a.tmps[12]? = some (.int .i64 y) := (same_of hsame 12 (by rfl)).trans rfl
        refine gin_of (l2 := l) (.inr rfl) rfl (g_plain rfl ?_)
        exact does_value (w' := W.drew) (v := .int .i64 y) (by go_simp) ⟨.bool false, .inr rfl, hS.step 4 _ (by decide) (by decide)⟩
      · have n6 := not_yet hcl hf 6 (by rfl)
        obtain rfl := hS.pre n6
        have E20 := hval 2 _ 20 rfl rfl (dep_of hdep 2 (by rfl))
        unfold fdIVal at E20
        have E21 := hval 3 _ 21 rfl rfl (dep_of hdep 3 (by rfl))
        unfold fdIVal at E21
        have E22 := hval 4 _ 22 rfl rfl (dep_of hdep 4 (by rfl))
        unfold fdIVal at E22
        have hec := HEC.out
        refine gin_of (l2 := l) (.inr rfl) rfl (g_plain rfl ?_)
        exact does_call fch #[.int .i64 x, .int .i64 y] (by go_simp) ((HCH.out x y _).mono (by rintro e w' ⟨rfl, rfl⟩; exact ⟨.int .i64 z, by rw [HZ.out], .bool false, .inr rfl, hS.step 5 _ (by decide) (by decide)⟩))
      · obtain rfl := hS.pre hf
        have n7 := not_yet hcl hf 7 (by rfl)
        have E18 := hval 0 _ 18 rfl rfl (dep_of hdep 0 (by rfl))
        unfold fdIVal at E18
        have E19 := hval 1 _ 19 rfl rfl (dep_of hdep 1 (by rfl))
        unfold fdIVal at E19
        have E23 := hval 5 _ 23 rfl rfl (dep_of hdep 5 (by rfl))
        unfold fdIVal at E23
        have het := HET.out
        refine gin_of (l2 := l) (.inr rfl) rfl (g_plain rfl ?_)
        refine does_call ftk #[v, .int .i64 z] (by go_simp) (HTK.out.mono ?_)
        rintro e w' ⟨v', rfl, hT⟩
        exact ⟨v', rfl, v', .inr rfl, fun e => by (rw [un_eq] at e; cases e), fun _ _ => by (rw [unN_eq]; exact hT), fun e => by (rw [un_ne (by decide), n7] at e; cases e)⟩
      · have f6 := dep_of hdep 6 (by rfl)
        have E24 := hval 6 _ 24 rfl rfl (dep_of hdep 6 (by rfl))
        unfold fdIVal at E24
        have E8 : a.tmps[8]? = some (.pointer (some ⟨w.heap.size + 1, 0, none⟩)) := (same_of hsame 8 (by rfl)).trans rfl
        have hT := hS.mid f6 hf
        have hT2 := hid hT
        have k8 : Blk W' (w.heap.size + 1) 3 #[v] := (hT.2.2.2.1 _ (by have := HSZ.out; omega) (HNE.out)).trans HK8.out
        refine gin_of (l2 := l) (.inr rfl) rfl (g_plain rfl ?_)
        refine does_store_one 3 _ _ rfl (w.heap.size + 1) (gh 6) (by rw [eval_getD, E8]; rfl) (by rw [eval_getD, E24]; rfl) (run_store_one (by kernel_rfl) (.inr (HV.out.form _ _ _ hT.1)) k8) ⟨.bool false, .inl rfl, fun e => ?_, fun e e7 => ?_, fun e => ?_⟩
        · rw [un_ne (by decide), f6] at e; cases e
        · rw [un_eq] at e7; cases e7
        · exact ⟨by rw [un_ne (by decide)]; exact f6, W', by rw [unN_ne (by decide)]; exact hT, by rw [unN_ne (by decide)]⟩
    · intro gh W3 hS
      obtain ⟨_, Wm, hT, rfl⟩ := hS.fin rfl
      have HEnd := hid (FdII.next HV.out hbase HI.out HVv.out HO.out (W1 := W1) (by rw [HW2.out]; exact Nat.le_refl _) HGO.out (i := i) ⟨hT.1, hT.2.1, ((Below.refl base W).drew).trans hT.2.2.1, hT.2.2.2⟩ HK8.out)
      simp only [putAll, fdIVal, Nat.reduceAdd, Nat.zero_add, Act.put, List.setIfInBounds_toArray, List.set_cons_zero, List.set_cons_succ]
      clear hS hT HTK HC7 HC8 HC9
      gi_wp2_with fail
      exact HEnd.out
  case done =>
    intro D xs W hD hxs hI hK
    subst hxs
    obtain ⟨v, k8, hv, ho⟩ := hI.v
    have c8 := k8.cell 0 rfl
    have hgp := grownBy_putObj' W D (.deferred none)
    have hrw : rowNC base W (some D) := fun r e => by cases e; exact ⟨by have := HW2.out; omega, _, hK, rfl⟩
    have hVV : V (List.range (max n1 n2)) v (W.putObj D (.deferred none)) := HV.out.st _ _ _ _ hv hgp.size (fun b hb => by
      obtain ⟨_, o, hob, hoc⟩ := HV.out.ob _ _ _ hv b hb
      refine hgp.block b (Array.getElem?_eq_some_iff.1 hob).1 (fun e => ?_)
      cases e
      rw [hK] at hob
      cases hob
      cases hoc)
    have hBB := below_nc hI.bel (Nat.le_refl _) (Nat.le_trans hbase hI.bel.size) hgp hrw
    have HK2 := hid hK; have HVV := hid hVV; have HBB := hid hBB
    clear hI hK hgp hrw k8 hv ho hVV hBB h0 HSQ HEG hOwn
    go_wp2_with fail
    refine ⟨by simp, .inl ⟨_, _, rfl, run_takeDeferred HK2.out, ?_⟩⟩
    exact ⟨_, results_tmp rfl _ _ _, v, rfl, HVV.out, HBB.out⟩
  case stop =>
    rintro D c pre W hD ⟨k, hk, rfl⟩ hx hK
    exact hx.elim
end Go.Proofs.Ythjflgnoeenenaa
