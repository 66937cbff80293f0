/- Dots sorted: slices.Clone and slices.SortFunc, the latter by the library's contract. Written by tools/mkocsort.py. -/
import Derived.Test.YthjflgnoeenenaaOcCmp
import Derived.Test.YthjflgnoeenenaaOcAbs
import Derived.Shelf.SlSortCmp.WholeK
import Derived.Shelf.SlSortCmp.NoneTotal
namespace Go.Proofs.Ythjflgnoeenenaa
open Go Go.RowKit Go.Shelf Cl
open Go.Sort (HoldsK PermIn SortedIn SWO)

theorem sc_isAgg {t : TypeId} (h : (match Try.prog.underlying t with | some (.struct _) => true | some (.array _ _) => true | _ => false) = true) (w : World) : (isAgg t).run Try.prog w = .ok true w := by
  unfold isAgg
  cases hu : Try.prog.underlying t with
  | none => rw [hu] at h; exact absurd h (by decide)
  | some d =>
    rw [hu] at h
    rw [Sem.run_bind, run_underlying hu w]
    cases d <;> first | (simp; done) | cases h
theorem sc_agg {t : TypeId} (h : (match Try.prog.underlying t with | some (.struct _) => false | some (.array _ _) => false | none => false | _ => true) = true) (w : World) : (isAgg t).run Try.prog w = .ok false w := by
  unfold isAgg
  cases hu : Try.prog.underlying t with
  | none => rw [hu] at h; exact absurd h (by decide)
  | some d =>
    rw [hu] at h
    rw [Sem.run_bind, run_underlying hu w]
    cases d <;> first | (simp; done) | cases h
theorem sc_size {t : TypeId} {n : Nat} (h : (Try.prog.info? t).map (·.size) = some n) (w : World) : (Go.sizeOf t).run Try.prog w = .ok n w := by
  obtain ⟨i, hi, hs⟩ := Option.map_eq_some_iff.1 h
  simp [Go.sizeOf, typeInfo, hi, hs]
theorem sc_zero {t : TypeId} {z : Value} (h : (Try.prog.info? t).map (·.zero) = some (some z)) (w : World) : (zeroValue t).run Try.prog w = .ok z w := by
  obtain ⟨i, hi, hs⟩ := Option.map_eq_some_iff.1 h
  simp [zeroValue, typeInfo, hi, hs]
def soRen : Ren where
  f := fun k => if k = 6 then 68 else if k = 14 then 88 else if k = 15 then 89 else if k = 20 then 93 else if k = 21 then 94 else if k = 22 then 95 else if k = 23 then 96 else if k = 24 then 97 else if k = 25 then 98 else if k = 26 then 99 else if k = 27 then 100 else if k = 28 then 101 else if k = 29 then 102 else if k = 46 then 103 else if k = 47 then 104 else if k = 48 then 105 else if k = 49 then 106 else if k = 50 then 107 else if k = 57 then 108 else 0
  t := fun k => if k = 0 then 0 else if k = 3 then 3 else if k = 4 then 4 else if k = 5 then 5 else if k = 9 then 9 else if k = 22 then 23 else if k = 24 then 27 else if k = 25 then 66 else if k = 39 then 92 else if k = 45 then 109 else if k = 46 then 110 else if k = 50 then 64 else if k = 53 then 116 else if k = 55 then 118 else if k = 66 then 119 else if k = 70 then 123 else if k = 76 then 125 else if k = 77 then 126 else 0
  g := fun _ => 0
theorem so_lays : SlLaysF0.n6 Try.prog soRen where
  mixed := by kernel_rfl
  f6 := ⟨ "slices.SortFunc[[]entrepot/api.Dot,entrepot/api.Dot]", by kernel_rfl, by kernel_rfl⟩
  f14 := ⟨ "slices.pdqsortCmpFunc[entrepot/api.Dot]", by kernel_rfl, by kernel_rfl⟩
  f15 := by kernel_rfl
  f20 := ⟨ "slices.insertionSortCmpFunc[entrepot/api.Dot]", by kernel_rfl, by kernel_rfl⟩
  f21 := ⟨ "slices.heapSortCmpFunc[entrepot/api.Dot]", by kernel_rfl, by kernel_rfl⟩
  f22 := ⟨ "slices.breakPatternsCmpFunc[entrepot/api.Dot]", by kernel_rfl, by kernel_rfl⟩
  f23 := ⟨ "slices.choosePivotCmpFunc[entrepot/api.Dot]", by kernel_rfl, by kernel_rfl⟩
  f24 := ⟨ "slices.reverseRangeCmpFunc[entrepot/api.Dot]", by kernel_rfl, by kernel_rfl⟩
  f25 := ⟨ "slices.partialInsertionSortCmpFunc[entrepot/api.Dot]", by kernel_rfl, by kernel_rfl⟩
  f26 := ⟨ "slices.partitionEqualCmpFunc[entrepot/api.Dot]", by kernel_rfl, by kernel_rfl⟩
  f27 := ⟨ "slices.partitionCmpFunc[entrepot/api.Dot]", by kernel_rfl, by kernel_rfl⟩
  f28 := by kernel_rfl
  f29 := by kernel_rfl
  f46 := ⟨ "slices.siftDownCmpFunc[entrepot/api.Dot]", by kernel_rfl, by kernel_rfl⟩
  f47 := by kernel_rfl
  f48 := by kernel_rfl
  f49 := ⟨ "slices.medianAdjacentCmpFunc[entrepot/api.Dot]", by kernel_rfl, by kernel_rfl⟩
  f50 := ⟨ "slices.medianCmpFunc[entrepot/api.Dot]", by kernel_rfl, by kernel_rfl⟩
  f57 := ⟨ "slices.order2CmpFunc[entrepot/api.Dot]", by kernel_rfl, by kernel_rfl⟩
  t0 := by kernel_rfl
  a0 := sc_agg (by kernel_rfl)
  z0 := sc_size (by kernel_rfl)
  v0 := sc_zero (by kernel_rfl)
  t3 := by kernel_rfl
  a3 := sc_agg (by kernel_rfl)
  z3 := sc_size (by kernel_rfl)
  v3 := sc_zero (by kernel_rfl)
  t4 := by kernel_rfl
  a4 := sc_agg (by kernel_rfl)
  z4 := sc_size (by kernel_rfl)
  v4 := sc_zero (by kernel_rfl)
  t5 := by kernel_rfl
  a5 := sc_agg (by kernel_rfl)
  z5 := sc_size (by kernel_rfl)
  v5 := sc_zero (by kernel_rfl)
  t9 := by kernel_rfl
  a9 := sc_agg (by kernel_rfl)
  z9 := sc_size (by kernel_rfl)
  v9 := sc_zero (by kernel_rfl)
  t22 := by kernel_rfl
  a22 := sc_agg (by kernel_rfl)
  z22 := sc_size (by kernel_rfl)
  v22 := sc_zero (by kernel_rfl)
  t25 := by kernel_rfl
  a25 := sc_agg (by kernel_rfl)
  z25 := sc_size (by kernel_rfl)
  v25 := sc_zero (by kernel_rfl)
  t39 := by kernel_rfl
  a39 := sc_agg (by kernel_rfl)
  z39 := sc_size (by kernel_rfl)
  v39 := sc_zero (by kernel_rfl)
  t45 := by kernel_rfl
  a45 := sc_agg (by kernel_rfl)
  z45 := sc_size (by kernel_rfl)
  v45 := sc_zero (by kernel_rfl)
  t46 := by kernel_rfl
  a46 := sc_agg (by kernel_rfl)
  z46 := sc_size (by kernel_rfl)
  v46 := sc_zero (by kernel_rfl)
  t50 := by kernel_rfl
  a50 := sc_agg (by kernel_rfl)
  z50 := sc_size (by kernel_rfl)
  v50 := sc_zero (by kernel_rfl)
  t53 := by kernel_rfl
  a53 := sc_agg (by kernel_rfl)
  z53 := sc_size (by kernel_rfl)
  v53 := sc_zero (by kernel_rfl)
  t55 := by kernel_rfl
  a55 := sc_agg (by kernel_rfl)
  z55 := sc_size (by kernel_rfl)
  v55 := sc_zero (by kernel_rfl)
  t66 := by kernel_rfl
  a66 := sc_agg (by kernel_rfl)
  z66 := sc_size (by kernel_rfl)
  v66 := sc_zero (by kernel_rfl)
  t70 := by kernel_rfl
  a70 := sc_agg (by kernel_rfl)
  z70 := sc_size (by kernel_rfl)
  v70 := sc_zero (by kernel_rfl)
  t76 := by kernel_rfl
  a76 := sc_agg (by kernel_rfl)
  z76 := sc_size (by kernel_rfl)
  v76 := sc_zero (by kernel_rfl)
  t77 := by kernel_rfl
  a77 := sc_agg (by kernel_rfl)
  z77 := sc_size (by kernel_rfl)
  v77 := sc_zero (by kernel_rfl)
theorem dcs_length (x : Dt) : (dcs x).length = 2 := rfl
theorem dcs_one (x : Dt) : ∀ v ∈ dcs x, v.oneCell' = true := fun v hv => by
  unfold dcs at hv
  rcases List.mem_cons.1 hv with rfl | hv
  · rfl
  · rw [List.mem_singleton.1 hv]; rfl
theorem dt_swo : SWO (ltOf cmpD) where
  irrefl x := by
    unfold ltOf
    simp only [decide_eq_false_iff_not]
    rw [cmpD_neg]; exact dLt_irrefl x
  trans x y z h1 h2 := by
    unfold ltOf at *
    simp only [decide_eq_true_eq] at *
    rw [cmpD_neg] at *
    exact dLt_trans h1 h2
  ntrans x y z h1 h2 := by
    unfold ltOf at *
    simp only [decide_eq_false_iff_not] at *
    rw [cmpD_neg] at *
    unfold dLt at *
    omega
theorem dt_lays (blk off size : Nat) (w : World) : CmpLays Try.prog 49 #[] dcs 2 cmpD blk off size w :=
  fun _ _ _ _ x y => (ocCompare_calls x y _).mono fun _ _ ⟨h1, q, os, h2⟩ => ⟨h1, q, os, h2⟩
theorem dsort_calls (g cap : Nat) (d : Array Dt) (w : World) (hH : HoldsK dcs 2 w g 0 d) (hblk : g < w.heap.size) (hsz : d.size < 4611686018427387904) :
    Calls Try.prog 68 #[.slice (some ⟨g, 0, none⟩) d.size cap, .func (.func 49) #[] #[]] w fun e w' =>
      e = .returned (.tuple #[]) ∧ ∃ d' n os, PermIn 0 d.size d d' ∧ SortedIn (ltOf cmpD) 0 d.size d' ∧ w' = sortWorldK dcs 2 w g 0 n d' os :=
  AnyQ.slices_SortFunc so_lays 2 (sc_isAgg (by kernel_rfl)) (sc_size (by kernel_rfl)) dcs dcs_length dcs_one cmpD dt_swo 49 #[] g 0 cap d w (enters_of Try.func49 (by kernel_rfl) rfl) (dt_lays g 0 d.size w) hH hblk hsz
theorem dge_of_get {α : Type} [Inhabited α] {l : List α} {i : Nat} {x : α} (h : l[i]? = some x) : i < l.length ∧ l[i]! = x := by
  obtain ⟨h1, h2⟩ := List.getElem?_eq_some_iff.1 h
  exact ⟨h1, by rw [getElem!_pos l i h1]; exact h2⟩
theorem dsrt_of {d d' : Array Dt} (hp : PermIn 0 d.size d d') (hs : SortedIn (ltOf cmpD) 0 d.size d') : d'.size = d.size ∧ d'.toList.Perm d.toList ∧ ∀ i j : Nat, i < j → ∀ x y, d'.toList[i]? = some x → d'.toList[j]? = some y → ¬ dLt y x := by
  obtain ⟨h1, _, h3⟩ := hp
  refine ⟨h1, ?_, fun i j hij x y hx hy => ?_⟩
  · rw [Array.extract_size, ← h1, Array.extract_size] at h3
    exact h3
  · obtain ⟨e1, e2⟩ := dge_of_get hx
    obtain ⟨e3, e4⟩ := dge_of_get hy
    have := hs i j (Nat.zero_le _) hij (by rw [← h1]; simpa using e3)
    unfold ltOf at this
    have a1 : d'[i]! = x := by rw [getElem!_pos d' i (by simpa using e1)]; have := (List.getElem?_eq_some_iff.1 hx).2; simpa using this
    have a2 : d'[j]! = y := by rw [getElem!_pos d' j (by simpa using e3)]; have := (List.getElem?_eq_some_iff.1 hy).2; simpa using this
    rw [a1, a2] at this
    rw [← cmpD_neg]
    simpa using this
theorem get_flatD : ∀ (ks : List Dt) (t : Nat), t < ks.length * 2 → (flatD ks)[t]? = some ((dcs (ks[t / 2]!))[t % 2]!)
  | [], t, h => by simp at h
  | k :: ks, t, h => by
    have hl := dcs_length k
    show (dcs k ++ flatD ks)[t]? = _
    by_cases h1 : t < 2
    · rw [List.getElem?_append_left (by omega), show t / 2 = 0 by omega, show t % 2 = t by omega]
      simp [hl, h1]
    · rw [List.getElem?_append_right (by omega), hl, get_flatD ks (t - 2) (by simp at h; omega)]
      obtain ⟨u, rfl⟩ : ∃ u, t = u + 2 := ⟨t - 2, by omega⟩
      rw [show (u + 2) / 2 = u / 2 + 1 by omega, show (u + 2) % 2 = u % 2 by omega, Nat.add_sub_cancel]
      simp
theorem dholds_row {w : World} {base g cap n : Nat} {ks : List Dt} (h : w.ownsRow base 27 2 (.slice (some ⟨g, 0, none⟩) n cap) n (flatD ks)) (hn : ks.length = n) : HoldsK dcs 2 w g 0 ks.toArray ∧ g < w.heap.size ∧ base ≤ g := by
  rcases h.2 with ⟨h2, _⟩ | ⟨g', cap', cur, e1, e2, e3, e4, e5, e6, e7⟩
  · simp at h2
  · simp only [Value.slice.injEq, Option.some.injEq, Addr.mk.injEq, and_true, true_and] at e1
    obtain ⟨rfl, rfl⟩ := e1
    refine ⟨fun j hj => ?_, (Array.getElem?_eq_some_iff.1 e3).1, e2⟩
    rw [Go.Sort.size_flatK] at hj
    have hj' : j < ks.length * 2 := by simpa using hj
    have hv : cur[j]? = some ((dcs (ks[j / 2]!))[j % 2]!) := by
      rw [← get_flatD ks j hj', ← e7, List.getElem?_take_of_lt (by omega)]
      simp
    rw [Go.Sort.get_flatK _ _ _ _ hj, Nat.zero_add]
    have hb : Blk w g 27 cur := e3
    refine ⟨?_, hb.frozen j⟩
    rw [hb.cell j hv]
    simp
theorem dsort_row {w : World} {g n2 : Nat} {d d' : Array Dt} {os : Array Obj} (hH : HoldsK dcs 2 w g 0 d) (hg : g < w.heap.size) (hs : d'.size = d.size) :
    (∀ (t : Nat) v, (flatD d'.toList)[t]? = some v → (sortWorldK dcs 2 w g 0 n2 d' os).cell? ⟨g, t, none⟩ = some v) ∧ w.grownBy (sortWorldK dcs 2 w g 0 n2 d' os) (some g) := by
  have h2 := holdsK_sortWorldK_c dcs 2 w g 0 d d' n2 os hH hg hs
  refine ⟨fun t v hv => ?_, ?_⟩
  · have ht : t < d'.toList.length * 2 := by
      have := (List.getElem?_eq_some_iff.1 hv).1
      rwa [flatD_length] at this
    rw [get_flatD d'.toList t ht] at hv
    have hi : t / 2 < d'.size := by simp at ht; omega
    have hc := (h2.cell (i := t / 2) (c := t % 2) hi (by omega)).1
    rw [Nat.zero_add, show t / 2 * 2 + t % 2 = t by omega] at hc
    rw [hc, ← hv]
    congr 3
    rw [getElem!_pos d' (t / 2) hi, getElem!_pos d'.toList (t / 2) (by simpa using hi)]
    simp
  · unfold sortWorldK Go.Sort.putRowK Go.Sort.putRow Go.Sort.mapBlock Go.Sort.ahead Go.Sort.grow
    refine ⟨rfl, rfl, rfl, by simp, fun k hk hne => ?_⟩
    simp only
    rw [Array.getElem?_append_left (by simpa using hk), Array.getElem?_modify]
    rw [if_neg (fun e => hne (by rw [e]))]
theorem deql_nil {P : Program} (w : World) (t e : TypeId) (a : Option Addr) (n c : Nat) (h : P.underlying t = some (.slice e)) :
    (binOp .eql t (.slice a n c) (.slice none 0 0)).run P w = .ok (.bool a.isNone) w := by
  have hq : ∀ d : Nat, (Op.equalIn (d + 1) t (.slice a n c) (.slice none 0 0)).run P w = .ok a.isNone w := fun d => by
    cases a <;> simp [Op.equalIn, run_underlying h]
  simp only [binOp]
  simp [Op.equal, Op.maxDepth, hq 9999]
set_option maxRecDepth 20000 in
set_option maxHeartbeats 1000000 in
theorem dclone_calls (n c : Nat) (A : Option Addr) (ds : List Dt) (w : World) (h : ND w A n ds) (hn : n ≤ 1000000) :
    Calls Try.prog 67 #[.slice A n c] w fun e w' => ∃ v, e = .returned v ∧ OwnD w' w.heap.size v n ds ∧ Below w.heap.size w w' := by
  cases A with
  | none =>
    have h0 : n = 0 := by
      rcases Nat.eq_zero_or_pos n with h0 | h0
      · exact h0
      · obtain ⟨b, off, e, _⟩ := h.2 h0
        cases e
    subst h0
    have hd : ds = [] := List.eq_nil_of_length_eq_zero h.1
    subst hd
    clear h
    have hq := fun w => deql_nil (P := Try.prog) w 23 27 none 0 c Try.underlying23
    go_enter Try.func67, Try.ntmps67
    go_wp2_with fail
    go_ret
    exact ⟨_, rfl, OwnD.nil _ _, Below.refl _ _⟩
  | some ad =>
    have hb1 := below_new w (.cells #[] 27)
    have HO := hid (OwnD.lit w w.heap.size [] #[] 0 rfl rfl (Nat.le_refl _) (by omega))
    have HN := hid (h.keep hb1)
    have HB := hid hb1
    have HS := hid (size_new w (.cells #[] 27))
    clear hb1 h
    have hq := fun w => deql_nil (P := Try.prog) w 23 27 (some ad) n c Try.underlying23
    go_enter Try.func67, Try.ntmps67
    go_wp2_with (refine wpList_append_dots _ rfl _ _ rfl w.heap.size _ 0 [] rfl HO.out _ n _ ds rfl HN.out (by omega) (by rw [HS.out]; omega) ?_; intro v3 w3 ho hg _; refine Held.go ?_)
    have HF := hid (show OwnD w3 w.heap.size v3 n ds ∧ Below w.heap.size w w3 from ⟨by rw [Nat.zero_add, List.nil_append] at ho; exact ho, HB.out.trans (below_app hg HO.out (by rw [HS.out]; omega))⟩)
    clear ho hg HO HN HB HS
    unfold Held
    go_wp2_with fail
    go_ret
    exact ⟨_, rfl, HF.out⟩
set_option maxRecDepth 20000 in
set_option maxHeartbeats 1000000 in
theorem dsorted_calls (n c : Nat) (A : Option Addr) (ds : List Dt) (w : World) (h : ND w A n ds) (hn : n ≤ 1000000) :
    Calls Try.prog 40 #[.slice A n c] w fun e w' => ∃ A2 c2 l, e = .returned (.slice A2 n c2) ∧ ND w' A2 n l ∧ (∀ b off, A2 = some ⟨b, off, none⟩ → w.heap.size ≤ b) ∧ l.Perm ds ∧ ascD l ∧ Below w.heap.size w w' := by
  have HC := hid (dclone_calls n c A ds w h hn)
  clear h
  go_enter Try.func40, Try.ntmps40
  go_wp2_with fail
  refine HC.out.mono ?_
  rintro e W ⟨v, rfl, ho, hb⟩
  have hso : ∃ A2 c2, v = .slice A2 n c2 ∧ (∀ b off, A2 = some ⟨b, off, none⟩ → w.heap.size ≤ b) ∧ Calls Try.prog 68 #[v, .func (.func 49) #[] #[]] W fun e w' => e = .returned (.tuple #[]) ∧ ∃ l, ND w' A2 n l ∧ l.Perm ds ∧ ascD l ∧ Below w.heap.size w w' := by
    rcases ho.2.2 with ⟨rfl, h0⟩ | ⟨g, cap, cur, rfl, _⟩
    · subst h0
      have hd : ds = [] := List.eq_nil_of_length_eq_zero ho.1
      subst hd
      refine ⟨none, 0, rfl, (fun b off e => by cases e), (AnyF.slices_SortFunc_none { so_lays with } none 0 (.func (.func 49) #[] #[]) W).mono fun e w' ⟨he, hw⟩ => ⟨he, [], ND.nil _ _, List.Perm.refl _, List.Pairwise.nil, by rw [hw]; exact hb⟩⟩
    · obtain ⟨hH, hg, hbg⟩ := dholds_row ho.2 ho.1
      have hlen := ho.1
      refine ⟨_, _, rfl, (fun b off e => by cases e; exact hbg), ?_⟩
      have := dsort_calls g cap ds.toArray W hH hg (by simp; omega)
      rw [show ds.toArray.size = n by simp [hlen]] at this
      refine this.mono fun e w' ⟨he, d', n2, os, hp, hs, hw⟩ => ?_
      have hp' : PermIn 0 ds.toArray.size ds.toArray d' := by rw [show ds.toArray.size = n by simp [hlen]]; exact hp
      have hs' : SortedIn (ltOf cmpD) 0 ds.toArray.size d' := by rw [show ds.toArray.size = n by simp [hlen]]; exact hs
      obtain ⟨h1, h2, h3⟩ := dsrt_of hp' hs'
      obtain ⟨h4, h5⟩ := dsort_row (n2 := n2) (os := os) hH hg h1
      rw [← hw] at h4 h5
      have hperm : d'.toList.Perm ds := by simpa using h2
      refine ⟨he, d'.toList, ⟨by rw [hperm.length_eq, hlen], fun _ => ⟨g, 0, rfl, fun j u hj => by rw [Nat.zero_add]; exact h4 j u hj⟩⟩, hperm, ?_, hb.trans (below_of_grown h5 hb.size (fun b e => by cases e; exact hbg))⟩
      unfold ascD
      rw [List.pairwise_iff_getElem]
      intro i j hi hj hij
      exact h3 i j hij _ _ (List.getElem?_eq_getElem hi) (List.getElem?_eq_getElem hj)
  obtain ⟨A2, c2, rfl, hlo, hc⟩ := hso
  have HS := hid hc; have HLO := hid hlo
  clear hc ho hb hlo HC
  go_wp2_with fail
  refine HS.out.mono ?_
  rintro e W2 ⟨rfl, l, hnd, hp, ha, hb⟩
  have HF := hid (show ND W2 A2 n l ∧ (∀ b off, A2 = some ⟨b, off, none⟩ → w.heap.size ≤ b) ∧ l.Perm ds ∧ ascD l ∧ Below w.heap.size w W2 from ⟨hnd, HLO.out, hp, ha, hb⟩)
  clear hnd hp ha hb HS
  go_wp2_with fail
  go_ret
  exact ⟨_, _, l, rfl, HF.out⟩
end Go.Proofs.Ythjflgnoeenenaa
