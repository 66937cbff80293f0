/- Contracts of package quota: Repos. -/
import Derived.Test.YtjgnbmkhibdcfaaQtIds
import Derived.Shelf.Slices.CompactS
namespace Go.Proofs.Ytjgnbmkhibdcfaa
open Go.RowKit Go.Shelf
open Go.Sort (Holds putRow)

def cpRen : Ren where
  f := fun k => if k = 194 then 49 else 0
  t := fun k => if k = 0 then 0 else if k = 3 then 3 else if k = 4 then 4 else if k = 9 then 9 else if k = 31 then 41 else 0
  g := fun _ => 0
theorem cp_lays : Lays.n194 Try.prog cpRen where
  mixed := by kernel_rfl
  f194 := by kernel_rfl
  t0 := by kernel_rfl
  a0 := sc_agg (by kernel_rfl)
  z0 := sc_size (by kernel_rfl)
  v0 := sc_zero (by kernel_rfl)
  t3 := by kernel_rfl
  a3 := sc_agg (by kernel_rfl)
  z3 := sc_size (by kernel_rfl)
  v3 := sc_zero (by kernel_rfl)
  t4 := by kernel_rfl
  a4 := sc_agg (by kernel_rfl)
  z4 := sc_size (by kernel_rfl)
  v4 := sc_zero (by kernel_rfl)
  t9 := by kernel_rfl
  a9 := sc_agg (by kernel_rfl)
  z9 := sc_size (by kernel_rfl)
  v9 := sc_zero (by kernel_rfl)
  t31 := by kernel_rfl
  a31 := sc_agg (by kernel_rfl)
  z31 := sc_size (by kernel_rfl)
  v31 := sc_zero (by kernel_rfl)
/-- what is left of texts in order, each once -/
theorem compact_up (zs : List (List UInt8)) (hs : zs.Pairwise (fun a b => Lib.compareBytes a b ≤ 0)) : ∀ m, m ≤ zs.length → (Lib.compactUpTo zs.toArray m).Pairwise (fun a b => Lib.compareBytes a b < 0) ∧ (∀ x, x ∈ Lib.compactUpTo zs.toArray m ↔ x ∈ zs.take m) ∧ (0 < m → ∀ x ∈ Lib.compactUpTo zs.toArray m, Lib.compareBytes x (zs[m - 1]!) ≤ 0)
  | 0, _ => ⟨List.Pairwise.nil, fun x => by simp [Lib.compactUpTo], fun h => absurd h (by omega)⟩
  | m + 1, hm => by
    obtain ⟨h1, h2, h3⟩ := compact_up zs hs m (by omega)
    have hget : ∀ j, j < zs.length → zs.toArray[j]! = zs[j]! := fun j _ => by simp
    have ht : zs.take (m + 1) = zs.take m ++ [zs[m]!] := by
      rw [List.take_add_one, List.getElem?_eq_getElem (by omega), getElem!_pos zs m (by omega)]
      rfl
    have hle : ∀ j, j < m → Lib.compareBytes (zs[j]!) (zs[m]!) ≤ 0 := fun j hj => by
      rw [getElem!_pos zs j (by omega), getElem!_pos zs m (by omega)]
      exact List.pairwise_iff_getElem.1 hs j m (by omega) (by omega) hj
    have hxle : ∀ x ∈ Lib.compactUpTo zs.toArray m, Lib.compareBytes x (zs[m]!) ≤ 0 := fun x hx => by
      rw [h2, List.mem_take_iff_getElem] at hx
      obtain ⟨j, hj, rfl⟩ := hx
      have := hle j (by omega)
      rwa [getElem!_pos zs j (by omega)] at this
    rw [Lib.compactUpTo_succ, hget m (by omega)]
    by_cases hk : Lib.keeps zs.toArray m = true
    · rw [if_pos hk]
      have hlt : ∀ x ∈ Lib.compactUpTo zs.toArray m, Lib.compareBytes x (zs[m]!) < 0 := fun x hx => by
        have h5 := hxle x hx
        have hmp : 0 < m := by
          rcases Nat.eq_zero_or_pos m with rfl | h
          · simp [Lib.compactUpTo] at hx
          · exact h
        by_cases e : Lib.compareBytes x (zs[m]!) = 0
        · have e1 := cb_zero _ _ e
          have h6 := h3 hmp x hx
          have h7 := hle (m - 1) (by omega)
          rw [e1, cb_swap] at h6
          have e2 : Lib.compareBytes (zs[m - 1]!) (zs[m]!) = 0 := by omega
          have e3 := cb_zero _ _ e2
          unfold Lib.keeps at hk
          rw [hget m (by omega), hget (m - 1) (by omega)] at hk
          simp only [decide_eq_true_eq] at hk
          rcases hk with hk | hk
          · omega
          · exact absurd e3.symm hk
        · omega
      refine ⟨List.pairwise_append.2 ⟨h1, List.pairwise_singleton _ _, fun a ha b hb => by rw [List.mem_singleton.1 hb]; exact hlt a ha⟩, fun x => by rw [List.mem_append, h2, ht, List.mem_append], fun _ x hx => ?_⟩
      rw [Nat.add_sub_cancel]
      rcases List.mem_append.1 hx with hx | hx
      · exact hxle x hx
      · rw [List.mem_singleton.1 hx, cb_refl]; exact Int.le_refl _
    · rw [if_neg hk, List.append_nil]
      have hmp : 0 < m ∧ zs[m]! = zs[m - 1]! := by
        unfold Lib.keeps at hk
        rcases Nat.eq_zero_or_pos m with rfl | h
        · exact absurd (by simp) hk
        · refine ⟨h, ?_⟩
          rw [hget m (by omega), hget (m - 1) (by omega)] at hk
          simp only [decide_eq_true_eq, not_or, Decidable.not_not] at hk
          exact hk.2
      refine ⟨h1, fun x => ?_, fun _ x hx => ?_⟩
      · rw [h2, ht, List.mem_append, List.mem_singleton]
        constructor
        · exact .inl
        · rintro (h | rfl)
          · exact h
          · rw [hmp.2, getElem!_pos zs (m - 1) (by omega)]
            exact List.mem_take_iff_getElem.2 ⟨m - 1, by omega, rfl⟩
      · rw [Nat.add_sub_cancel]
        exact hxle x hx
/-- texts one behind the other -/
def flatS (rs : List (List UInt8)) : List Value := rs.map fun r => .string (strB r)
theorem infoS : (Try.prog.info? 9).map (fun i => (i.zero, i.size, i.bytes)) = some (some (.string (strB [])), 1, 16) := by kernel_rfl
/-- what Repos gives -/
def RepQ (w : World) (l : List (LKey × Int)) (e : Ending) (w' : World) : Prop :=
  ∃ (A : Option Addr) (c k : Nat) (rs : List (List UInt8)), e = .returned (.slice A k c) ∧ rs.length = k ∧ (0 < k → ∃ g, A = some ⟨g, 0, none⟩ ∧ w.heap.size ≤ g ∧ ∀ (i : Nat) r, rs[i]? = some r → w'.cell? ⟨g, i, none⟩ = some (.string (strB r)) ∧ w'.frozen? ⟨g, i, none⟩ = false) ∧ rs.Pairwise (fun a b => Lib.compareBytes a b < 0) ∧ (∀ r, r ∈ rs ↔ ofQ l r ≠ []) ∧ k ≤ 100000 ∧ Below w.heap.size w w'
theorem szQ_isSome {l : List (LKey × Int)} {p : LKey × Int} (h : p ∈ l) : (szQ l p.1).isSome = true := by
  cases hs : szQ l p.1 with
  | some y => rfl
  | none => exact absurd (List.mem_map.2 ⟨p, h, rfl⟩) (szQ_none.1 hs)
theorem ofQ_ne {l : List (LKey × Int)} {r : List UInt8} : ofQ l r ≠ [] ↔ ∃ p ∈ l, p.1.1 = r := by
  unfold ofQ
  constructor
  · intro h
    obtain ⟨p, hp⟩ := List.exists_mem_of_ne_nil _ h
    obtain ⟨h1, h2⟩ := List.mem_filter.1 hp
    exact ⟨p, h1, by simpa using h2⟩
  · rintro ⟨p, h1, h2⟩ e
    have : p ∈ l.filter (fun p => decide (p.1.1 = r)) := List.mem_filter.2 ⟨h1, by simpa using h2⟩
    rw [e] at this
    cases this
theorem rep_end {w wr : World} {l : List (LKey × Int)} (hl : ∀ p ∈ l, kok p.1) {ks : List SK} (hp : ks.Pairwise (fun a b => cmpK a.1 b.1 < 0)) (hm : ∀ z : SK, kok z.1 → (z ∈ ks ↔ (szQ l z.1).isSome = true ∧ true = true)) (hok : ∀ z ∈ ks, kok z.1) {v : Value} {k n : Nat} (hk : ks.length = k) (hn : k ≤ n) (hn2 : n ≤ 100000)
    (hown : wr.ownsRow w.heap.size 9 1 v k (flatS (ks.map fun z => z.1.1))) (hb : Below w.heap.size w wr) :
    Calls Try.prog 49 #[v] wr fun e w' => ∃ v', e = .returned v' ∧ RepQ w l (.returned v') w' := by
  have hmem : ∀ r, r ∈ (ks.map fun z : SK => z.1.1) ↔ ofQ l r ≠ [] := fun r => by
    rw [ofQ_ne, List.mem_map]
    constructor
    · rintro ⟨z, hz, rfl⟩
      have h1 := ((hm z (hok z hz)).1 hz).1
      obtain ⟨y, hy⟩ := Option.isSome_iff_exists.1 h1
      exact ⟨_, szQ_some hy, rfl⟩
    · rintro ⟨p, hp, rfl⟩
      exact ⟨skOf p.1 (hl p hp), (hm (skOf p.1 (hl p hp)) (hl p hp)).2 ⟨szQ_isSome hp, rfl⟩, rfl⟩
  have hpw : (ks.map fun z : SK => z.1.1).Pairwise (fun a b => Lib.compareBytes a b ≤ 0) := by
    rw [List.pairwise_map]
    refine hp.imp fun {a b} h => ?_
    unfold cmpK at h
    by_cases e : Lib.compareBytes a.1.1 b.1.1 = 0
    · omega
    · rw [if_neg e] at h; omega
  have hlen : (ks.map fun z : SK => z.1.1).length = k := by simpa using hk
  generalize (ks.map fun z : SK => z.1.1) = zs at hmem hpw hlen hown
  subst hlen
  rcases hown.2 with ⟨rfl, h0⟩ | ⟨g, cap, cur, rfl, e2, e3, e4, e5, e6, e7⟩
  · have hz : zs = [] := List.eq_nil_of_length_eq_zero h0
    subst hz
    refine (Any.slices_Compact_string_empty cp_lays none 0 wr).mono fun e w' ⟨he, hw⟩ => ⟨_, he, none, 0, 0, [], rfl, rfl, fun h => absurd h (by omega), List.Pairwise.nil, hmem, by omega, by rw [hw]; exact hb⟩
  · have hbk : Blk wr g 9 cur := e3
    have hH : Holds encStr wr g 0 zs.toArray := fun j hj => by
      have hj' : j < zs.length := by simpa using hj
      have hv : cur[j]? = some (.string (strB (zs[j]!))) := by
        have : cur.toList[j]? = some (.string (strB (zs[j]!))) := by
          have h1 : (cur.toList.take (zs.length * 1))[j]? = cur.toList[j]? := List.getElem?_take_of_lt (by omega)
          rw [← h1, e7]
          unfold flatS
          rw [List.getElem?_map, List.getElem?_eq_getElem hj', getElem!_pos zs j hj']
          rfl
        simpa using this
      rw [Nat.zero_add]
      refine ⟨?_, hbk.frozen j⟩
      rw [hbk.cell j hv]
      simp [strB]
    obtain ⟨c1, c2, -⟩ := compact_up zs hpw zs.length (Nat.le_refl _)
    have hsub : (Lib.compact zs).length ≤ zs.length := by
      unfold Lib.compact Lib.compactUpTo
      rw [List.length_map]
      exact Nat.le_trans (List.length_filter_le _ _) (by simp)
    refine (Any.slices_Compact_string cp_lays g 0 cap zs wr hH (by omega) e4).mono fun e w' ⟨he, q, hw⟩ => ⟨_, he, some ⟨g, 0, none⟩, cap, _, Lib.compact zs, rfl, rfl, fun _ => ⟨g, rfl, e2, fun i r hi => ?_⟩, c1, fun r => by
      rw [← hmem r]
      have := c2 r
      rw [List.take_of_length_le (Nat.le_refl _)] at this
      exact this, by omega, ?_⟩
    · have hlt := (List.getElem?_eq_some_iff.1 hi).1
      have h2 := Go.Sort.holds_putRow encStr (Go.Sort.ahead wr q) g 0 zs.toArray (Lib.compact zs ++ List.replicate (zs.length - (Lib.compact zs).length) []).toArray hH (by simp; omega)
      have h3 := h2 i (by simp; omega)
      rw [← hw, Nat.zero_add] at h3
      refine ⟨?_, h3.2⟩
      rw [h3.1]
      have e8 : (Lib.compact zs ++ List.replicate (zs.length - (Lib.compact zs).length) []).toArray[i]! = r := by
        rw [getElem!_pos _ i (by simp; omega)]
        have := (List.getElem?_eq_some_iff.1 hi).2
        simp [hlt, this]
      rw [e8]
      rfl
    · rw [hw]
      refine hb.trans ⟨rfl, rfl, rfl, by simp [Go.Sort.putRow, Go.Sort.mapBlock, Go.Sort.ahead], fun j hj => ?_⟩
      have hne : g ≠ j := by omega
      simp [Go.Sort.putRow, Go.Sort.mapBlock, Go.Sort.ahead, Array.getElem?_modify, hne]
theorem repClosure_calls (k : LKey) (w : World) : Calls Try.prog 48 #[kval k] w fun e w' => e = .returned (.bool true) ∧ Below w.heap.size w w' := by
  have HB := hid (below_new w (.cells (kcells k) 71))
  unfold kval
  go_enter Try.func48, Try.ntmps48
  go_wp2_with fail
  go_ret
  exact ⟨rfl, HB.out⟩
set_option maxRecDepth 20000 in
set_option maxHeartbeats 4000000 in
theorem qrepos_calls {w : World} {F : List Nat} {s m u n : Nat} {q : QS} {g : List UInt8 → Option Nat} (h : QtB w F s m u n q g) (hn : n ≤ 100000) :
    Calls Try.prog 20 #[.pointer (some ⟨s, 0, none⟩)] w (RepQ w q.l) := by
  have hz := (zero_of_info infoLK2).1
  have HV := hid (qvalid_calls s _ h.cells.1)
  have HOK := hid h.ok.keys
  have HI := hid (qinorder_calls h hn 48 #[] (fun _ => true) (enters_of Try.func48 (by kernel_rfl) rfl) (fun k => #[kval k]) (fun _ => rfl)
    (fun k _ W _ => repClosure_calls k W))
  clear h
  go_enter Try.func20, Try.ntmps20
  go_wp2_with fail
  refine HV.out.mono ?_
  rintro _ _ ⟨rfl, rfl⟩
  clear HV
  go_wp2_with fail
  refine HI.out.mono ?_
  rintro _ w2 ⟨A, c, k, ks, rfl, hrow, hp, hm, hok, hkn, hb2⟩
  have HROW := hid hrow
  have HMATH := hid (⟨hp, hm, hok⟩ : ks.Pairwise (fun a b => cmpK a.1 b.1 < 0) ∧ (∀ z : SK, kok z.1 → (z ∈ ks ↔ (szQ q.l z.1).isSome = true ∧ true = true)) ∧ ∀ z ∈ ks, kok z.1)
  have HB2 := hid hb2
  have hk100 : k ≤ 100000 := by omega
  clear hrow hp hm hok hb2 HI
  go_wp2_with fail
  go_loopw [3, 12] (fun v3 v12 wr => ∃ i : Nat, v12 = .int .i64 (i : Int) ∧ i ≤ k ∧ Hid (wr.ownsRow w.heap.size 9 1 v3 i (flatS ((ks.take i).map fun z => z.1.1))) ∧ Hid (LRow wr w.heap.size A k ks) ∧ Hid (∀ g, A = some ⟨g, 0, none⟩ → v3.ownBlock ≠ some g) ∧ Hid (Below w.heap.size w wr)) (fun _ v12 _ => k - (intOf v12).toNat)
  case atStart => exact ⟨0, rfl, Nat.zero_le _, hid ⟨rfl, .inl ⟨rfl, rfl⟩⟩, HROW, hid (fun g _ => by simp [Value.ownBlock]), HB2⟩
  case round =>
    clear HROW HB2
    obtain ⟨i, rfl, hi, HO, HL, HN, HB⟩ := hrel
    by_cases hlt : i < k
    · have hlt' : (i : Int) < (k : Int) := by omega
      obtain ⟨x, hx⟩ : ∃ x, ks[i]? = some x := ⟨ks[i]'(by have := HL.out.1; omega), List.getElem?_eq_getElem _⟩
      obtain ⟨g0, rfl, hg0, hload⟩ := HL.out.load hx
      have HX := hid hx
      have HLD := hid hload
      clear hx hload
      obtain ⟨q1, q2⟩ := new_set wr 71 (kcells ([], zeroB 32)) (kcells x.1)
      have K3 := hid (Blk.new wr 71 (kcells ([], zeroB 32)))
      have K4 := hid q2
      have HO6 := hid (row_keep HO.out q1)
      have HL6 := hid (HL.out.keep q1)
      have HB6 := hid (HB.out.trans (q1.mono HB.out.size))
      have HSZ := hid (size33 (k := x.1) x.2)
      have HZ3 := hid (show (kcells ([], zeroB 32)).size = (kcells x.1).size from by rw [kcells_size (k := x.1) x.2]; rfl)
      clear q1 q2 HO HB HL
      go_wp2_with (first
        | ((refine wpList_load_run rfl 71 _ rfl ⟨g0, i * 33, none⟩ _ rfl HLD.out ?_))
        | ((refine wpList_store_blk rfl 71 _ _ rfl wr.heap.size (kcells x.1) rfl rfl 71 _ K3.out HSZ.out HZ3.out (kcells_all _) ?_); refine Held.go ?_))
      clear K3 HLD
      generalize (wr.alloc (.cells (kcells ([], zeroB 32)) 71)).setRow wr.heap.size (kcells x.1) = w6 at K4 HO6 HL6 HB6 ⊢
      generalize wr.heap.size = q0 at K4 ⊢
      unfold Held
      have c0 := K4.out.cell 0 (v := .string (strB x.1.1)) rfl
      have hsl := slice_one (P := Try.prog) Try.underlying41 infoS (.string (strB x.1.1)) rfl (by omega) (by omega) w6
      go_wp2_with ((refine wpList_slice1 (u := .string (strB x.1.1)) rfl 41 1 0 (.tmp 18) rfl rfl hsl ?_); refine Held.go ?_)
      clear hsl c0 K4
      change Held (wpList _ _ _ _ _ (w6.alloc (.cells #[.string (strB x.1.1)] 9)))
      have hb8 := below_new w6 (.cells #[.string (strB x.1.1)] 9)
      have hq8 := Blk.new w6 9 #[.string (strB x.1.1)]
      generalize w6.alloc (.cells #[.string (strB x.1.1)] 9) = w8 at hb8 hq8 ⊢
      generalize w6.heap.size = q8 at hq8 ⊢
      have HO8 := row_keep HO6.out hb8
      have HL8 := HL6.out.keep hb8
      have HB8 := HB6.out.trans (hb8.mono HB6.out.size)
      obtain ⟨v9, w9, hrun9, hown9, hg9, hob9⟩ := app_one (P := Try.prog) (ty := 41) Try.underlying41 infoS rfl (by omega) (by omega) HO8 hq8 rfl (fun u hu => by simp at hu; rw [hu]; rfl) (by omega) HB8.size
      have e1 : flatS ((ks.take (i + 1)).map fun z : SK => z.1.1) = flatS ((ks.take i).map fun z : SK => z.1.1) ++ [.string (strB x.1.1)] := by
        rw [List.take_add_one, HX.out]
        simp [flatS]
      have HO9 := hid (show w9.ownsRow w.heap.size 9 1 v9 (i + 1) (flatS ((ks.take (i + 1)).map fun z => z.1.1)) from by rw [e1]; exact hown9)
      have HL9 := hid (HL8.grown hg9 (fun g e => HN.out g e))
      have hgl : g0 < w8.heap.size := by
        obtain ⟨g2, e3, _, h3⟩ := HL8.2 (by omega)
        cases e3
        exact lt_of_cell (h3 i x HX.out 0 _ rfl)
      have HN9 := hid (show ∀ g, some (⟨g0, 0, none⟩ : Addr) = some ⟨g, 0, none⟩ → v9.ownBlock ≠ some g from fun g e => by
        have eg : g0 = g := by simpa using e
        rcases hob9 with h | h
        · rw [h]; exact HN.out g e
        · rw [h, ← eg]
          simp
          omega)
      have HB9 := hid (HB8.trans (below_of_grown hg9 HB8.size (fun g e => (own_lt HO8 e).1)))
      clear hb8 hq8 HO8 HL8 HB8 hown9 hg9 hob9 e1 hgl HO6 HL6 HB6
      unfold Held
      go_wp2_with (refine wpList_append1 rfl _ _ 41 rfl rfl rfl hrun9 ?_)
      clear hrun9
      go_roundw
      case rel => exact ⟨i + 1, by go_num, by omega, HO9, HL9, HN9, HB9⟩
      case measure => simp [intOf]; omega
    · obtain rfl : i = k := by omega
      have HEnd := hid (rep_end HOK.out HMATH.out.1 (fun z hz => by simpa using HMATH.out.2.1 z hz) HMATH.out.2.2 HL.out.1 hkn hn (by have := HO.out; rw [List.take_of_length_le (by have := HL.out.1; omega)] at this; exact this) HB.out)
      clear HO HL HN HB
      go_wp2_with fail
      refine HEnd.out.mono ?_
      rintro _ w9 ⟨v', rfl, hq⟩
      have HQ := hid hq
      clear hq HEnd
      go_wp2_with fail
      go_ret
      exact HQ.out
end Go.Proofs.Ytjgnbmkhibdcfaa
