/- Contract of package quota: inOrder, the walk. -/
import Derived.Test.YtjgnbmkhibdcfaaQtOrd
namespace Go.Proofs.Ytjgnbmkhibdcfaa
open Go.RowKit Go.Shelf
open Go.Sort (HoldsK PermIn SortedIn)

theorem kcells_all (k : LKey) : (kcells k).toList.all (·.oneCell') = true := by
  rw [List.all_eq_true]
  exact kcells_one k
theorem srt_of {d d' : Array SK} (hp : PermIn 0 d.size d d') (hs : SortedIn (ltOf skCmp) 0 d.size d') : d'.size = d.size ∧ d'.toList.Perm d.toList ∧ ∀ i j : Nat, i < j → ∀ x y, d'.toList[i]? = some x → d'.toList[j]? = some y → ¬ skCmp y x < 0 := by
  obtain ⟨h1, _, h3⟩ := hp
  refine ⟨h1, ?_, fun i j hij x y hx hy => ?_⟩
  · rw [Array.extract_size, ← h1, Array.extract_size] at h3
    exact h3
  · obtain ⟨e1, e2⟩ := ge_of_get hx
    obtain ⟨e3, e4⟩ := ge_of_get hy
    have := hs i j (Nat.zero_le _) hij (by rw [← h1]; simpa using e3)
    unfold ltOf at this
    have a1 : d'[i]! = x := by rw [getElem!_pos d' i (by simpa using e1)]; have := (List.getElem?_eq_some_iff.1 hx).2; simpa using this
    have a2 : d'[j]! = y := by rw [getElem!_pos d' j (by simpa using e3)]; have := (List.getElem?_eq_some_iff.1 hy).2; simpa using this
    rw [a1, a2] at this
    simpa using this
/-- the end of inOrder: the row of links is sorted -/
theorem qsort_end {w wr : World} {v : Value} {n : Nat} {l : List (LKey × Int)} {wn : LKey → Bool} {todo : LKey → Bool} {ks : List SK} (hown : wr.ownsRow w.heap.size 71 33 v ks.length (flatK ks)) (hk : KeysK l wn todo ks) (ht : ∀ k, kok k → todo k = false) (hl : ks.length ≤ n) (hn : n ≤ 100000) (hb : Below w.heap.size w wr) :
    Calls Try.prog 59 #[v, .func (.func 60) #[] #[]] wr fun e w' => e = .returned (.tuple #[]) ∧ InOP w n l wn (.returned v) w' := by
  have hmem : ∀ z : SK, kok z.1 → (z ∈ ks ↔ (szQ l z.1).isSome = true ∧ wn z.1 = true) := fun z hz => by
    rw [hk.mem z hz, ht z.1 hz]
    simp
  rcases hown.2 with ⟨rfl, h0⟩ | ⟨g, cap, cur, rfl, _⟩
  · have hks : ks = [] := List.eq_nil_of_length_eq_zero h0
    refine (AnyF.slices_SortFunc_none { so_lays with } none 0 (.func (.func 60) #[] #[]) wr).mono fun e w' ⟨he, hw⟩ => ⟨he, none, 0, 0, ks, rfl, ⟨h0, fun h => absurd h (by omega)⟩, ?_, hmem, hk.ok, by omega, by rw [hw]; exact hb⟩
    rw [hks]
    exact List.Pairwise.nil
  · obtain ⟨hH, hg, hbg⟩ := holds_row hown rfl
    refine (qsort_calls g cap ks.toArray wr hH hg (by simp; omega)).mono fun e w' ⟨he, d', n2, os, hp, hs, hw⟩ => ?_
    obtain ⟨h1, h2, h3⟩ := srt_of hp hs
    obtain ⟨h4, h5⟩ := sort_row (n2 := n2) (os := os) hH hg h1
    rw [← hw] at h4 h5
    have hperm : d'.toList.Perm ks := by simpa using h2
    refine ⟨he, some ⟨g, 0, none⟩, cap, ks.length, d'.toList, rfl, ⟨hperm.length_eq, fun _ => ⟨g, rfl, hbg, h4⟩⟩, sorted_strict hperm hk.nodup h3, fun z hz => by rw [hperm.mem_iff]; exact hmem z hz, fun z hz => hk.ok z (hperm.mem_iff.1 hz), hl, hb.trans (below_of_grown h5 hb.size (fun b e => by cases e; exact hbg))⟩
set_option maxRecDepth 20000 in
set_option maxHeartbeats 4000000 in
theorem qinorder_calls {w : World} {F : List Nat} {s m u n : Nat} {q : QS} {g : List UInt8 → Option Nat} (h : QtB w F s m u n q g) (hn : n ≤ 100000) (kf : FuncId) (cap : Array Value) (wn : LKey → Bool) (hE : ∀ args W, (callFunc kf args).run Try.prog W = .ok (.enter kf args) W)
    (argsOf : LKey → Array Value) (hA : ∀ k, argsOf k = #[kval k] ++ cap) (hw : ∀ k, kok k → ∀ W, Below w.heap.size w W → Calls Try.prog kf (argsOf k) W fun e w' => e = .returned (.bool (wn k)) ∧ Below W.heap.size W w') :
    Calls Try.prog 47 #[.pointer (some ⟨s, 0, none⟩), .func (.func kf) #[] cap] w (InOP w n q.l wn) := by
  have hz := (zero_of_info infoLK2).1
  have c2 := h.cells.2.2.1
  have HH := hid h
  have HA := hid hA; have HW := hid hw
  clear h hA hw
  go_enter Try.func47, Try.ntmps47
  go_wp2_with (at_range; refine Held.go ?_)
  refine wpList_range_G rfl _ (T := 49) rfl Try.underlying49 rfl HH.out.mp ?_
  intro w1 hr1 hg1 hz1
  have HR := hid hr1
  have HB := hid (below_of_grown hg1 (Nat.le_refl w.heap.size) (fun g e => by cases e))
  have hrl := hr1.left_le
  have HRL := hid hrl
  have HRB := hid (show w.heap.size < w1.heap.size from by omega)
  obtain ⟨r, hr⟩ : ∃ r, w.heap.size = r := ⟨_, rfl⟩
  have HRE := hid hr
  rw [hr] at HR HRL
  have hrr : (Value.pointer (some ⟨w.heap.size, 0, none⟩)) = .pointer (some ⟨r, 0, none⟩) := by rw [hr]
  rw [hrr]
  clear hr1 hg1 hz1 hrl hr hrr
  go_frame
  go_wp2_with fail
  go_loopw [5] (fun v5 wr => ∃ (ks : List SK) (todo : LKey → Bool), Hid (wr.ownsRow w.heap.size 71 33 v5 ks.length (flatK ks)) ∧ Hid (v5.ownBlock ≠ some r) ∧ Hid (RanG lkK szK wr m r n (szQ q.l) todo) ∧ Hid (KeysK q.l wn todo ks) ∧ Hid (ks.length + wr.rangeLeft m r ≤ n) ∧ Hid (Below w.heap.size w wr)) (fun _ wr => wr.rangeLeft m r)
  case atStart => exact ⟨[], _, hid ⟨rfl, .inl ⟨rfl, rfl⟩⟩, hid (by simp [Value.ownBlock]), HR, hid (KeysK.start _ _), hid (by have := HRL.out; simpa using this), HB⟩
  case round =>
    clear HR HRL HB HRB
    obtain ⟨ks, todo, HO, HOB, HR, HK, HL, HB⟩ := hrel
    go_wp2_with (at_next; refine Held.go ?_)
    refine wpList_next_G rfl _ rfl rfl HR.out ?_ ?_
    · intro hdone
      have HS := hid (qsort_end HO.out HK.out hdone (by have := HL.out; omega) hn HB.out)
      clear HR HO HOB HK HL HB hdone
      go_wp2_with fail
      refine HS.out.mono ?_
      rintro _ w2 ⟨rfl, hin⟩
      have HIN := hid hin
      clear hin HS
      go_wp2_with fail
      go_ret
      exact HIN.out
    · intro k c w5 hk ht hf hr5 hlt hg5 hz5 hen
      have hrb : w.heap.size = r := HRE.out
      have hb5 : Below w.heap.size w w5 := HB.out.trans (below_of_grown hg5 HB.out.size (fun g' e => by cases e; omega))
      have ho5 := row_grown HO.out hg5 (.inr (Ne.symm HOB.out))
      obtain ⟨q1, q2⟩ := new_set w5 71 (kcells ([], zeroB 32)) (kcells k)
      have K3 := hid (Blk.new w5 71 (kcells ([], zeroB 32)))
      obtain ⟨hr6, hl6⟩ := hr5.keep q1
      have K4 := hid q2
      have HR6 := hid hr6
      have HO6 := hid (row_keep ho5 q1)
      have HB6 := hid (hb5.trans (q1.mono hb5.size))
      have HLT := hid (show ((w5.alloc (.cells (kcells ([], zeroB 32)) 71)).setRow w5.heap.size (kcells k)).rangeLeft m r < wr.rangeLeft m r from by rw [hl6]; exact hlt)
      have HSZ := hid (size33 (k := k) hk.2)
      have HZ3 := hid (show (kcells ([], zeroB 32)).size = (kcells k).size from by rw [kcells_size (k := k) hk.2]; rfl)
      have HKK := hid (show kok k from hk); have HT := hid ht
      have HF := hid (show (szQ q.l k).isSome = true from by rw [hf]; rfl)
      have hen' : (Instr.entry (.pointer (some ⟨r, 0, none⟩))).run Try.prog w5 = .ok (.tuple #[kval k, .agg #[.int .i64 c]]) w5 := hen
      change wpList _ _ _ _ (Act.put _ _ (.tuple #[.bool true, kval k, .agg #[.int .i64 c]])) _
      clear hr5 hlt hg5 hz5 hen hk ht hf hb5 ho5 q1 q2 hr6 hl6 hrb HR HO HB
      go_wp2_with (first
        | (refine wpList_store_blk rfl 71 _ _ rfl w5.heap.size _ rfl rfl 71 _ K3.out HSZ.out HZ3.out (kcells_all _) ?_)
        | ((refine wpList_load_row rfl 71 _ rfl w5.heap.size rfl _ _ _ _ K4.out Try.underlying71 rfl HSZ.out ?_); refine Held.go ?_))
      clear hen' K3
      generalize (w5.alloc (.cells (kcells ([], zeroB 32)) 71)).setRow w5.heap.size (kcells k) = w6 at K4 HR6 HO6 HB6 HLT ⊢
      generalize w5.heap.size = p at K4 ⊢
      unfold Held
      have hcall := HW.out k HKK.out w6 HB6.out
      refine wpList_callc (T := fun u w' => u = .bool (wn k) ∧ Below w6.heap.size w6 w') rfl hE rfl rfl rfl (HA.out k) (hcall.mono fun e w' h => ⟨_, h.1, rfl, h.2⟩) ?_
      rintro _ w7 ⟨rfl, hb7⟩
      simp only [Act.put, List.setIfInBounds_toArray, List.set_cons_zero, List.set_cons_succ]
      obtain ⟨hr7, hl7⟩ := HR6.out.keep hb7
      have HR7 := hid hr7
      have HO7 := hid (row_keep HO6.out hb7)
      have HB7 := hid (HB6.out.trans (hb7.mono HB6.out.size))
      have HLT7 := hid (show w7.rangeLeft m r < wr.rangeLeft m r from by rw [hl7]; exact HLT.out)
      have K7 := hid (K4.out.keep hb7)
      clear hcall hb7 hr7 hl7 K4 HR6 HO6 HB6 HLT
      cases hwn : wn k with
      | false =>
        have HK7 := hid (HK.out.leave hwn)
        clear hwn K7
        go_wp2_with fail
        go_roundw
        case rel => exact ⟨ks, _, HO7, HOB, HR7, HK7, hid (by have h1 := HL.out; have h2 := HLT7.out; omega), HB7⟩
        case measure => exact HLT7.out
      | true =>
        have HK7 := hid (HK.out.take HKK.out HF.out HT.out hwn)
        clear hwn
        obtain ⟨nk, hnk⟩ : ∃ nk, ks.length = nk := ⟨_, rfl⟩
        have HNK := hid hnk
        rw [hnk] at HO7
        clear hnk
        have hsl := slice_one (P := Try.prog) Try.underlying84 infoLK (.agg (kcells k)) (kcells_size HKK.out.2) (by omega) (by omega) w7
        go_wp2_with (first
          | (refine wpList_load_row rfl 71 _ rfl p rfl _ _ _ _ K7.out Try.underlying71 rfl HSZ.out ?_)
          | ((refine wpList_slice1 (u := .agg (kcells k)) rfl 84 1 0 (.tmp 20) rfl rfl hsl ?_); refine Held.go ?_))
        clear hsl
        change Held (wpList _ _ _ _ _ (w7.alloc (.cells (kcells k) 71)))
        have hb8 := below_new w7 (.cells (kcells k) 71)
        have hq8 := Blk.new w7 71 (kcells k)
        generalize w7.alloc (.cells (kcells k) 71) = w8 at hb8 hq8 ⊢
        generalize w7.heap.size = q8 at hq8 ⊢
        obtain ⟨hr8, hl8⟩ := HR7.out.keep hb8
        have HO8 := row_keep HO7.out hb8
        have HB8 := HB7.out.trans (hb8.mono HB7.out.size)
        obtain ⟨v9, w9, hrun9, hown9, hg9, hob9⟩ := app_one (P := Try.prog) (ty := 84) Try.underlying84 infoLK (kcells_size (k := ([], zeroB 32)) rfl) (by omega) (by omega) HO8 hq8 (kcells_size HKK.out.2) (kcells_one k) (by have h1 := HL.out; have h2 := HNK.out; omega) HB8.size
        have hm := HH.out.lt m HH.out.ins.2.1
        have hrb := HRE.out
        have hc9 : Chg (u5.ownBlock.toList) w8 w9 := Chg.of_grown hg9 (fun g e => by rw [e]; simp)
        have hmb : m ∉ u5.ownBlock.toList := fun h => by
          have := own_lt HO8 (b := m) (by simpa using h)
          omega
        have hrn : r ∉ u5.ownBlock.toList := fun h => HOB.out (by simpa using h)
        obtain ⟨hr9, hl9⟩ := hr8.chg hc9 hmb hrn
        have HO9 := hid (show w9.ownsRow w.heap.size 71 33 v9 (ks ++ [skOf k HKK.out]).length (flatK (ks ++ [skOf k HKK.out])) from by rw [flatK_snoc, List.length_append, HNK.out]; exact hown9)
        have HOB9 := hid (show v9.ownBlock ≠ some r from by
          rcases hob9 with h | h
          · rw [h]; exact HOB.out
          · rw [h]
            have := HR7.out.lt
            have := hb8.size
            simp
            omega)
        have HR9 := hid hr9
        have HB9 := hid (HB8.trans (below_of_grown hg9 HB8.size (fun g e => (own_lt HO8 e).1)))
        have HLT9 := hid (show w9.rangeLeft m r < wr.rangeLeft m r from by rw [hl9, hl8]; exact HLT7.out)
        clear hb8 hq8 hr8 hl8 HO8 HB8 hown9 hg9 hob9 hm hrb hc9 hmb hrn hr9 hl9 K7
        unfold Held
        go_wp2_with (refine wpList_append1 rfl _ _ 84 rfl rfl rfl hrun9 ?_)
        clear hrun9
        go_roundw
        case rel => exact ⟨_, _, HO9, HOB9, HR9, HK7, hid (by have h1 := HL.out; have h2 := HLT9.out; simp; omega), HB9⟩
        case measure => exact HLT9.out
end Go.Proofs.Ytjgnbmkhibdcfaa
