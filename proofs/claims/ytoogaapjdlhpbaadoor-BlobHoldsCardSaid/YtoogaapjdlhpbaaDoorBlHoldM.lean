/- Mathematics: a heap of digests. No program in it. -/
import Derived.Test.YtoogaapjdlhpbaaDoorCmpMath
import Derived.Test.YtoogaapjdlhpbaaDoorBlPush
import Derived.Test.YtoogaapjdlhpbaaDoorBlNo
namespace Go.Proofs.YtoogaapjdlhpbaaDoor
open Crc

def leI (a b : List UInt8) : Prop := cmpL a b ≤ 0
theorem cmpL_neg : ∀ (a b : List UInt8), a.length = b.length → cmpL b a = - cmpL a b
  | [], [], _ => rfl
  | [], _ :: _, h => by simp at h
  | _ :: _, [], h => by simp at h
  | x :: a, y :: b, h => by
    rw [cmpL_cons, cmpL_cons]
    have := cmpL_neg a b (by simpa using h)
    by_cases h1 : x.toNat < y.toNat
    · rw [if_pos h1, if_neg (by omega), if_pos h1]; rfl
    · by_cases h2 : y.toNat < x.toNat
      · rw [if_neg h1, if_pos h2, if_pos h2, if_neg h1]
      · rw [if_neg h1, if_neg h2, if_neg h2, if_neg h1, this]
theorem leI_trans : ∀ {a b c : List UInt8}, a.length = b.length → b.length = c.length → leI a b → leI b c → leI a c
  | [], [], [], _, _, _, _ => by unfold leI; decide
  | x :: a, y :: b, z :: c, h1, h2, hab, hbc => by
    unfold leI at *
    rw [cmpL_cons] at hab hbc ⊢
    have ih := @leI_trans a b c (by simpa using h1) (by simpa using h2)
    unfold leI at ih
    by_cases p1 : x.toNat < y.toNat
    · by_cases p2 : y.toNat < z.toNat
      · rw [if_pos (by omega)]; omega
      · rw [if_neg p2] at hbc
        by_cases p3 : z.toNat < y.toNat
        · rw [if_pos p3] at hbc; omega
        · rw [if_pos (by omega)]; omega
    · rw [if_neg p1] at hab
      by_cases p4 : y.toNat < x.toNat
      · rw [if_pos p4] at hab; omega
      · rw [if_neg p4] at hab
        by_cases p2 : y.toNat < z.toNat
        · rw [if_pos (by omega)]; omega
        · rw [if_neg p2] at hbc
          by_cases p3 : z.toNat < y.toNat
          · rw [if_pos p3] at hbc; omega
          · rw [if_neg p3] at hbc
            rw [if_neg (by omega), if_neg (by omega)]
            exact ih hab hbc
  | [], [], _ :: _, _, h, _, _ => by simp at h
  | [], _ :: _, _, h, _, _, _ => by simp at h
  | _ :: _, [], _, h, _, _, _ => by simp at h
  | _ :: _, _ :: _, [], _, h, _, _ => by simp at h
theorem cmpL_zero : ∀ {a b : List UInt8}, a.length = b.length → cmpL a b = 0 → a = b
  | [], [], _, _ => rfl
  | [], _ :: _, h, _ => by simp at h
  | _ :: _, [], h, _ => by simp at h
  | x :: a, y :: b, h, e => by
    rw [cmpL_cons] at e
    by_cases h1 : x.toNat < y.toNat
    · rw [if_pos h1] at e; omega
    · by_cases h2 : y.toNat < x.toNat
      · rw [if_neg h1, if_pos h2] at e; omega
      · rw [if_neg h1, if_neg h2] at e
        rw [cmpL_zero (by simpa using h) e, UInt8.toNat_inj.1 (by omega : x.toNat = y.toNat)]
theorem leI_refl (a : List UInt8) : leI a a := by
  have := cmpL_neg a a rfl
  unfold leI
  omega
theorem leI_of_lt {a b : List UInt8} (h : cmpL a b < 0) : leI a b := by unfold leI; omega
theorem leI_of_not {a b : List UInt8} (hl : a.length = b.length) (h : ¬ cmpL a b < 0) : leI b a := by
  have := cmpL_neg a b hl
  unfold leI
  omega
/-- element k -/
def gI (l : List (List UInt8)) (k : Nat) : List UInt8 := l.getD k []
theorem gI_get {l : List (List UInt8)} {k : Nat} {x : List UInt8} (h : l[k]? = some x) : gI l k = x := by unfold gI; rw [List.getD_eq_getElem?_getD, h]; rfl
theorem get_gI {l : List (List UInt8)} {k : Nat} (h : k < l.length) : l[k]? = some (gI l k) := by unfold gI; simp [List.getD, h]
theorem gI_set {l : List (List UInt8)} {i k : Nat} {y : List UInt8} (h : i < l.length) : gI (l.set i y) k = if k = i then y else gI l k := by
  unfold gI
  rw [List.getD_eq_getElem?_getD, List.getElem?_set]
  by_cases e : i = k
  · subst e; simp [h]
  · rw [if_neg e, if_neg (Ne.symm e), List.getD_eq_getElem?_getD]
/-- two elements exchanged -/
def swI (l : List (List UInt8)) (i j : Nat) : List (List UInt8) := (l.set i (gI l j)).set j (gI l i)
theorem swI_length (l : List (List UInt8)) (i j : Nat) : (swI l i j).length = l.length := by unfold swI; simp
theorem swI_get {l : List (List UInt8)} {i j k : Nat} (hi : i < l.length) (hj : j < l.length) : gI (swI l i j) k = if k = j then gI l i else if k = i then gI l j else gI l k := by
  unfold swI
  rw [gI_set (by rw [List.length_set]; exact hj), gI_set hi]
def L32 (l : List (List UInt8)) : Prop := ∀ y ∈ l, y.length = 32
theorem L32.at_ {l : List (List UInt8)} (h : L32 l) {k : Nat} (hk : k < l.length) : (gI l k).length = 32 := h _ (List.mem_of_getElem? (get_gI hk))
theorem L32.set {l : List (List UInt8)} (h : L32 l) (i : Nat) {y : List UInt8} (hy : y.length = 32) : L32 (l.set i y) := fun z hz => by
  rcases List.mem_or_eq_of_mem_set hz with hz | rfl
  · exact h z hz
  · exact hy
theorem L32.sw {l : List (List UInt8)} (h : L32 l) {i j : Nat} (hi : i < l.length) (hj : j < l.length) : L32 (swI l i j) := (h.set i (h.at_ hj)).set j (h.at_ hi)
theorem count_set (l : List (List UInt8)) (i : Nat) (hi : i < l.length) (y z : List UInt8) : (l.set i y).count z + (if gI l i == z then 1 else 0) = l.count z + (if y == z then 1 else 0) := by
  have h1 : gI l i = l[i] := gI_get (List.getElem?_eq_getElem hi)
  rw [List.count_set hi, h1]
  have : (if l[i] == z then 1 else 0) ≤ l.count z := by
    by_cases e : l[i] == z
    · rw [if_pos e]
      have : l[i] = z := by simpa using e
      exact List.count_pos_iff.2 (this ▸ List.getElem_mem hi)
    · rw [if_neg e]; omega
  omega
theorem swI_perm {l : List (List UInt8)} {i j : Nat} (hi : i < l.length) (hj : j < l.length) : (swI l i j).Perm l := by
  rw [List.perm_iff_count]
  intro z
  unfold swI
  have h1 := count_set (l.set i (gI l j)) j (by rw [List.length_set]; exact hj) (gI l i) z
  have h2 := count_set l i hi (gI l j) z
  rw [gI_set hi] at h1
  by_cases e : j = i
  · rw [if_pos e] at h1; subst e; omega
  · rw [if_neg e] at h1; omega
/-- the first n elements are a heap -/
def HeapI (l : List (List UInt8)) (n : Nat) : Prop := ∀ k, 0 < k → k < n → leI (gI l ((k - 1) / 2)) (gI l k)
/-- a heap but for element j, which may have to go up -/
def UpI (l : List (List UInt8)) (n j : Nat) : Prop := (∀ k, 0 < k → k < n → k ≠ j → leI (gI l ((k - 1) / 2)) (gI l k)) ∧ ∀ k, 0 < k → k < n → (k - 1) / 2 = j → 0 < j → leI (gI l ((j - 1) / 2)) (gI l k)
theorem UpI.done {l : List (List UInt8)} {n j : Nat} (h : UpI l n j) (h0 : j = 0 ∨ leI (gI l ((j - 1) / 2)) (gI l j)) : HeapI l n := fun k hk hkn => by
  by_cases e : k = j
  · subst e
    rcases h0 with h0 | h0
    · omega
    · exact h0
  · exact h.1 k hk hkn e
theorem UpI.swap {l : List (List UInt8)} {n j : Nat} (h : UpI l n j) (h32 : L32 l) (hn : n = l.length) (hj : j < n) (hj0 : 0 < j) (hlt : cmpL (gI l j) (gI l ((j - 1) / 2)) < 0) : UpI (swI l ((j - 1) / 2) j) n ((j - 1) / 2) := by
  subst hn
  obtain ⟨i, hi⟩ : ∃ i, (j - 1) / 2 = i := ⟨_, rfl⟩
  rw [hi] at hlt ⊢
  have hij : i < j := by omega
  have hil : i < l.length := by omega
  have hle := leI_of_lt hlt
  have len : ∀ k, k < l.length → (gI l k).length = 32 := fun k hk => h32.at_ hk
  refine ⟨fun k hk hkn hki => ?_, fun k hk hkn hkp hi0 => ?_⟩
  · rw [swI_get hil hj, swI_get hil hj]
    by_cases e1 : k = j
    · subst e1
      rw [if_pos rfl, hi, if_neg (by omega), if_pos rfl]
      exact hle
    · rw [if_neg e1, if_neg hki]
      by_cases e2 : (k - 1) / 2 = j
      · rw [if_pos e2]
        have := h.2 k hk hkn e2 hj0
        rwa [hi] at this
      · rw [if_neg e2]
        by_cases e3 : (k - 1) / 2 = i
        · rw [if_pos e3]
          have := h.1 k hk hkn e1
          rw [e3] at this
          exact leI_trans (by rw [len j hj, len i hil]) (by rw [len i hil, len k hkn]) hle this
        · rw [if_neg e3]
          exact h.1 k hk hkn e1
  · rw [swI_get hil hj, swI_get hil hj]
    rw [if_neg (by omega), if_neg (by omega)]
    have hpi := h.1 i hi0 (by omega) (by omega)
    by_cases e1 : k = j
    · rw [if_pos e1]; exact hpi
    · rw [if_neg e1, if_neg (by omega)]
      have := h.1 k hk hkn e1
      rw [hkp] at this
      exact leI_trans (by rw [len _ (by omega), len i hil]) (by rw [len i hil, len k hkn]) hpi this
/-- a heap but for element i, which may have to go down -/
def DnI (l : List (List UInt8)) (n i : Nat) : Prop := (∀ k, 0 < k → k < n → (k - 1) / 2 ≠ i → leI (gI l ((k - 1) / 2)) (gI l k)) ∧ ∀ k, 0 < k → k < n → (k - 1) / 2 = i → 0 < i → leI (gI l ((i - 1) / 2)) (gI l k)
theorem DnI.leaf {l : List (List UInt8)} {n i : Nat} (h : DnI l n i) (h0 : n ≤ 2 * i + 1) : HeapI l n := fun k hk hkn => h.1 k hk hkn (by omega)
theorem DnI.done {l : List (List UInt8)} {n i j : Nat} (h : DnI l n i) (h32 : L32 l) (hn : n ≤ l.length) (hjn : j < n) (hmin : ∀ k, 0 < k → k < n → (k - 1) / 2 = i → leI (gI l j) (gI l k)) (hle : leI (gI l i) (gI l j)) : HeapI l n := fun k hk hkn => by
  by_cases e : (k - 1) / 2 = i
  · rw [e]
    exact leI_trans (by rw [h32.at_ (by omega), h32.at_ (by omega)]) (by rw [h32.at_ (by omega), h32.at_ (by omega)]) hle (hmin k hk hkn e)
  · exact h.1 k hk hkn e
theorem DnI.swap {l : List (List UInt8)} {n i j : Nat} (h : DnI l n i) (hn : n ≤ l.length) (hj : j = 2 * i + 1 ∨ j = 2 * i + 2) (hjn : j < n) (hmin : ∀ k, 0 < k → k < n → (k - 1) / 2 = i → leI (gI l j) (gI l k)) (hle : leI (gI l j) (gI l i)) : DnI (swI l i j) n j := by
  have hil : i < l.length := by omega
  have hjl : j < l.length := by omega
  refine ⟨fun k hk hkn hkp => ?_, fun k hk hkn hkp _ => ?_⟩
  · rw [swI_get hil hjl, swI_get hil hjl, if_neg hkp]
    by_cases e1 : (k - 1) / 2 = i
    · rw [if_pos e1]
      by_cases e2 : k = j
      · rw [if_pos e2]; exact hle
      · rw [if_neg e2, if_neg (by omega)]
        exact hmin k hk hkn e1
    · rw [if_neg e1]
      by_cases e3 : k = i
      · subst e3
        rw [if_neg (by omega), if_pos rfl]
        exact h.2 j (by omega) hjn (by omega) hk
      · rw [if_neg (by omega), if_neg e3]
        exact h.1 k hk hkn e1
  · rw [swI_get hil hjl, swI_get hil hjl, if_neg (by omega), if_pos (by omega), if_neg (by omega), if_neg (by omega)]
    have := h.1 k hk hkn (by omega)
    rwa [hkp] at this
theorem HeapI.min {l : List (List UInt8)} {n : Nat} (h : HeapI l n) (h32 : L32 l) (hn : n ≤ l.length) : ∀ k, k < n → leI (gI l 0) (gI l k) := fun k => by
  induction k using Nat.strongRecOn with
  | _ k ih =>
    intro hk
    rcases Nat.eq_zero_or_pos k with h0 | h0
    · subst h0; exact leI_refl _
    · exact leI_trans (by rw [h32.at_ (by omega), h32.at_ (by omega)]) (by rw [h32.at_ (by omega), h32.at_ (by omega)]) (ih ((k - 1) / 2) (by omega) (by omega)) (h k h0 hk)
end Go.Proofs.YtoogaapjdlhpbaaDoor
/- Contracts of container/heap over a row of digests. -/
namespace Go.Proofs.YtoogaapjdlhpbaaDoor
open Go.RowKit Crc

theorem l_slice (T : Nat) (W : World) (v : Value) (h : W.cell? ⟨T, 0, none⟩ = some v) : (loadVar 98 ⟨T, 0, none⟩).run Tryd.prog W = .ok v W := by
  simp [loadVar, isAgg, Sem.run_bind, run_underlying Tryd.underlying98, h]
theorem m_val (f : FuncId) (k T : Nat) (W : World) (name : String) (v : Value) (hm : ((Tryd.prog.info? 97).bind (fun i => i.methods.find? (·.name == name))).map (fun m => (m.path, m.func)) = some (#[], some (f, false))) (h : W.cell? ⟨T, 0, none⟩ = some v) : (method (k + 1) 97 (.pointer (some ⟨T, 0, none⟩)) name).run Tryd.prog W = .ok (f, v) W := by
  cases hi : Tryd.prog.info? 97 with
  | none => rw [hi] at hm; cases hm
  | some i =>
    rw [hi] at hm
    cases hf : i.methods.find? (·.name == name) with
    | none => simp [hf] at hm
    | some m =>
      simp [hf] at hm
      have hl := l_slice T W v h
      have hu := Tryd.underlying97
      have hw : ∀ s t : String, (Builtin.ssaWrapNilChk_ #[97] 97 #[.pointer (some ⟨T, 0, none⟩), strVal s, strVal t]).run Tryd.prog W = .ok (.pointer (some ⟨T, 0, none⟩)) W := fun s t => by rfl
      unfold method
      simp [typeInfo, hi, hf, hm.1, hm.2, Sem.run_bind, follow, receiverAt, run_underlying hu, Place.get, asAddr, hl, hw]
theorem m_less (T : Nat) (W : World) (v : Value) (h : W.cell? ⟨T, 0, none⟩ = some v) : ∀ k, (method (k + 1) 97 (.pointer (some ⟨T, 0, none⟩)) "Less").run Tryd.prog W = .ok (98, v) W := fun k => m_val _ k T W _ v (by kernel_rfl) h
theorem m_swap (T : Nat) (W : World) (v : Value) (h : W.cell? ⟨T, 0, none⟩ = some v) : ∀ k, (method (k + 1) 97 (.pointer (some ⟨T, 0, none⟩)) "Swap").run Tryd.prog W = .ok (101, v) W := fun k => m_val _ k T W _ v (by kernel_rfl) h
theorem m_len (T : Nat) (W : World) (v : Value) (h : W.cell? ⟨T, 0, none⟩ = some v) : ∀ k, (method (k + 1) 97 (.pointer (some ⟨T, 0, none⟩)) "Len").run Tryd.prog W = .ok (66, v) W := fun k => m_val _ k T W _ v (by kernel_rfl) h
theorem m_push (T : Nat) (W : World) : ∀ k, (method (k + 1) 97 (.pointer (some ⟨T, 0, none⟩)) "Push").run Tryd.prog W = .ok (100, .pointer (some ⟨T, 0, none⟩)) W := fun k => by kernel_rfl
theorem m_pop (T : Nat) (W : World) : ∀ k, (method (k + 1) 97 (.pointer (some ⟨T, 0, none⟩)) "Pop").run Tryd.prog W = .ok (99, .pointer (some ⟨T, 0, none⟩)) W := fun k => by kernel_rfl
def hpV (T : Nat) : Value := .iface 97 (.pointer (some ⟨T, 0, none⟩))
theorem RowH.l32 {w : World} {base g c : Nat} {l : List (List UInt8)} (h : RowH w base g c l) : L32 l := by obtain ⟨_, _, _, _, _, _, h5⟩ := h; exact h5
set_option maxRecDepth 20000 in
set_option maxHeartbeats 2000000 in
theorem up_calls {w : World} {base T g c : Nat} {l : List (List UInt8)} (h : HpB w base T g c l) (n j : Nat) (hn : l.length = n) (hn2 : n ≤ 1000000) (hj : j < n) (hup : UpI l n j) :
    Calls Tryd.prog 73 #[hpV T, .int .i64 (j : Int)] w fun e w' => e = .returned (.tuple #[]) ∧ ∃ l', HpB w' base T g c l' ∧ l'.Perm l ∧ HeapI l' n ∧ Chg [g] w w' := by
  have HH := hid h; have HU := hid hup; have HL := hid hn
  clear h hup hn
  unfold hpV
  go_enter Tryd.func73, Tryd.ntmps73
  go_wp2_with fail
  go_loopw [1] (fun v1 wr => ∃ (j : Nat) (l' : List (List UInt8)), v1 = .int .i64 (j : Int) ∧ j < n ∧ Hid (HpB wr base T g c l') ∧ Hid (l'.length = n) ∧ Hid (l'.Perm l) ∧ Hid (UpI l' n j) ∧ Hid (Chg [g] w wr)) (fun v1 _ => (intOf v1).toNat)
  case atStart => exact ⟨j, l, rfl, hj, HH, HL, hid (List.Perm.refl _), HU, hid (Chg.refl _ _)⟩
  case round =>
    clear HH HU HL hj
    obtain ⟨j, l', rfl, hj, HH, HL, HP, HU, HC⟩ := hrel
    have e1 : IntKind.i64.wrap ((j : Int) - 1) = (j : Int) - 1 := IntWalk.i64_in _ (by omega)
    by_cases hj0 : j = 0
    · subst hj0
      go_wp2_with fail
      go_end0
      exact ⟨rfl, l', HH.out, HP.out, HU.out.done (.inl rfl), HC.out⟩
    · have e2 : IntKind.i64.wrap (((j : Int) - 1).tdiv 2) = (((j - 1) / 2 : Nat) : Int) := by
        rw [Int.tdiv_eq_ediv_of_nonneg (by omega), IntWalk.i64_in _ (by omega)]
        omega
      obtain ⟨i, hi⟩ : ∃ i, (j - 1) / 2 = i := ⟨_, rfl⟩
      rw [hi] at e2
      have hij : i < j := by omega
      have q1 : ¬ (i : Int) = (j : Int) := by omega
      have q2 : ¬ i = j := by omega
      have hlj := HL.out
      have HLs := hid (less_calls HH.out.row (get_gI (l := l') (k := j) (by omega)) (get_gI (l := l') (k := i) (by omega)) n HL.out hn2)
      have HI := hid hi
      have c0 : wr.cell? ⟨T, 0, none⟩ = some (.slice (some ⟨g, 0, none⟩) n c) := by have := HH.out.top.cell 0 rfl; rwa [HL.out] at this
      have hM := m_less T wr _ c0
      clear hi hlj
      go_wp2_with fail
      refine HLs.out.mono ?_
      rintro _ w1 ⟨rfl, b1⟩
      have HH1 := hid (HH.out.keep b1)
      have HC1 := hid (HC.out.trans (Chg.of_below (L := []) b1) (fun _ hb => by cases hb))
      have c1 : w1.cell? ⟨T, 0, none⟩ = some (.slice (some ⟨g, 0, none⟩) n c) := by have := HH1.out.top.cell 0 rfl; rwa [HL.out] at this
      have hM := m_swap T w1 _ c1
      clear b1 HLs HH HC
      by_cases hlt : cmpL (gI l' j) (gI l' i) < 0
      · have HSw := hid (swap_calls HH1.out.row (get_gI (l := l') (k := i) (by have := HL.out; omega)) (get_gI (l := l') (k := j) (by have := HL.out; omega)) n HL.out hn2)
        rw [show (decide (cmpL (gI l' j) (gI l' i) < 0)) = true from decide_eq_true hlt]
        have HU2 := hid (show UpI (swI l' i j) n i from by
          have := HU.out.swap HH1.out.row.l32 HL.out.symm hj (by omega) (by rw [HI.out]; exact hlt)
          rwa [HI.out] at this)
        have HP2 := hid ((swI_perm (l := l') (i := i) (j := j) (by have := HL.out; omega) (by have := HL.out; omega)).trans HP.out)
        clear hlt
        go_wp2_with fail
        refine HSw.out.mono ?_
        rintro _ w2 ⟨rfl, hr, hg⟩
        have HH2 := hid (show HpB w2 base T g c (swI l' i j) from ⟨by have := HH1.out.top.grown hg (by simpa using Ne.symm HH1.out.ne); rwa [← swI_length l' i j] at this, hr, HH1.out.ne, HH1.out.tb⟩)
        have HC2 := hid (HC1.out.trans (Chg.of_grown (L := [g]) hg (fun g' e => by cases e; simp)) (fun b hb => .inl hb))
        have HL2 := hid (show (swI l' i j).length = n from by rw [swI_length]; exact HL.out)
        clear hr hg HSw c0 c1 hM
        go_wp2_with fail
        go_roundw
        case rel => exact ⟨i, swI l' i j, rfl, by omega, HH2, HL2, HP2, HU2, HC2⟩
        case measure => simp [intOf]; omega
      · rw [show (decide (cmpL (gI l' j) (gI l' i) < 0)) = false from decide_eq_false hlt]
        have HHp := hid (show HeapI l' n from HU.out.done (.inr (by
          rw [HI.out]
          exact leI_of_not (by rw [HH1.out.row.l32.at_ (by have := HL.out; omega), HH1.out.row.l32.at_ (by have := HL.out; omega)]) hlt)))
        clear hlt
        go_wp2_with fail
        go_end0
        exact ⟨rfl, l', HH1.out, HP.out, HHp.out, HC1.out⟩
end Go.Proofs.YtoogaapjdlhpbaaDoor
/- Contract of container/heap's down. Written by tools/mkheap.py. -/
namespace Go.Proofs.YtoogaapjdlhpbaaDoor
open Go.RowKit Crc

def AnyB (e : Ending) : Prop := ∃ b : Bool, e = .returned (.bool b)
def DownP (w : World) (base T g c : Nat) (l : List (List UInt8)) (N n : Nat) (w' : World) : Prop := ∃ l', HpB w' base T g c l' ∧ l'.Perm l ∧ HeapI l' n ∧ Chg [g] w w' ∧ l'.length = N ∧ ∀ k, n ≤ k → gI l' k = gI l k
set_option maxRecDepth 20000 in
set_option maxHeartbeats 4000000 in
theorem down_calls {w : World} {base T g c : Nat} {l : List (List UInt8)} (h : HpB w base T g c l) (N n : Nat) (hN : l.length = N) (hN2 : N ≤ 1000000) (hn : n ≤ N) (hd : DnI l n 0) :
    Calls Tryd.prog 74 #[hpV T, .int .i64 0, .int .i64 (n : Int)] w fun e w' => AnyB e ∧ DownP w base T g c l N n w' := by
  have HH := hid h; have HD := hid hd; have HL := hid hN
  clear h hd hN
  unfold hpV
  go_enter Tryd.func74, Tryd.ntmps74
  go_wp2_with fail
  go_loopw [7] (fun v7 wr => ∃ (i : Nat) (l' : List (List UInt8)), v7 = .int .i64 (i : Int) ∧ i ≤ n ∧ Hid (HpB wr base T g c l') ∧ Hid (l'.length = N) ∧ Hid (l'.Perm l) ∧ Hid (DnI l' n i) ∧ Hid (∀ k, n ≤ k → gI l' k = gI l k) ∧ Hid (Chg [g] w wr)) (fun v7 _ => n - (intOf v7).toNat)
  case atStart => exact ⟨0, l, rfl, Nat.zero_le _, HH, HL, hid (List.Perm.refl _), HD, hid (fun _ _ => rfl), hid (Chg.refl _ _)⟩
  case round =>
    clear HH HD HL
    obtain ⟨i, l', rfl, hi, HH, HL, HP, HD, HK, HC⟩ := hrel
    have e1 : IntKind.i64.wrap (2 * (i : Int)) = 2 * (i : Int) := IntWalk.i64_in _ (by omega)
    obtain ⟨j1, hj1⟩ : ∃ j1, 2 * i + 1 = j1 := ⟨_, rfl⟩
    have e2 : IntKind.i64.wrap (2 * (i : Int) + 1) = (j1 : Int) := by rw [IntWalk.i64_in _ (by omega)]; omega
    have p0 : ¬ (j1 : Int) < 0 := by omega
    by_cases hA : n ≤ j1
    · have hA' : (n : Int) ≤ (j1 : Int) := by omega
      have HHp := hid (HD.out.leaf (by omega))
      go_wp2_with fail
      go_ret
      exact ⟨⟨_, rfl⟩, l', HH.out, HP.out, HHp.out, HC.out, HL.out, HK.out⟩
    · have hA' : ¬ (n : Int) ≤ (j1 : Int) := by omega
      obtain ⟨j2, hj2⟩ : ∃ j2, j1 + 1 = j2 := ⟨_, rfl⟩
      have e3 : IntKind.i64.wrap ((j1 : Int) + 1) = (j2 : Int) := by rw [IntWalk.i64_in _ (by omega)]; omega
      by_cases hB : j2 < n
      · have hB' : (j2 : Int) < (n : Int) := by omega
        have HL2 := hid (less_calls HH.out.row (get_gI (l := l') (k := j2) (by have := HL.out; omega)) (get_gI (l := l') (k := j1) (by have := HL.out; omega)) N HL.out hN2)
        have c0 : wr.cell? ⟨T, 0, none⟩ = some (.slice (some ⟨g, 0, none⟩) N c) := by have := HH.out.top.cell 0 rfl; rwa [HL.out] at this
        have hM := m_less T wr _ c0
        go_wp2_with fail
        refine HL2.out.mono ?_
        rintro _ w2 ⟨rfl, b2⟩
        have HH2 := hid (HH.out.keep b2)
        have HC2 := hid (HC.out.trans (Chg.of_below (L := []) b2) (fun _ hb => by cases hb))
        clear hM b2 HL2 c0 HH HC
        by_cases hl2 : cmpL (gI l' j2) (gI l' j1) < 0
        · rw [show (decide (cmpL (gI l' j2) (gI l' j1) < 0)) = true from decide_eq_true hl2]
          have HMin := hid (show ∀ k, 0 < k → k < n → (k - 1) / 2 = i → leI (gI l' j2) (gI l' k) from fun k h1 h2 h3 => by
                    by_cases e : k = j1
                    · rw [e]; exact leI_of_lt hl2
                    · rw [show k = j2 by omega]; exact leI_refl _)
          have HJ := hid (show j2 < l'.length by have := HL.out; omega)
          have HIl := hid (show i < l'.length by have := HL.out; omega)
          have HL3 := hid (less_calls HH2.out.row (get_gI (l := l') (k := j2) HJ.out) (get_gI (l := l') (k := i) HIl.out) N HL.out hN2)
          have cc : w2.cell? ⟨T, 0, none⟩ = some (.slice (some ⟨g, 0, none⟩) N c) := by have := HH2.out.top.cell 0 rfl; rwa [HL.out] at this
          have hM := m_less T w2 _ cc
          go_wp2_with fail
          refine HL3.out.mono ?_
          rintro _ w3 ⟨rfl, b3⟩
          have HH3 := hid (HH2.out.keep b3)
          have HC3 := hid (HC2.out.trans (Chg.of_below (L := []) b3) (fun _ hb => by cases hb))
          have cd : w3.cell? ⟨T, 0, none⟩ = some (.slice (some ⟨g, 0, none⟩) N c) := by have := HH3.out.top.cell 0 rfl; rwa [HL.out] at this
          clear hM b3 HL3 cc
          have hM := m_swap T w3 _ cd
          by_cases hlt : cmpL (gI l' j2) (gI l' i) < 0
          · have HSw := hid (swap_calls HH3.out.row (get_gI (l := l') (k := i) HIl.out) (get_gI (l := l') (k := j2) HJ.out) N HL.out hN2)
            rw [show (decide (cmpL (gI l' j2) (gI l' i) < 0)) = true from decide_eq_true hlt]
            have HD2 := hid (HD.out.swap (by have := HL.out; omega) (by omega) (by omega) HMin.out (leI_of_lt hlt))
            have HP2 := hid ((swI_perm HIl.out HJ.out).trans HP.out)
            have HK2 := hid (show ∀ k, n ≤ k → gI (swI l' i j2) k = gI l k from fun k hk => by rw [swI_get HIl.out HJ.out, if_neg (by omega), if_neg (by omega)]; exact HK.out k hk)
            clear hlt
            go_wp2_with fail
            refine HSw.out.mono ?_
            rintro _ w4 ⟨rfl, hr, hg⟩
            have HH4 := hid (show HpB w4 base T g c (swI l' i j2) from ⟨by have := HH3.out.top.grown hg (by simpa using Ne.symm HH3.out.ne); rwa [← swI_length l' i j2] at this, hr, HH3.out.ne, HH3.out.tb⟩)
            have HC4 := hid (HC3.out.trans (Chg.of_grown (L := [g]) hg (fun g' e => by cases e; simp)) (fun b hb => .inl hb))
            have HL4 := hid (show (swI l' i j2).length = N from by rw [swI_length]; exact HL.out)
            clear hr hg HSw cd hM
            go_wp2_with fail
            go_roundw
            case rel => exact ⟨j2, swI l' i j2, rfl, by omega, HH4, HL4, HP2, HD2, HK2, HC4⟩
            case measure => simp [intOf]; omega
          · rw [show (decide (cmpL (gI l' j2) (gI l' i) < 0)) = false from decide_eq_false hlt]
            have HHp := hid (HD.out.done HH3.out.row.l32 (by have := HL.out; omega) (show j2 < n by omega) HMin.out (leI_of_not (by rw [HH3.out.row.l32.at_ HJ.out, HH3.out.row.l32.at_ HIl.out]) hlt))
            clear hlt
            go_wp2_with fail
            go_ret
            exact ⟨⟨_, rfl⟩, l', HH3.out, HP.out, HHp.out, HC3.out, HL.out, HK.out⟩
        · rw [show (decide (cmpL (gI l' j2) (gI l' j1) < 0)) = false from decide_eq_false hl2]
          have HMin := hid (show ∀ k, 0 < k → k < n → (k - 1) / 2 = i → leI (gI l' j1) (gI l' k) from fun k h1 h2 h3 => by
                    by_cases e : k = j1
                    · rw [e]; exact leI_refl _
                    · rw [show k = j2 by omega]; exact leI_of_not (by rw [HH2.out.row.l32.at_ (by have := HL.out; omega), HH2.out.row.l32.at_ (by have := HL.out; omega)]) hl2)
          have HJ := hid (show j1 < l'.length by have := HL.out; omega)
          have HIl := hid (show i < l'.length by have := HL.out; omega)
          have HL3 := hid (less_calls HH2.out.row (get_gI (l := l') (k := j1) HJ.out) (get_gI (l := l') (k := i) HIl.out) N HL.out hN2)
          have cc : w2.cell? ⟨T, 0, none⟩ = some (.slice (some ⟨g, 0, none⟩) N c) := by have := HH2.out.top.cell 0 rfl; rwa [HL.out] at this
          have hM := m_less T w2 _ cc
          go_wp2_with fail
          refine HL3.out.mono ?_
          rintro _ w3 ⟨rfl, b3⟩
          have HH3 := hid (HH2.out.keep b3)
          have HC3 := hid (HC2.out.trans (Chg.of_below (L := []) b3) (fun _ hb => by cases hb))
          have cd : w3.cell? ⟨T, 0, none⟩ = some (.slice (some ⟨g, 0, none⟩) N c) := by have := HH3.out.top.cell 0 rfl; rwa [HL.out] at this
          clear hM b3 HL3 cc
          have hM := m_swap T w3 _ cd
          by_cases hlt : cmpL (gI l' j1) (gI l' i) < 0
          · have HSw := hid (swap_calls HH3.out.row (get_gI (l := l') (k := i) HIl.out) (get_gI (l := l') (k := j1) HJ.out) N HL.out hN2)
            rw [show (decide (cmpL (gI l' j1) (gI l' i) < 0)) = true from decide_eq_true hlt]
            have HD2 := hid (HD.out.swap (by have := HL.out; omega) (by omega) (by omega) HMin.out (leI_of_lt hlt))
            have HP2 := hid ((swI_perm HIl.out HJ.out).trans HP.out)
            have HK2 := hid (show ∀ k, n ≤ k → gI (swI l' i j1) k = gI l k from fun k hk => by rw [swI_get HIl.out HJ.out, if_neg (by omega), if_neg (by omega)]; exact HK.out k hk)
            clear hlt
            go_wp2_with fail
            refine HSw.out.mono ?_
            rintro _ w4 ⟨rfl, hr, hg⟩
            have HH4 := hid (show HpB w4 base T g c (swI l' i j1) from ⟨by have := HH3.out.top.grown hg (by simpa using Ne.symm HH3.out.ne); rwa [← swI_length l' i j1] at this, hr, HH3.out.ne, HH3.out.tb⟩)
            have HC4 := hid (HC3.out.trans (Chg.of_grown (L := [g]) hg (fun g' e => by cases e; simp)) (fun b hb => .inl hb))
            have HL4 := hid (show (swI l' i j1).length = N from by rw [swI_length]; exact HL.out)
            clear hr hg HSw cd hM
            go_wp2_with fail
            go_roundw
            case rel => exact ⟨j1, swI l' i j1, rfl, by omega, HH4, HL4, HP2, HD2, HK2, HC4⟩
            case measure => simp [intOf]; omega
          · rw [show (decide (cmpL (gI l' j1) (gI l' i) < 0)) = false from decide_eq_false hlt]
            have HHp := hid (HD.out.done HH3.out.row.l32 (by have := HL.out; omega) (show j1 < n by omega) HMin.out (leI_of_not (by rw [HH3.out.row.l32.at_ HJ.out, HH3.out.row.l32.at_ HIl.out]) hlt))
            clear hlt
            go_wp2_with fail
            go_ret
            exact ⟨⟨_, rfl⟩, l', HH3.out, HP.out, HHp.out, HC3.out, HL.out, HK.out⟩
      · have hB' : ¬ (j2 : Int) < (n : Int) := by omega
        have HMin := hid (show ∀ k, 0 < k → k < n → (k - 1) / 2 = i → leI (gI l' j1) (gI l' k) from fun k h1 h2 h3 => by rw [show k = j1 by omega]; exact leI_refl _)
        have HJ := hid (show j1 < l'.length by have := HL.out; omega)
        have HIl := hid (show i < l'.length by have := HL.out; omega)
        have HL3 := hid (less_calls HH.out.row (get_gI (l := l') (k := j1) HJ.out) (get_gI (l := l') (k := i) HIl.out) N HL.out hN2)
        have cc : wr.cell? ⟨T, 0, none⟩ = some (.slice (some ⟨g, 0, none⟩) N c) := by have := HH.out.top.cell 0 rfl; rwa [HL.out] at this
        have hM := m_less T wr _ cc
        go_wp2_with fail
        refine HL3.out.mono ?_
        rintro _ w3 ⟨rfl, b3⟩
        have HH3 := hid (HH.out.keep b3)
        have HC3 := hid (HC.out.trans (Chg.of_below (L := []) b3) (fun _ hb => by cases hb))
        have cd : w3.cell? ⟨T, 0, none⟩ = some (.slice (some ⟨g, 0, none⟩) N c) := by have := HH3.out.top.cell 0 rfl; rwa [HL.out] at this
        clear hM b3 HL3 cc
        have hM := m_swap T w3 _ cd
        by_cases hlt : cmpL (gI l' j1) (gI l' i) < 0
        · have HSw := hid (swap_calls HH3.out.row (get_gI (l := l') (k := i) HIl.out) (get_gI (l := l') (k := j1) HJ.out) N HL.out hN2)
          rw [show (decide (cmpL (gI l' j1) (gI l' i) < 0)) = true from decide_eq_true hlt]
          have HD2 := hid (HD.out.swap (by have := HL.out; omega) (by omega) (by omega) HMin.out (leI_of_lt hlt))
          have HP2 := hid ((swI_perm HIl.out HJ.out).trans HP.out)
          have HK2 := hid (show ∀ k, n ≤ k → gI (swI l' i j1) k = gI l k from fun k hk => by rw [swI_get HIl.out HJ.out, if_neg (by omega), if_neg (by omega)]; exact HK.out k hk)
          clear hlt
          go_wp2_with fail
          refine HSw.out.mono ?_
          rintro _ w4 ⟨rfl, hr, hg⟩
          have HH4 := hid (show HpB w4 base T g c (swI l' i j1) from ⟨by have := HH3.out.top.grown hg (by simpa using Ne.symm HH3.out.ne); rwa [← swI_length l' i j1] at this, hr, HH3.out.ne, HH3.out.tb⟩)
          have HC4 := hid (HC3.out.trans (Chg.of_grown (L := [g]) hg (fun g' e => by cases e; simp)) (fun b hb => .inl hb))
          have HL4 := hid (show (swI l' i j1).length = N from by rw [swI_length]; exact HL.out)
          clear hr hg HSw cd hM
          go_wp2_with fail
          go_roundw
          case rel => exact ⟨j1, swI l' i j1, rfl, by omega, HH4, HL4, HP2, HD2, HK2, HC4⟩
          case measure => simp [intOf]; omega
        · rw [show (decide (cmpL (gI l' j1) (gI l' i) < 0)) = false from decide_eq_false hlt]
          have HHp := hid (HD.out.done HH3.out.row.l32 (by have := HL.out; omega) (show j1 < n by omega) HMin.out (leI_of_not (by rw [HH3.out.row.l32.at_ HJ.out, HH3.out.row.l32.at_ HIl.out]) hlt))
          clear hlt
          go_wp2_with fail
          go_ret
          exact ⟨⟨_, rfl⟩, l', HH3.out, HP.out, HHp.out, HC3.out, HL.out, HK.out⟩
end Go.Proofs.YtoogaapjdlhpbaaDoor
/- Contracts of container/heap over a row of digests: Push and Pop. -/
namespace Go.Proofs.YtoogaapjdlhpbaaDoor
open Go.RowKit Crc

theorem gI_append_lt {l : List (List UInt8)} {x : List UInt8} {k : Nat} (h : k < l.length) : gI (l ++ [x]) k = gI l k := by unfold gI; rw [List.getD_eq_getElem?_getD, List.getD_eq_getElem?_getD, List.getElem?_append_left h]
theorem gI_append_eq {l : List (List UInt8)} {x : List UInt8} {n : Nat} (h : l.length = n) : gI (l ++ [x]) n = x := by unfold gI; subst h; simp [List.getD]
theorem gI_take {l : List (List UInt8)} {n k : Nat} (h : k < n) : gI (l.take n) k = gI l k := by unfold gI; simp [List.getD, h]
theorem UpI.push {l : List (List UInt8)} {n : Nat} {x : List UInt8} (h : HeapI l n) (hn : l.length = n) : UpI (l ++ [x]) (n + 1) n := by
  refine ⟨fun k h1 h2 h3 => ?_, fun k h1 h2 h3 h4 => by omega⟩
  rw [gI_append_lt (by omega), gI_append_lt (by omega)]
  exact h k h1 (by omega)
theorem DnI.pop {l : List (List UInt8)} {n : Nat} (h : HeapI l (n + 1)) (hn : l.length = n + 1) : DnI (swI l 0 n) n 0 := by
  refine ⟨fun k h1 h2 h3 => ?_, fun k h1 h2 h3 h4 => by omega⟩
  rw [swI_get (by omega) (by omega), swI_get (by omega) (by omega), if_neg (by omega), if_neg h3, if_neg (by omega), if_neg (by omega)]
  exact h k h1 (by omega)
theorem HeapI.take {l : List (List UInt8)} {n : Nat} (h : HeapI l n) : HeapI (l.take n) n := fun k h1 h2 => by
  rw [gI_take (by omega), gI_take h2]
  exact h k h1 h2
set_option maxRecDepth 20000 in
set_option maxHeartbeats 2000000 in
theorem hPush_calls {w : World} {base T g c : Nat} {l : List (List UInt8)} (h : HpB w base T g c l) (hbs : base ≤ w.heap.size) (x : List UInt8) (hx : x.length = 32) (n : Nat) (hn : l.length = n) (hn2 : n + 1 ≤ 1000000) (hp : HeapI l n) :
    Calls Tryd.prog 65 #[hpV T, .iface 32 (.agg (bcells x))] w fun e w' => e = .returned (.tuple #[]) ∧ ∃ g' c' l', HpB w' base T g' c' l' ∧ l'.Perm (l ++ [x]) ∧ HeapI l' (n + 1) ∧ Chg [T, g] w w' ∧ (g' = g ∨ w.heap.size ≤ g') := by
  have HP := hid (hpush_calls h hbs x hx n hn (by omega))
  have HU := hid (UpI.push (x := x) hp hn)
  have HL := hid (show (l ++ [x]).length = n + 1 from by simp [hn])
  have hM := m_push T w
  clear h hp hn
  unfold hpV
  go_enter Tryd.func65, Tryd.ntmps65
  go_wp2_with fail
  refine HP.out.mono ?_
  rintro _ w1 ⟨rfl, g1, c1, h1, hc1, hg1⟩
  have HH := hid h1; have HC := hid hc1; have HG := hid hg1
  obtain ⟨N, hN⟩ : ∃ N, n + 1 = N := ⟨_, rfl⟩
  have cc : w1.cell? ⟨T, 0, none⟩ = some (.slice (some ⟨g1, 0, none⟩) N c1) := by have := h1.top.cell 0 rfl; rwa [HL.out, hN] at this
  have hM2 := m_len T w1 _ cc
  have e1 : IntKind.i64.wrap ((N : Int) - 1) = (n : Int) := by rw [IntWalk.i64_in _ (by omega)]; omega
  have HUp := hid (up_calls h1 N n (by rw [HL.out, hN]) (by omega) (by omega) (by rw [← hN]; exact HU.out))
  unfold hpV at HUp
  have HNn := hid hN
  clear h1 hc1 hg1 hM HP HU hN hn2
  go_wp2_with fail
  refine (dlen_calls _ N c1 w1).mono ?_
  rintro _ _ ⟨rfl, rfl⟩
  clear hM2 cc
  go_wp2_with fail
  refine HUp.out.mono ?_
  rintro _ w2 ⟨rfl, l', k1, k2, k3, k4⟩
  have HEnd := hid (show HpB w2 base T g1 c1 l' ∧ l'.Perm (l ++ [x]) ∧ HeapI l' N ∧ Chg [T, g] w w2 ∧ (g1 = g ∨ w.heap.size ≤ g1) from ⟨k1, k2, k3, HC.out.trans k4 (fun b hb => by
    rw [List.mem_singleton.1 hb]
    rcases HG.out with h | h
    · exact .inl (by simp [h])
    · exact .inr h), HG.out⟩)
  clear k1 k2 k3 k4 HUp
  go_wp2_with fail
  go_end0
  obtain ⟨z1, z2, z3, z4, z5⟩ := HEnd.out
  exact ⟨rfl, g1, c1, l', z1, z2, by rw [HNn.out]; exact z3, z4, z5⟩
def PopP (w : World) (base T g c : Nat) (l : List (List UInt8)) (n : Nat) (w' : World) : Prop := ∃ l', HpB w' base T g c l' ∧ (gI l 0 :: l').Perm l ∧ HeapI l' n ∧ l'.length = n ∧ Chg [T, g] w w'
set_option maxRecDepth 20000 in
set_option maxHeartbeats 2000000 in
theorem hPop_calls {w : World} {base T g c : Nat} {l : List (List UInt8)} (h : HpB w base T g c l) (n : Nat) (hn : l.length = n + 1) (hn2 : n + 1 ≤ 1000000) (hp : HeapI l (n + 1)) :
    Calls Tryd.prog 67 #[hpV T] w fun e w' => e = .returned (.iface 32 (.agg (bcells (gI l 0)))) ∧ PopP w base T g c l n w' := by
  obtain ⟨N, hN⟩ : ∃ N, n + 1 = N := ⟨_, rfl⟩
  have HH := hid h; have HL := hid (hn.trans hN)
  have cc : w.cell? ⟨T, 0, none⟩ = some (.slice (some ⟨g, 0, none⟩) N c) := by have := h.top.cell 0 rfl; rwa [hn, hN] at this
  have hM := m_len T w _ cc
  have hM2 := m_swap T w _ cc
  have e1 : IntKind.i64.wrap ((N : Int) - 1) = (n : Int) := by rw [IntWalk.i64_in _ (by omega)]; omega
  have HSw := hid (swap_calls h.row (get_gI (l := l) (k := 0) (by omega)) (get_gI (l := l) (k := n) (by omega)) N (hn.trans hN) (by omega))
  have HD := hid (DnI.pop hp hn)
  have HNn := hid hN
  have hN2 : N ≤ 1000000 := by omega
  clear h hn hp hN hn2
  unfold hpV
  go_enter Tryd.func67, Tryd.ntmps67
  go_wp2_with fail
  refine (dlen_calls _ N c w).mono ?_
  rintro _ _ ⟨rfl, rfl⟩
  clear hM
  go_wp2_with fail
  refine HSw.out.mono ?_
  rintro _ w1 ⟨rfl, hr, hg⟩
  have HH1 := hid (show HpB w1 base T g c (swI l 0 n) from ⟨by have := HH.out.top.grown hg (by simpa using Ne.symm HH.out.ne); rwa [← swI_length l 0 n] at this, hr, HH.out.ne, HH.out.tb⟩)
  have HC1 := hid (Chg.of_grown (L := [T, g]) hg (fun g' e => by cases e; simp))
  have HL1 := hid (show (swI l 0 n).length = N from by rw [swI_length]; exact HL.out)
  have HDo := hid (down_calls HH1.out N n HL1.out hN2 (by have := HNn.out; omega) HD.out)
  unfold hpV at HDo
  clear hr hg HSw hM2 cc
  go_wp2_with fail
  refine HDo.out.mono ?_
  rintro _ w2 ⟨⟨bb, rfl⟩, l2, k1, k2, k3, k4, k5, k6⟩
  have hlast : gI l2 n = gI l 0 := by
    have h1 := HNn.out
    have h2 := HL.out
    rw [k6 n (Nat.le_refl _), swI_get (by omega) (by omega), if_pos rfl]
  have hsplit : l2 = l2.take n ++ [gI l 0] := by
    have h1 := HNn.out
    have e2 : l2.take (n + 1) = l2.take n ++ [gI l2 n] := by rw [List.take_add_one, get_gI (by omega)]; rfl
    rw [List.take_of_length_le (by omega), hlast] at e2
    exact e2
  have HPo := hid (hpop_calls (x := gI l 0) (ids := l2.take n) (by rw [← hsplit]; exact k1) n (by have := HNn.out; simp; omega) (by have := HNn.out; omega))
  have HEnd := hid (show ∀ w3, HpB w3 base T g c (l2.take n) → Chg [T] w2 w3 → PopP w base T g c l n w3 from fun w3 q1 q2 => ⟨l2.take n, q1, by
      have e3 : (gI l 0 :: l2.take n).Perm (l2.take n ++ [gI l 0]) := List.perm_append_comm (l₁ := [gI l 0])
      rw [← hsplit] at e3
      exact (e3.trans k2).trans (swI_perm (by have := HL.out; have := HNn.out; omega) (by have := HL.out; have := HNn.out; omega)), k3.take, by have := HNn.out; simp; omega,
    (HC1.out.trans k4 (fun b hb => .inl (by rw [List.mem_singleton.1 hb]; simp))).trans q2 (fun b hb => .inl (by rw [List.mem_singleton.1 hb]; simp))⟩)
  have hM3 := m_pop T w2
  clear k1 k2 k3 k4 k5 k6 hlast hsplit HDo HH1 HC1
  go_wp2_with fail
  refine HPo.out.mono ?_
  rintro _ w3 ⟨rfl, q1, q2⟩
  have HE := hid (HEnd.out w3 q1 q2)
  clear q1 q2 HPo HEnd hM3
  go_wp2_with fail
  go_ret
  exact ⟨rfl, HE.out⟩
end Go.Proofs.YtoogaapjdlhpbaaDoor
/- Contract of package blob: the digests of a map, in their order. -/
namespace Go.Proofs.YtoogaapjdlhpbaaDoor
open Go.RowKit Go.WideElems Crc

theorem ranges_chg {w w' : World} {L : List Nat} {b r n cnt : Nat} {D : DataW Unit} {left : Lit → Bool} (h : w.ranges Tryd.prog 32 ptrElem b r n D left cnt) (hc : Chg L w w') (hb : b ∉ L) (hr : r ∉ L) : w'.ranges Tryd.prog 32 ptrElem b r n D left cnt := by
  have hrl := h.lt
  have hbl := h.owns.lt
  obtain ⟨es, clock, since, seen, c0, h1, h2, h3, h4, h5, h6⟩ := h
  exact ⟨es, clock, since, seen, c0, (hc.block b hbl hb).trans h1, h2, h3, h4, (hc.block r hrl hr).trans h5, h6⟩
theorem map_has {D : DataW Unit} {f : List UInt8 → Option Nat} (hD : ∀ id : List UInt8, id.length = 32 → D.atKey (klit id) .nil = ptrD (f id)) {id : List UInt8} (hl : id.length = 32) (h : (f id).isSome = true) : Maps.has D (klit id) = true := by
  cases e : Maps.has D (klit id) with
  | true => rfl
  | false =>
    have := Maps.atKey_of_not_has e (.nil : DataW Unit)
    rw [hD id hl] at this
    cases hf : f id with
    | none => rw [hf] at h; cases h
    | some b => rw [hf] at this; cases this
/-- the digests that have come -/
def KeysL (f : List UInt8 → Option Nat) (left : Lit → Bool) (l : List (List UInt8)) : Prop := (∀ id : List UInt8, id.length = 32 → (id ∈ l ↔ (f id).isSome = true ∧ left (klit id) = false)) ∧ l.Nodup
theorem KeysL.start {D : DataW Unit} {f : List UInt8 → Option Nat} (hD : ∀ id : List UInt8, id.length = 32 → D.atKey (klit id) .nil = ptrD (f id)) : KeysL f (Maps.has D) [] :=
  ⟨fun id hl => ⟨fun h => (by cases h), fun h => (by have h2 := h.2; rw [map_has hD hl h.1] at h2; cases h2)⟩, List.nodup_nil⟩
theorem KeysL.step {f : List UInt8 → Option Nat} {left : Lit → Bool} {l l' : List (List UInt8)} {x : List UInt8} (h : KeysL f left l) (hx : x.length = 32) (hf : (f x).isSome = true) (hlx : left (klit x) = true) (hp : l'.Perm (l ++ [x])) : KeysL f (fun z => left z && !z.sameKey (klit x)) l' := by
  refine ⟨fun id hl => ?_, ?_⟩
  · rw [hp.mem_iff, List.mem_append, h.1 id hl, List.mem_singleton]
    by_cases e : id = x
    · subst e
      have := WideAt.sameKey_self (klit_key hl)
      simp [this, hf]
    · have hne : klit id ≠ klit x := fun e2 => e (klit_inj hl hx e2)
      have := Maps.sameKey_ne hne
      simp [this, e]
  · refine hp.nodup_iff.2 ?_
    rw [List.nodup_append]
    refine ⟨h.2, by simp, fun a ha b hb => ?_⟩
    have hbx : b = x := by simpa using hb
    rw [hbx]
    intro e
    subst e
    have := ((h.1 a hx).1 ha).2
    rw [hlx] at this
    cases this
theorem wpList_does {P : Program} {w : World} {ops : Array Oper} {rest : List Oper} {o : Oper} {a : Act} {Q : Exit → Act → World → Prop} {T : Value → World → Prop} (hg : o.guard = none) (h : OpDoes P o a w T) (hK : ∀ v w', T v w' → wpList P ops Q rest (a.put o.dst v) w') : wpList P ops Q (o :: rest) a w :=
  wpList_plain hg fun K hK' => h K Q (fun v w' t => hK' _ _ (hK v w' t))
theorem app_row {w : World} {base g c q : Nat} {ids : List (List UInt8)} {x : List UInt8} (h : RowH w base g c ids) (hb : base ≤ w.heap.size) (hq : Blk w q 32 (bcells x)) (hx : x.length = 32) (n : Nat) (hn : ids.length = n) (hn2 : n ≤ 1000000) (t ty : TypeId) (ht : Tryd.prog.underlying t = some (.slice 32)) :
    ∃ g2 c2 w', (Builtin.append_ #[t, t] ty #[.slice (some ⟨g, 0, none⟩) n c, .slice (some ⟨q, 0, none⟩) 1 1]).run Tryd.prog w = .ok (.slice (some ⟨g2, 0, none⟩) (n + 1) c2) w' ∧ RowH w' base g2 c2 (ids ++ [x]) ∧ w.grownBy w' (some g) ∧ (g2 = g ∨ g2 = w.heap.size) := by
  obtain ⟨i, hi, hz, hsz, hby⟩ := info_parts infoIDp
  have hown := h.own
  rw [hn] at hown
  obtain ⟨v', w', hr, h2, h3, -, h5⟩ := run_append_own_at (P := Tryd.prog) w base t ty 32 i _ 32 32 ht hi hz hsz hby (by simp [Value.cells, bcells_size, zeroB_length]) (by omega) _ n (flatI ids) hown ⟨q, 0, none⟩ 1 1 (x.map bv) (by simp [hx]) (fun j u hu => by
    rw [Addr.add_lit, Nat.zero_add]
    exact hq.cell j (by simpa [bcells] using hu)) (oneCell_bytes x) (by simp [maxLen]; omega) (by omega) hb
  have e2 : flatI ids ++ x.map bv = flatI (ids ++ [x]) := by rw [flatI_append]; simp [flatI]
  rw [e2] at h2
  have h32 : ∀ y ∈ ids ++ [x], y.length = 32 := fun y hy => by
    rcases List.mem_append.1 hy with hy | hy
    · exact h.l32 y hy
    · rw [List.mem_singleton.1 hy]; exact hx
  have hv : ∃ g2 c2, v' = .slice (some ⟨g2, 0, none⟩) (n + 1) c2 := by
    rcases h2.2 with ⟨_, h0⟩ | ⟨g2, c2, _, e, _⟩
    · omega
    · exact ⟨g2, c2, e⟩
  obtain ⟨g2, c2, rfl⟩ := hv
  refine ⟨g2, c2, w', hr, RowH.of_own h2 h32, h3, ?_⟩
  rcases h5 with h5 | h5
  · exact .inl (by simpa [Value.ownBlock] using h5)
  · exact .inr (by simpa [Value.ownBlock] using h5)
theorem slice_id2 (x : List UInt8) (h : x.length = 32) (W : World) : (Instr.buildSlice 44 1 #[(0, .agg (bcells x))]).run Tryd.prog W = .ok (.slice (some ⟨W.heap.size, 0, none⟩) 1 1) (W.alloc (.cells (bcells x) 32)) := by
  obtain ⟨i, hi, hz, hs, hb⟩ := info_parts infoIDp
  have hl : (bcells x).size = 32 := by rw [bcells_size, h]
  refine run_buildSlice (P := Tryd.prog) W _ _ 1 _ _ i _ (by kernel_rfl) hi hz (by rw [hs]; omega) (by rw [hs]; omega) ?_
  rw [hs]
  have hz32 : (bcells (zeroB 32)).size = 32 := by rw [bcells_size]; rfl
  have := Great.fill_whole (s := 32) (by omega) [.agg (bcells x)] ((Array.range (1 * 32)).map ((Value.agg (bcells (zeroB 32))).cells[· % (Value.agg (bcells (zeroB 32))).cells.size]!)) (by simp [Value.cells, hl]) (by simp)
  simpa [Value.cells] using this
theorem strict_of {l out : List (List UInt8)} (h32 : L32 out) (hp : out.Perm l) (hn : l.Nodup) (hs : out.Pairwise leI) : out.Pairwise (fun a b => cmpL a b < 0) := by
  have hn2 : out.Nodup := hp.nodup_iff.2 hn
  refine (hs.and hn2).imp_of_mem (fun {a b} ha hb h => ?_)
  have h1 : cmpL a b ≤ 0 := h.1
  have h2 : cmpL a b ≠ 0 := fun e => h.2 (cmpL_zero (by rw [h32 a ha, h32 b hb]) e)
  omega
theorem wpList_slice1 {P : Program} {w w' : World} {ops : Array Oper} {rest : List Oper} {o : Oper} {a : Act} {Q : Exit → Act → World → Prop} (hg : o.guard = none) (t : TypeId) (len i : Nat) (x : Operand) (ho : o.op = .buildSlice t len #[(i, x)]) {u v : Value} (hx : a.eval x = u) (hr : (Instr.buildSlice t len #[(i, u)]).run P w = .ok v w')
    (h : wpList P ops Q rest (a.put o.dst v) w') : wpList P ops Q (o :: rest) a w :=
  wpList_does (T := fun v2 w2 => v2 = v ∧ w2 = w') hg (does_slice1 t len i x ho hx hr ⟨rfl, rfl⟩) (by rintro _ _ ⟨rfl, rfl⟩; exact h)
theorem wpList_append1 {P : Program} {w w' : World} {ops : Array Oper} {rest : List Oper} {o : Oper} {a : Act} {Q : Exit → Act → World → Prop} (hg : o.guard = none) (s x : Operand) (t : TypeId) (ho : o.op = .call { callee := .builtin .append, args := #[s, x], argTypes := #[t, t] }) {v u v' : Value} (hv : a.eval s = v) (hx : a.eval x = u)
    (hr : (Builtin.append_ #[t, t] o.type #[v, u]).run P w = .ok v' w') (h : wpList P ops Q rest (a.put o.dst v') w') : wpList P ops Q (o :: rest) a w :=
  wpList_does (T := fun v2 w2 => v2 = v' ∧ w2 = w') hg (does_append s x t ho hv hx hr ⟨rfl, rfl⟩) (by rintro _ _ ⟨rfl, rfl⟩; exact h)
theorem RowH.chg {w w' : World} {base g c : Nat} {ids : List (List UInt8)} {L : List Nat} (h : RowH w base g c ids) (hc : Chg L w w') (hg : g ∉ L) : RowH w' base g c ids := by obtain ⟨rest, hb, h⟩ := h; exact ⟨rest, hb.chg hc hg, h⟩
theorem sorted_snoc {out l2 l3 l : List (List UInt8)} {y : List UInt8} {n2 : Nat} (h : out.Pairwise leI ∧ ∀ a ∈ out, ∀ b ∈ l2, leI a b) (hp : (y :: l3).Perm l2) (hn : l2.length = n2) (hmin : ∀ k, k < n2 → leI y (gI l2 k)) (hpe : (out ++ l2).Perm l) :
    ((out ++ [y]).Pairwise leI ∧ ∀ a ∈ out ++ [y], ∀ b ∈ l3, leI a b) ∧ ((out ++ [y]) ++ l3).Perm l := by
  have hy : y ∈ l2 := hp.mem_iff.1 (by simp)
  have hl3 : ∀ b ∈ l3, b ∈ l2 := fun b hb => hp.mem_iff.1 (by simp [hb])
  refine ⟨⟨List.pairwise_append.2 ⟨h.1, List.pairwise_singleton _ _, fun a ha b hb => ?_⟩, fun a ha b hb => ?_⟩, ?_⟩
  · rw [List.mem_singleton.1 hb]; exact h.2 a ha y hy
  · rcases List.mem_append.1 ha with ha | ha
    · exact h.2 a ha b (hl3 b hb)
    · rw [List.mem_singleton.1 ha]
      obtain ⟨i, hi, rfl⟩ := List.mem_iff_getElem.1 (hl3 b hb)
      have := hmin i (by omega)
      rwa [gI_get (List.getElem?_eq_getElem hi)] at this
  · rw [List.append_assoc]
    exact (List.Perm.append_left out hp).trans hpe
def InOrdP (w : World) (k : Nat) (f : List UInt8 → Option Nat) (e : Ending) (w' : World) : Prop := ∃ g cap ids, e = .returned (.slice (some ⟨g, 0, none⟩) ids.length cap) ∧ RowH w' w.heap.size g cap ids ∧ ids.Pairwise (fun a b => cmpL a b < 0) ∧ (∀ id : List UInt8, id.length = 32 → (id ∈ ids ↔ (f id).isSome = true)) ∧ ids.length ≤ k ∧ Below w.heap.size w w'
set_option maxRecDepth 20000 in
set_option maxHeartbeats 4000000 in
theorem inOrder_calls (m k : Nat) (f : List UInt8 → Option Nat) (w : World) (h : MapP w m k f) (hk : k ≤ 100000) :
    Calls Tryd.prog 46 #[.map (some m)] w (InOrdP w k f) := by
  have hz := (zero_of_info info26).1
  obtain ⟨D, ho, hD⟩ := h
  have HO := hid ho; have HDD := hid hD
  have HS := hid (Nat.le_trans ho.size_le (Nat.le_refl k))
  have hml := ho.lt
  clear hD ho
  go_enter Tryd.func46, Tryd.ntmps46
  go_wp2_with (at_range; refine Held.go ?_)
  have hb1 := below_new w (.cells #[] 32)
  have hr1 := Blk.new w 32 #[]
  have ho1 := HO.out.kept (grown_of_below hb1 none) (by simp)
  have z1 := size_new w (.cells #[] 32)
  generalize w.alloc (.cells #[] 32) = w1 at hb1 hr1 ho1 z1 ⊢
  have hb2 := below_new w1 (.cells #[Value.slice (some ⟨w.heap.size, 0, none⟩) 0 0] 98)
  have hk2 := Blk.new w1 98 #[Value.slice (some ⟨w.heap.size, 0, none⟩) 0 0]
  rw [z1] at hk2
  have ho2 := ho1.kept (grown_of_below hb2 none) (by simp)
  have hr2 := hr1.keep hb2
  have z2 := size_new w1 (.cells #[Value.slice (some ⟨w.heap.size, 0, none⟩) 0 0] 98)
  generalize w1.alloc (.cells #[Value.slice (some ⟨w.heap.size, 0, none⟩) 0 0] 98) = w2 at hb2 hk2 ho2 hr2 z2 ⊢
  have HB2 := hid (hb1.trans (hb2.mono hb1.size))
  have HP2 := hid (show HpB w2 w.heap.size (w.heap.size + 1) w.heap.size 0 [] from ⟨hk2, ⟨[], hr2, Nat.le_refl _, Nat.le_refl _, Nat.zero_le _, rfl, fun y hy => by cases hy⟩, by omega, by omega⟩)
  have HZ2 := hid (show w2.heap.size = w.heap.size + 1 + 1 from by omega)
  refine wpList_range_own w2 rfl _ 52 rfl 32 77 bl_keyed Tryd.underlying52 ptrElem m k D rfl ho2 ?_
  intro w3 hrg hg3 hz3
  have HB3 := hid (HB2.out.trans (below_of_grown hg3 HB2.out.size (fun g e => by cases e)))
  have HP3 := hid (HP2.out.keep (below_of_grown hg3 (Nat.le_refl _) (fun g e => by cases e)))
  have HR := hid hrg
  have HRL := hid (show w2.heap.size < w3.heap.size by omega)
  generalize w2.heap.size = r at HR HZ2 HRL ⊢
  clear hb1 hb2 hk2 ho1 ho2 hrg hg3 HB2 HP2 z1 z2 hr1 hr2 HO hz3
  have hr0 := HZ2.out
  generalize hT : w.heap.size + 1 = T at HP3 hr0 ⊢
  have hTr0 : T < r := by omega
  have hT0 : w.heap.size < T := by omega
  clear hr0 hT HZ2
  go_frame
  go_wp2_with fail
  go_loopw [11] (fun _ wr => ∃ (left : Lit → Bool) (cnt g c : Nat) (l : List (List UInt8)), Hid (wr.ranges Tryd.prog 32 ptrElem m r k D left cnt) ∧ Hid (HpB wr w.heap.size T g c l) ∧ Hid (HeapI l l.length) ∧ Hid (KeysL f left l) ∧ l.length + cnt ≤ k ∧ g ≠ r ∧ Hid (Below w.heap.size w wr)) (fun _ wr => wr.rangeLeft m r)
  case atStart => exact ⟨_, _, _, _, _, HR, HP3, hid (fun k h1 h2 => by simp at h2), hid (KeysL.start HDD.out), by have := HS.out; simpa using this, by omega, HB3⟩
  case round =>
    obtain ⟨left, cnt, g, c, l, hr, HP, HH, HK, hcnt, hgr, HB⟩ := hrel
    clear HR HB3 HP3
    go_wp2_with (at_next; refine Held.go ?_)
    refine wpList_next_ranges _ rfl _ rfl 32 bl_keyed ptrElem (fun l : List UInt8 => .agg (bcells l)) (fun b : Nat => .pointer (some ⟨b, 0, none⟩)) (fun key kl hk => (klit_inv hk).elim fun l hl => ⟨l, hl.2⟩) (fun v y hv => (ptrElem_inv hv).elim fun b hb => ⟨b, hb.1⟩) m r k D _ _ rfl hr.out ?_ ?_
    · intro _ hleft
      have HLM := hid (show (∀ id : List UInt8, id.length = 32 → (id ∈ l ↔ (f id).isSome = true)) ∧ l.Nodup from ⟨fun id hl => by rw [HK.out.1 id hl, hleft]; simp, HK.out.2⟩)
      go_wp2_with (at_len; refine Held.go ?_)
      refine wpList_len_own _ rfl _ 52 rfl 32 77 Tryd.underlying52 ptrElem m k D rfl hr.out.owns ?_
      have hsk := HS.out
      generalize Maps.size D = sz at hsk ⊢
      go_wp2_with (at_make; refine Held.go ?_)
      obtain ⟨i0, hi, hz0, hsz, hby⟩ := info_parts infoID
      refine wpList_make_own _ rfl _ _ 44 rfl w.heap.size 32 i0 _ 32 Tryd.underlying44 hi hz0 hsz .i64 .i64 ((sz : Nat) : Int) sz rfl rfl rfl (by rw [hby]; omega) (by simp [maxLen]; omega) HB.out.size ?_
      intro w4 hown hg4
      have hgl := HP.out.row.lt
      have hTl := HP.out.top.lt
      have HB4 := hid (HB.out.trans (below_of_grown hg4 HB.out.size (fun g e => by cases e)))
      have HP4 := hid (HP.out.keep (below_of_grown hg4 (Nat.le_refl _) (fun g e => by cases e)))
      have HR4 := hid (RowH.of_own (ids := []) hown (fun y hy => by cases hy))
      have hne1 : wr.heap.size ≠ T := by omega
      have hne2 : wr.heap.size ≠ g := by omega
      obtain ⟨gR0, hgR0⟩ : ∃ q, wr.heap.size = q := ⟨_, rfl⟩
      rw [hgR0] at HR4 hne1 hne2 ⊢
      have hlk : l.length ≤ k := by omega
      clear hg4 hi hz0 hsz hby hown hgl hTl hgR0 hr HB HP HK hleft
      go_wp2_with fail
      go_loopw [5, 26] (fun v5 _ wq => ∃ (out l2 : List (List UInt8)) (gR cR : Nat), v5 = .slice (some ⟨gR, 0, none⟩) out.length cR ∧ Hid (RowH wq w.heap.size gR cR out) ∧ Hid (HpB wq w.heap.size T g c l2) ∧ Hid (HeapI l2 l2.length) ∧ Hid ((out ++ l2).Perm l) ∧ Hid (out.Pairwise leI ∧ ∀ a ∈ out, ∀ b ∈ l2, leI a b) ∧ gR ≠ T ∧ gR ≠ g ∧ Hid (Below w.heap.size w wq)) (fun v5 _ _ => l.length - (match v5 with | .slice _ n _ => n | _ => 0))
      case atStart => exact ⟨[], l, gR0, sz, rfl, HR4, HP4, HH, hid (List.Perm.refl _), hid ⟨List.Pairwise.nil, fun a ha => by cases ha⟩, hne1, hne2, HB4⟩
      case round =>
        clear HR4 HP4 HH HB4 hne1 hne2
        obtain ⟨out, l2, gR, cR, rfl, HRo, HPo, HHo, HPe, HSo, hn1, hn2, HBo⟩ := hrel
        have c0 := HPo.out.top.cell 0 rfl
        have hlen := HPe.out.length_eq
        rw [List.length_append] at hlen
        obtain ⟨n2, hn2l⟩ : ∃ n2, l2.length = n2 := ⟨_, rfl⟩
        obtain ⟨no, hno⟩ : ∃ no, out.length = no := ⟨_, rfl⟩
        rw [hn2l] at c0 hlen HHo
        rw [hno] at hlen ⊢
        have HN2 := hid hn2l; have HNO := hid hno
        clear hn2l hno
        go_wp2_with fail
        refine (dlen_calls _ n2 c _).mono ?_
        rintro _ _ ⟨rfl, rfl⟩
        by_cases h0 : n2 = 0
        · subst h0
          have hl2 : l2 = [] := List.eq_nil_of_length_eq_zero HN2.out
          have HEnd := hid (show InOrdP w k f (.returned (.slice (some ⟨gR, 0, none⟩) no cR)) _ from ⟨gR, cR, out, by rw [HNO.out], HRo.out, by
            have hp := HPe.out
            rw [hl2, List.append_nil] at hp
            exact ⟨strict_of HRo.out.l32 hp HLM.out.2 HSo.out.1, fun id hl => by rw [hp.mem_iff]; exact HLM.out.1 id hl, by rw [HNO.out]; omega, HBo.out⟩⟩)
          rw [show ((0 : Nat) : Int) = 0 from rfl]
          clear c0
          go_wp2_with fail
          go_ret
          exact HEnd.out
        · have hpos : (0 : Int) < (n2 : Int) := by omega
          obtain ⟨n3, hn3⟩ : ∃ n3, n2 = n3 + 1 := ⟨n2 - 1, by omega⟩
          have HN3 := hid hn3
          have HPp := hid (hPop_calls HPo.out n3 (by rw [HN2.out, hn3]) (by omega) (by rw [← hn3]; exact HHo.out))
          unfold hpV at HPp
          have h32 := HPo.out.row.l32.at_ (k := 0) (by rw [HN2.out]; omega)
          have HMin := hid (fun k hk => HHo.out.min HPo.out.row.l32 (by rw [HN2.out]; omega) k hk : ∀ k, k < n2 → leI (gI l2 0) (gI l2 k))
          generalize hy : gI l2 0 = y at HPp h32 HMin
          have HY := hid hy; have H32 := hid h32
          have hti : ∀ W, (Instr.typeAssert (.iface 32 (.agg (bcells y))) 20 32 false).run Tryd.prog W = .ok (.agg (bcells y)) W := fun W => by kernel_rfl
          clear c0 h0 hy h32 hn3
          go_wp2_with fail
          refine HPp.out.mono ?_
          rintro _ w6 ⟨rfl, l3, k1, k2, k3, k4, k5⟩
          rw [HY.out] at k2
          have hgb : w.heap.size ≤ g := by obtain ⟨_, _, h1, _⟩ := HPo.out.row; exact h1
          have HP6 := hid k1
          have HR6 := hid (HRo.out.chg k5 (by simp; exact ⟨hn1, hn2⟩))
          have HB6 := hid (HBo.out.trans (k5.below (fun b hb => by simp at hb; omega) HBo.out.size))
          have HS6 := hid (sorted_snoc HSo.out k2 HN2.out HMin.out HPe.out)
          have HH6 := hid (show HeapI l3 l3.length from by rw [k4]; exact k3)
          have HL6 := hid k4
          clear k1 k2 k3 k4 k5 HPp HPo HRo HBo HSo HPe HHo HMin
          go_wp2_with (refine wpList_slice1 (u := .agg (bcells y)) rfl 44 1 0 (.tmp 31) rfl rfl (slice_id2 y H32.out w6) ?_; refine Held.go ?_)
          have hb7 := below_new w6 (.cells (bcells y) 32)
          have hq7 := Blk.new w6 32 (bcells y)
          generalize w6.alloc (.cells (bcells y) 32) = w7 at hb7 hq7 ⊢
          have HP7 := hid (HP6.out.keep hb7)
          have HB7 := hid (HB6.out.trans (hb7.mono HB6.out.size))
          obtain ⟨g2, c2, w8, hr8, hrow8, hg8, hor8⟩ := app_row (HR6.out.keep hb7) HB7.out.size hq7 H32.out no HNO.out (by omega) 44 44 Tryd.underlying44
          have hTl := HP7.out.top.lt
          have hgl := HP7.out.row.lt
          have HP8 := hid (show HpB w8 w.heap.size T g c l3 from ⟨HP7.out.top.grown hg8 (by simpa using hn1), HP7.out.row.grown hg8 (by simpa using hn2), HP7.out.ne, HP7.out.tb⟩)
          have hgRb : w.heap.size ≤ gR := by obtain ⟨_, _, h1, _⟩ := HR6.out; exact h1
          have HB8 := hid (HB7.out.trans (below_of_grown hg8 HB7.out.size (fun b e => by cases e; exact hgRb)))
          have HR8 := hid hrow8
          have hm1 : g2 ≠ T := by
            rcases hor8 with h | h
            · rw [h]; exact hn1
            · omega
          have hm2 : g2 ≠ g := by
            rcases hor8 with h | h
            · rw [h]; exact hn2
            · omega
          unfold Held
          clear hb7 hq7 hrow8 hg8 hor8 hTl hgl HP6 HB6 HR6 HP7 HB7 hti
          go_wp2_with (refine wpList_append1 rfl _ _ 44 rfl rfl rfl hr8 ?_)
          clear hr8
          go_roundw
          case rel => exact ⟨out ++ [y], l3, g2, c2, by rw [List.length_append, HNO.out]; rfl, HR8, HP8, HH6, hid HS6.out.2, hid HS6.out.1, hm1, hm2, HB8⟩
          case measure =>
            have h1 := HN3.out
            simp
            omega
    · intro x cc kl y w5 cnt' hkey hlk hv hat hrg hlt hg hs hen
      have hx : x.length = 32 := by
        obtain ⟨l', h1, h2⟩ := klit_inv hkey
        have : x = l' := bcells_inj (by simpa using h2)
        rw [this]; exact h1
      have hkl : kl = klit x := by
        have := klit_of hx
        rw [hkey] at this
        exact Option.some.inj this
      subst hkl
      have hfx : (f x).isSome = true := by
        obtain ⟨b, -, rfl⟩ := ptrElem_inv hv
        have h1 := HDD.out x hx
        rw [hat] at h1
        cases hf : f x with
        | none => rw [hf] at h1; cases h1
        | some b => rfl
      have hTr : T ≠ r := by omega
      have hb5 : Below w.heap.size w w5 := HB.out.trans (below_of_grown hg HB.out.size (fun g' e => by cases e; omega))
      have hp5 : HpB w5 w.heap.size T g c l := ⟨HP.out.top.grown hg (by simpa using Ne.symm hTr), HP.out.row.grown hg (by simpa using Ne.symm hgr), HP.out.ne, HP.out.tb⟩
      have HB5 := hid hb5; have HP5 := hid hp5; have HR5 := hid hrg
      have HX := hid hx; have HFX := hid hfx; have HLK := hid hlk
      have HLE := hid hr.out.left_eq
      have hsz5 : r < w5.heap.size := by rw [hs]; exact hr.out.lt
      clear hkey hv hat hb5 hp5 hrg hfx hlk hr HP HB hg hs
      have HSZ := hid (show (Tryd.prog.info? 32).map (·.size) = some (bcells x).size from by rw [bcells_size, HX.out]; kernel_rfl)
      have HZ3 := hid (show (bcells (zeroB 32)).size = (bcells x).size from by rw [bcells_size, bcells_size, HX.out]; rfl)
      obtain ⟨q1, q2⟩ := new_set w5 32 (bcells (zeroB 32)) (bcells x)
      have K3 := hid (Blk.new w5 32 (bcells (zeroB 32)))
      have K4 := hid q2; have HP6 := hid (HP5.out.keep q1); have HB6 := hid (HB5.out.trans (q1.mono HB5.out.size))
      have HR6 := hid (ranges_chg (L := []) HR5.out (Chg.of_below q1) (by simp) (by simp))
      have hsz6 := Nat.lt_of_lt_of_le hsz5 q1.size
      have HPu := hid (hPush_calls HP6.out HB6.out.size x HX.out l.length rfl (by omega) HH.out)
      unfold hpV at HPu
      clear q1 q2 HP5 HB5 HR5 hsz5
      go_wp2_with (first
        | (refine wpList_store_blk rfl 32 _ _ rfl w5.heap.size _ rfl rfl 32 _ K3.out HSZ.out HZ3.out (bcells_oneCell _) ?_)
        | (refine wpList_load_blk rfl 32 _ rfl w5.heap.size rfl 32 _ K4.out _ _ Tryd.underlying32 HSZ.out ?_))
      refine HPu.out.mono ?_
      rintro _ w7 ⟨rfl, g', c', l', k1, k2, k3, k4, k5⟩
      have hgb : w.heap.size ≤ g := by obtain ⟨_, _, h1, _⟩ := HP6.out.row; exact h1
      have hl' := k2.length_eq
      rw [List.length_append, List.length_singleton] at hl'
      have HRn := hid (ranges_chg HR6.out k4 (by simp; omega) (by simp; omega))
      have HBn := hid (HB6.out.trans (k4.below (fun b hb => by simp at hb; omega) HB6.out.size))
      have HKn := hid (HK.out.step HX.out HFX.out HLK.out k2)
      have HPn := hid k1
      have HHn := hid (show HeapI l' l'.length from by rw [hl']; exact k3)
      have hgn : g' ≠ r := by
        rcases k5 with h | h
        · rw [h]; exact hgr
        · omega
      clear k1 k2 k3 k4 k5 HPu HP6 HB6 HR6 hen
      go_wp2_with fail
      go_roundw
      case rel => exact ⟨_, cnt', g', c', l', HRn, HPn, HHn, HKn, by omega, hgn, HBn⟩
      case measure =>
        rw [HRn.out.left_eq, HLE.out]
        exact hlt
def IdsP (w : World) (l : List (List UInt8 × List UInt8)) (e : Ending) (w' : World) : Prop := ∃ g cap ids, e = .returned (.slice (some ⟨g, 0, none⟩) ids.length cap) ∧ RowH w' w.heap.size g cap ids ∧ ids.Pairwise (fun a b => cmpL a b < 0) ∧ (∀ id : List UInt8, id.length = 32 → (id ∈ ids ↔ (lookB l id).isSome = true)) ∧ Below w.heap.size w w'
theorem ids_calls {w : World} {F : List Nat} {s m k : Nat} {b : BS} {f0 : List UInt8 → Option Nat} (hs : StB w F s m k b f0) (hk : k ≤ 100000) : Calls Tryd.prog 19 #[.pointer (some ⟨s, 0, none⟩)] w (IdsP w b.l) := by
  have hf : ∀ id : List UInt8, id.length = 32 → ((f0 id).isSome = true ↔ (lookB b.l id).isSome = true) := fun id hl => by
    have he := hs.each id hl
    cases hf : f0 id with
    | none =>
      rw [hf] at he
      cases hx : lookB b.l id with
      | none => simp
      | some x => rw [hx] at he; exact he.elim
    | some g =>
      rw [hf] at he
      cases hx : lookB b.l id with
      | none => rw [hx] at he; exact he.elim
      | some x => simp
  have HV := hid (bvalid_calls s _ _ _ _ w hs.hd)
  have HI := hid (inOrder_calls m k f0 w hs.mp hk)
  have HF := hid hf
  have c4 : w.cell? ⟨s, 4, none⟩ = some (.map (some m)) := hs.hd.cell 4 rfl
  clear hs hf
  go_enter Tryd.func19, Tryd.ntmps19
  go_wp2_with fail
  refine HV.out.mono ?_
  rintro _ _ ⟨rfl, rfl⟩
  go_wp2_with fail
  refine HI.out.mono ?_
  rintro _ w1 ⟨g, cap, ids, rfl, k1, k2, k3, -, k5⟩
  have HEnd := hid (show IdsP w b.l (.returned (.slice (some ⟨g, 0, none⟩) ids.length cap)) w1 from ⟨g, cap, ids, rfl, k1, k2, fun id hl => (k3 id hl).trans (HF.out id hl), k5⟩)
  generalize ids.length = n at HEnd ⊢
  clear k1 k2 k3 k5 HI HV c4
  go_wp2_with fail
  go_ret
  exact HEnd.out
end Go.Proofs.YtoogaapjdlhpbaaDoor
/- Mathematics for BlobHolds: what the digests of a store sum up to. -/
namespace Go.Proofs.YtoogaapjdlhpbaaDoor
open Crc

theorem lookB_mem {l : List (List UInt8 × List UInt8)} {id x : List UInt8} (h : lookB l id = some x) : (id, x) ∈ l := by
  unfold lookB at h
  cases hf : l.find? (fun p => p.1 == id) with
  | none => rw [hf] at h; cases h
  | some p =>
    rw [hf] at h
    have h1 := List.find?_some hf
    have h2 := List.mem_of_find?_eq_some hf
    have e1 : p.1 = id := by simpa using h1
    have e2 : p.2 = x := by simpa using h
    rw [← e1, ← e2]
    exact h2
theorem lookB_of_mem {l : List (List UInt8 × List UInt8)} {id x : List UInt8} (hn : (l.map (fun p => p.1)).Nodup) (h : (id, x) ∈ l) : lookB l id = some x := by
  unfold lookB
  induction l with
  | nil => cases h
  | cons p l ih =>
    rw [List.map_cons, List.nodup_cons] at hn
    rcases List.mem_cons.1 h with h | h
    · subst h
      rw [List.find?_cons_of_pos (by simp)]
      rfl
    · have : p.1 ≠ id := fun e => hn.1 (by rw [e]; exact List.mem_map_of_mem (f := fun p : List UInt8 × List UInt8 => p.1) h)
      rw [List.find?_cons_of_neg (by simpa using this)]
      exact ih hn.2 h
theorem lookB_some_iff {l : List (List UInt8 × List UInt8)} {id : List UInt8} : (lookB l id).isSome = true ↔ id ∈ l.map (fun p => p.1) := by
  constructor
  · intro h
    obtain ⟨x, hx⟩ := Option.isSome_iff_exists.1 h
    exact List.mem_map_of_mem (f := fun p : List UInt8 × List UInt8 => p.1) (lookB_mem hx)
  · intro h
    cases e : lookB l id with
    | some x => rfl
    | none =>
      obtain ⟨p, hp, rfl⟩ := List.mem_map.1 h
      exact absurd rfl (lookB_none e p hp)
def sumI (l : List (List UInt8 × List UInt8)) (ids : List (List UInt8)) : Nat := (ids.map (fun id => ((lookB l id).getD []).length)).sum
theorem sumI_snoc (l : List (List UInt8 × List UInt8)) (ids : List (List UInt8)) (j : Nat) (y : List UInt8) (h : ids[j]? = some y) : sumI l (ids.take (j + 1)) = sumI l (ids.take j) + ((lookB l y).getD []).length := by
  have e : ids.take (j + 1) = ids.take j ++ [y] := by rw [List.take_add_one, h]; rfl
  unfold sumI
  rw [e]
  simp
theorem sumI_take_le (l : List (List UInt8 × List UInt8)) (ids : List (List UInt8)) (j : Nat) : sumI l (ids.take j) ≤ sumI l ids := by
  have e : ids = ids.take j ++ ids.drop j := (List.take_append_drop j ids).symm
  have h2 : sumI l ids = sumI l (ids.take j ++ ids.drop j) := congrArg (sumI l) e
  rw [h2]
  unfold sumI
  rw [List.map_append, List.sum_append]
  exact Nat.le_add_right _ _
theorem perm_of_same {α : Type} [DecidableEq α] : ∀ {a b : List α}, a.Nodup → b.Nodup → (∀ x, x ∈ a ↔ x ∈ b) → a.Perm b := by
  intro a b ha hb h
  rw [List.perm_iff_count]
  intro x
  by_cases hx : x ∈ a
  · rw [ha.count, hb.count, if_pos hx, if_pos ((h x).1 hx)]
  · rw [ha.count, hb.count, if_neg hx, if_neg (fun e => hx ((h x).2 e))]
theorem sumI_total {b : BS} (ok : OKB b) {ids : List (List UInt8)} (h32 : L32 ids) (hn : ids.Nodup) (h : ∀ id : List UInt8, id.length = 32 → (id ∈ ids ↔ (lookB b.l id).isSome = true)) : sumI b.l ids = usedB b.l := by
  have hp : ids.Perm (b.l.map (fun p => p.1)) := perm_of_same hn ok.nodup (fun x => by
    constructor
    · intro hx
      exact lookB_some_iff.1 ((h x (h32 x hx)).1 hx)
    · intro hx
      obtain ⟨p, hp, e⟩ := List.mem_map.1 hx
      have hl : x.length = 32 := by rw [← e]; exact ok.ids p hp
      exact (h x hl).2 (lookB_some_iff.2 hx))
  unfold sumI usedB
  have h1 := (hp.map (fun id => ((lookB b.l id).getD []).length)).sum_nat
  rw [h1, List.map_map]
  congr 1
  refine List.map_congr_left (fun p hp => ?_)
  show ((lookB b.l p.1).getD []).length = p.2.length
  rw [lookB_of_mem (x := p.2) ok.nodup hp]
  rfl
theorem nodup_of_strict {ids : List (List UInt8)} (h : ids.Pairwise (fun a b => cmpL a b < 0)) : ids.Nodup := by
  refine h.imp (fun {a b} hab e => ?_)
  subst e
  have := cmpL_neg a a rfl
  omega
end Go.Proofs.YtoogaapjdlhpbaaDoor
