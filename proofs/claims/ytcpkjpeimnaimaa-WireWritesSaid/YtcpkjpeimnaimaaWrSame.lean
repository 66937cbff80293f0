/- Contracts: the kit's SameInts; the law's long. -/
import Derived.Test.YtcpkjpeimnaimaaWrReads4
namespace Go.Proofs.Ytcpkjpeimnaimaa
open Go.RowKit

set_option maxHeartbeats 2000000 in
theorem sameInts_calls (n c n2 c2 : Nat) (A A2 : Option Addr) (zs ys : List Int) (w : World) (ha : SI w A n zs) (hb : SI w A2 n2 ys) (hn : n ≤ 549755813888) (hn2 : n2 ≤ 549755813888) :
    Calls Try.prog 46 #[.slice A n c, .slice A2 n2 c2] w fun e w' => e = .returned (.bool (zs == ys)) ∧ Below w.heap.size w w' := by
  have HA := hid ha; have HB := hid hb
  have hl1 := ha.1; have hl2 := hb.1
  have HL1 := hid hl1; have HL2 := hid hl2
  clear ha hb hl1 hl2
  by_cases hnn : n = n2
  · subst hnn
    go_enter Try.func46, Try.ntmps46
    go_wp2_with fail
    go_loopw [5, 6] (fun s i wr => ∃ (k : Nat) (b : Bool), k ≤ n ∧ i = .int .i64 (k : Int) ∧ s = .bool b ∧ (b = true → Hid (zs.take k = ys.take k)) ∧ (b = false → Hid (zs ≠ ys)) ∧ Hid (Below w.heap.size w wr)) (fun _ i _ => n - (intOf i).toNat)
    case atStart => exact ⟨0, true, Nat.zero_le _, rfl, rfl, fun _ => (rfl : zs.take 0 = ys.take 0), (fun h => by cases h), Below.refl _ _⟩
    case round =>
      obtain ⟨k, b, hk, rfl, rfl, hbt, hbf, HW⟩ := hrel
      cases b with
      | false =>
        have HNE := hbf rfl
        have HK := hid (show (zs == ys) = false from by simpa using HNE.out)
        clear hbt hbf HNE
        go_wp2_with fail
        go_ret
        exact ⟨by rw [HK.out]; rfl, HW.out⟩
      | true =>
        have HEQ := hbt rfl
        clear hbt hbf
        by_cases hlt : k < n
        · obtain ⟨b1, o1, z, rfl, hz, hc1⟩ := (HA.out.keep HW.out).at_ hlt
          obtain ⟨b2, o2, y, rfl, hy, hc2⟩ := (HB.out.keep HW.out).at_ hlt
          have HZ := hid hz; have HY := hid hy
          clear hz hy
          have hs1 := HW.out.size
          go_wp2_with fail
          go_region
          all_goals
            have HW2 := hid HW.out.drew
            go_wp2_with fail
            go_roundw
          case rel =>
            refine ⟨k + 1, z == y, by omega, by go_num, rfl, fun h => ?_, fun h => ?_, HW2⟩
            · have e : z = y := by simpa using h
              show zs.take (k + 1) = ys.take (k + 1)
              rw [List.take_add_one, List.take_add_one, HZ.out, HY.out, HEQ.out, e]
            · have e : z ≠ y := by simpa using h
              show zs ≠ ys
              intro e2
              have h1 := HZ.out
              rw [e2, HY.out] at h1
              exact e (by injection h1 with h1; exact h1.symm)
          case measure => simp [intOf]; omega
        · obtain rfl : k = n := by omega
          have HK := hid (show (zs == ys) = true from by
            have h := HEQ.out
            rw [List.take_of_length_le (by rw [HL1.out]; exact Nat.le_refl _), List.take_of_length_le (by rw [HL2.out]; exact Nat.le_refl _)] at h
            simp [h])
          go_wp2_with fail
          go_ret
          exact ⟨by rw [HK.out]; rfl, HW.out⟩
  · have HK := hid (show (zs == ys) = false from by
      have : zs ≠ ys := fun e => hnn (by rw [← HL1.out, ← HL2.out, e])
      simpa using this)
    have hq : ((n : Int) == (n2 : Int)) = false := by simp; omega
    have hq2 : (n == n2) = false := by simpa using hnn
    go_enter Try.func46, Try.ntmps46
    go_wp2_with fail
    go_loopw [5, 6] (fun s i wr => s = .bool false ∧ i = .int .i64 0 ∧ wr = w) (fun _ _ _ => 0)
    case atStart => exact ⟨rfl, rfl, rfl⟩
    case round =>
      obtain ⟨rfl, rfl, rfl⟩ := hrel
      go_wp2_with fail
      go_ret
      exact ⟨by rw [HK.out]; rfl, Below.refl _ _⟩
/-- What the value of a thing leads to, however long it is. -/
def TOKW (w : World) (t : Th) : Prop :=
  t.id.length = 32 ∧ SB w w.heap.size t.A t.cs.length t.cs ∧ SI w t.A2 t.zs.length t.zs ∧ t.cs.length ≤ 9223372036854775807 ∧ t.zs.length ≤ 9223372036854775807 ∧ t.cs.length ≤ t.c ∧ t.zs.length ≤ t.c2 ∧ lt63 t.n ∧ lt63 t.x ∧ lt63 t.y ∧ ∀ z ∈ t.zs, lt63 z
theorem TOKW.keep {w w' : World} {t : Th} (h : TOKW w t) (hb : Below w.heap.size w w') : TOKW w' t :=
  ⟨h.1, (h.2.1.keep hb).more hb.size, h.2.2.1.keep hb, h.2.2.2⟩
theorem TOKW.strong {w : World} {t : Th} (h : TOKW w t) (h1 : t.cs.length ≤ 60) (h2 : t.zs.length ≤ 60) : TOK w t :=
  ⟨h.1, h.2.1, h.2.2.1, by omega, by omega, h.2.2.2.2.2⟩
/-- The things of a slice that came in, one behind the other. -/
structure THS (w : World) (A : Option Addr) (n : Nat) (ts : List Th) : Prop where
  len : ts.length = n
  at_ : 0 < n → ∃ b off, A = some ⟨b, off, none⟩ ∧ ∀ k t, ts[k]? = some t → ∀ j v, (TV t)[j]? = some v → w.cell? ⟨b, off + k * 39 + j, none⟩ = some v
  ok : ∀ t ∈ ts, TOKW w t
theorem THS.keep {w w' : World} {A : Option Addr} {n : Nat} {ts : List Th} (h : THS w A n ts) (hb : Below w.heap.size w w') : THS w' A n ts where
  len := h.len
  at_ hn := by
    obtain ⟨b, off, e, hc⟩ := h.at_ hn
    exact ⟨b, off, e, fun k t hk j v hj => by
      have := hc k t hk j v hj
      exact (hb.cell (p := ⟨b, off + k * 39 + j, none⟩) (lt_of_cell this)).trans this⟩
  ok t ht := (h.ok t ht).keep hb
def longB (ts : List Th) : Bool := decide (30 < ts.length) || ts.any fun t => decide (60 < t.cs.length) || decide (60 < t.zs.length)
/-- what long tells -/
def longV (ts : List Th) : Bool := (ts.take 31).any (fun t => decide (60 < t.cs.length) || decide (60 < t.zs.length)) || decide (30 < ts.length)
theorem longV_true {ts : List Th} {k : Nat} {t : Th} (ht : ts[k]? = some t) (hk : k < 31) (h : (decide (60 < t.cs.length) || decide (60 < t.zs.length)) = true) : longV ts = true := by
  unfold longV
  have hm : t ∈ ts.take 31 := List.mem_of_getElem? (i := k) (by rw [List.getElem?_take, if_pos hk]; exact ht)
  rw [Bool.or_eq_true]
  exact .inl (List.any_eq_true.2 ⟨t, hm, h⟩)
theorem longV_end {ts : List Th} {k : Nat} (hk : k = 31 ∨ (k = ts.length ∧ k ≤ 31)) (h : (ts.take k).any (fun t => decide (60 < t.cs.length) || decide (60 < t.zs.length)) = false) : longV ts = decide (30 < ts.length) := by
  unfold longV
  rcases hk with rfl | ⟨rfl, hk⟩
  · rw [h, Bool.false_or]
  · rw [List.take_length] at h
    rw [List.take_of_length_le hk, h, Bool.false_or]
set_option maxHeartbeats 2000000 in
theorem long_calls (n c : Nat) (A : Option Addr) (ts : List Th) (w : World) (h : THS w A n ts) (hn : n ≤ 9223372036854775807) :
    Calls Try.prog 11 #[.slice A n c] w fun e w' => e = .returned (.bool (longV ts)) ∧ w = w' := by
  have HH := hid h
  clear h
  go_enter Try.func11, Try.ntmps11
  go_wp2_with fail
  go_loop [3] (fun i => ∃ k : Nat, k ≤ n ∧ k ≤ 31 ∧ i = .int .i64 (k : Int) ∧ Hid ((ts.take k).any (fun t => decide (60 < t.cs.length) || decide (60 < t.zs.length)) = false)) (fun i => n - (intOf i).toNat)
  case atStart => exact ⟨0, Nat.zero_le _, by omega, rfl, (rfl : (ts.take 0).any _ = false)⟩
  case round =>
    obtain ⟨k, hk, hk31, rfl, HF⟩ := hrel
    by_cases hlt : k < n ∧ k < 31
    · obtain ⟨h1, h2⟩ := hlt
      obtain ⟨b, off, rfl, hc⟩ := HH.out.at_ (by omega)
      have hkl : k < ts.length := by have := HH.out.len; omega
      obtain ⟨t, ht⟩ : ∃ t, ts[k]? = some t := ⟨ts[k], List.getElem?_eq_getElem hkl⟩
      have hok := HH.out.ok t (List.mem_of_getElem? ht)
      have c2 := hc k t ht 2 _ (TV_head (t := t) (i := 2) rfl)
      have c7 := hc k t ht 37 _ (TV_tail (t := t) hok.1 (i := 2) rfl)
      have HN := hid (show (ts.take (k + 1)).any (fun t => decide (60 < t.cs.length) || decide (60 < t.zs.length)) = (decide (60 < t.cs.length) || decide (60 < t.zs.length)) from by
        rw [List.take_add_one, ht, List.any_append, HF.out]; simp)
      have HT := hid ht
      have l1 : t.cs.length ≤ 9223372036854775807 := hok.2.2.2.1
      have l2 : t.zs.length ≤ 9223372036854775807 := hok.2.2.2.2.1
      clear hc ht hok
      have q1 : (k : Int) < 31 := by omega
      have HTR := hid (fun hq => longV_true HT.out h2 hq)
      generalize t.cs.length = m1 at c2 HN l1 HTR
      generalize t.zs.length = m2 at c7 HN l2 HTR
      by_cases hm1 : 60 < m1
      · have HK := hid (HTR.out (by simp [hm1]))
        go_wp2_with fail
        go_ret
        exact ⟨by rw [HK.out]; rfl, rfl⟩
      · have n1 : decide ((60 : Int) < (m1 : Int)) = false := by simp; omega
        by_cases hm2 : 60 < m2
        · have HK := hid (HTR.out (by simp [hm2]))
          go_wp2_with fail
          go_ret
          exact ⟨by rw [HK.out]; rfl, rfl⟩
        · have n2 : decide ((60 : Int) < (m2 : Int)) = false := by simp; omega
          have HN2 := hid (show (ts.take (k + 1)).any (fun t => decide (60 < t.cs.length) || decide (60 < t.zs.length)) = false from by rw [HN.out]; simp [hm1, hm2])
          go_wp2_with fail
          go_round
          case rel => exact ⟨k + 1, by omega, by omega, by go_num, HN2⟩
          case measure => simp [intOf]; omega
    · have HK := hid (longV_end (ts := ts) (k := k) (by have := HH.out.len; omega) HF.out)
      have HL := hid HH.out.len
      have HK2 := hid (show longV ts = decide ((30 : Int) < (n : Int)) from by rw [HK.out, HL.out, decide_eq_decide]; omega)
      by_cases hkn : k < n
      · obtain rfl : k = 31 := by omega
        clear hlt hk hk31
        go_wp2_with fail
        go_ret
        exact ⟨by rw [HK2.out]; rfl, rfl⟩
      · obtain rfl : n = k := by omega
        clear hlt hk
        go_wp2_with fail
        go_ret
        exact ⟨by rw [HK2.out]; rfl, rfl⟩
end Go.Proofs.Ytcpkjpeimnaimaa
