/- Acts that came in; contract: Long. -/
import Derived.Test.YtoajnabdflikfaaDvRfC
import Derived.Test.YtoajnabdflikfaaDvKnown
import Derived.Test.YtoajnabdflikfaaKit2
namespace Go.Proofs.Ytoajnabdflikfaa
open Go.RowKit

/-- an act -/
structure DAct where
  k : Int
  n : Int
  b : UInt8
  A : Option Addr
  c : Nat
  keep : List Bool
def AV (a : DAct) : Array Value := #[.int .i64 a.k, .int .i64 a.n, .int .u8 (a.b.toNat : Int), .slice a.A a.keep.length a.c]
def AOK (w : World) (a : DAct) : Prop := KB w a.A a.keep.length a.keep ∧ a.n ≤ 9223372036854775807 ∧ a.keep.length ≤ 9223372036854775807
theorem AOK.keep {w w' : World} {a : DAct} (h : AOK w a) (hb : Below w.heap.size w w') : AOK w' a := ⟨h.1.keep hb, h.2⟩
/-- acts that came in -/
structure DATS (w : World) (A : Option Addr) (n : Nat) (ts : List DAct) : Prop where
  len : ts.length = n
  at_ : 0 < n → ∃ b off, A = some ⟨b, off, none⟩ ∧ ∀ (k : Nat) a, ts[k]? = some a → ∀ (j : Nat) v, (AV a)[j]? = some v → w.cell? ⟨b, off + k * 4 + j, none⟩ = some v
  ok : ∀ a ∈ ts, AOK w a
theorem DATS.keep {w w' : World} {A : Option Addr} {n : Nat} {ts : List DAct} (h : DATS w A n ts) (hb : Below w.heap.size w w') : DATS w' A n ts :=
  ⟨h.len, fun hn => by
    obtain ⟨b, off, e, hc⟩ := h.at_ hn
    exact ⟨b, off, e, fun k a ha j v hv => (hb.cell (lt_of_cell (hc k a ha j v hv))).trans (hc k a ha j v hv)⟩, fun a ha => (h.ok a ha).keep hb⟩
/-- what Long tells -/
def longA (ts : List DAct) : Bool := (ts.take 61).any (fun a => decide (60 < a.keep.length)) || decide (60 < ts.length)
theorem longA_true {ts : List DAct} {k : Nat} {a : DAct} (ha : ts[k]? = some a) (hk : k < 61) (h : decide (60 < a.keep.length) = true) : longA ts = true := by
  unfold longA
  have hm : a ∈ ts.take 61 := List.mem_of_getElem? (i := k) (by rw [List.getElem?_take, if_pos hk]; exact ha)
  rw [Bool.or_eq_true]
  exact .inl (List.any_eq_true.2 ⟨a, hm, h⟩)
theorem longA_end {ts : List DAct} {k : Nat} (hk : k = 61 ∨ (k = ts.length ∧ k ≤ 61)) (h : (ts.take k).any (fun a => decide (60 < a.keep.length)) = false) : longA ts = decide (60 < ts.length) := by
  unfold longA
  rcases hk with rfl | ⟨rfl, hk⟩
  · rw [h, Bool.false_or]
  · rw [List.take_length] at h
    rw [List.take_of_length_le hk, h, Bool.false_or]
theorem longA_no {ts : List DAct} (h : longA ts = false) : ts.length ≤ 60 ∧ ∀ a ∈ ts, a.keep.length ≤ 60 := by
  unfold longA at h
  rw [Bool.or_eq_false_iff] at h
  have h1 : ts.length ≤ 60 := by simpa using h.2
  refine ⟨h1, fun a ha => ?_⟩
  have := h.1
  rw [List.take_of_length_le (by omega)] at this
  have := (List.any_eq_false.1 this) a ha
  simpa using this
theorem ix_act (b off n c k : Nat) (h : k < n) (W : World) : (Instr.indexAt 22 (.slice (some ⟨b, off, none⟩) n c) (.int .i64 (k : Int))).run Try.prog W = .ok (.pointer (some ⟨b, off + k * 4, none⟩)) W := by
  have hi : (Try.prog.info? 35).map (·.size) = some 4 := by kernel_rfl
  obtain ⟨i, hi, hs⟩ := Option.map_eq_some_iff.1 hi
  rw [run_indexAt_slice W _ _ _ _ _ _ (by kernel_rfl), if_pos ⟨by omega, by omega⟩]
  rw [show Try.prog.elem 22 = 35 from by kernel_rfl]
  simp [sizeOf, typeInfo, hi, hs, Addr.add_lit]
set_option maxHeartbeats 2000000 in
theorem longA_calls (n c : Nat) (A : Option Addr) (ts : List DAct) (w : World) (h : DATS w A n ts) (hn : n ≤ 9223372036854775807) :
    Calls Try.prog 8 #[.slice A n c] w fun e w' => e = .returned (.bool (longA ts)) ∧ w = w' := by
  have HH := hid h
  clear h
  go_enter Try.func8, Try.ntmps8
  go_wp2_with fail
  go_loop [3] (fun i => ∃ k : Nat, k ≤ n ∧ k ≤ 61 ∧ i = .int .i64 (k : Int) ∧ Hid ((ts.take k).any (fun a => decide (60 < a.keep.length)) = false)) (fun i => n - (intOf i).toNat)
  case atStart => exact ⟨0, Nat.zero_le _, by omega, rfl, (rfl : (ts.take 0).any _ = false)⟩
  case round =>
    obtain ⟨k, hk, hk31, rfl, HF⟩ := hrel
    by_cases hlt : k < n ∧ k < 61
    · obtain ⟨h1, h2⟩ := hlt
      obtain ⟨b, off, rfl, hc⟩ := HH.out.at_ (by omega)
      have hkl : k < ts.length := by have := HH.out.len; omega
      obtain ⟨t, ht⟩ : ∃ t, ts[k]? = some t := ⟨ts[k], List.getElem?_eq_getElem hkl⟩
      have hok := HH.out.ok t (List.mem_of_getElem? ht)
      have c2 : w.cell? ⟨b, off + k * 4 + 3, none⟩ = some (.slice t.A t.keep.length t.c) := hc k t ht 3 _ rfl
      have HN := hid (show (ts.take (k + 1)).any (fun a => decide (60 < a.keep.length)) = decide (60 < t.keep.length) from by
        rw [List.take_add_one, ht, List.any_append, HF.out]; simp)
      have HT := hid ht
      have l1 : t.keep.length ≤ 9223372036854775807 := hok.2.2
      have hix := fun W => ix_act b off n c k h1 W
      clear hc ht hok
      have q0 : (k : Int) < (n : Int) := by omega
      have q1 : (k : Int) < 61 := by omega
      have HTR := hid (fun hq => longA_true HT.out h2 hq)
      generalize t.keep.length = m1 at c2 HN l1 HTR
      by_cases hm1 : 60 < m1
      · have n1 : (60 : Int) < (m1 : Int) := by omega
        have HK := hid (HTR.out (by simp [hm1]))
        go_wp2_with fail
        go_ret
        exact ⟨by rw [HK.out]; rfl, rfl⟩
      · have n1 : ¬ (60 : Int) < (m1 : Int) := by omega
        have HN2 := hid (show (ts.take (k + 1)).any (fun a => decide (60 < a.keep.length)) = false from by rw [HN.out]; simp [hm1])
        go_wp2_with fail
        go_round
        case rel => exact ⟨k + 1, by omega, by omega, by go_num, HN2⟩
        case measure => simp [intOf]; omega
    · have HK := hid (longA_end (ts := ts) (k := k) (by have := HH.out.len; omega) HF.out)
      have HL := hid HH.out.len
      have HK2 := hid (show longA ts = decide ((60 : Int) < (n : Int)) from by rw [HK.out, HL.out, decide_eq_decide]; omega)
      by_cases hkn : k < n
      · obtain rfl : k = 61 := by omega
        have q0 : (((61 : Nat) : Int)) < (n : Int) := by omega
        have q3 : (60 : Int) < (n : Int) := by omega
        clear hlt hk hk31
        go_wp2_with fail
        go_ret
        exact ⟨by rw [HK2.out]; simp [q3], rfl⟩
      · obtain rfl : n = k := by omega
        have q0 : ¬ (n : Int) < (n : Int) := by omega
        clear hlt hk
        go_wp2_with fail
        go_ret
        exact ⟨by rw [HK2.out]; rfl, rfl⟩
end Go.Proofs.Ytoajnabdflikfaa
