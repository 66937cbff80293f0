/- Contract of the law's long. -/
import Derived.Test.YtjgnbmkhibdcfaaQtActs
namespace Go.Proofs.Ytjgnbmkhibdcfaa
open Go.RowKit

/-- what long tells -/
def LongP (w : World) (n : Nat) (ts : List QA) (e : Ending) (w' : World) : Prop := ∃ b : Bool, e = .returned (.bool b) ∧ w = w' ∧ (b = false → n ≤ 40 ∧ ∀ (i : Nat) t, ts[i]? = some t → t.repo.length ≤ 150 ∧ t.to.length ≤ 150)
theorem ActRow.cells {w : World} {g off : Nat} {ts : List QA} (h : ∀ (i : Nat) t, ts[i]? = some t → ∀ (j : Nat) v, (AV t)[j]? = some v → w.cell? ⟨g, off + i * 36 + j, none⟩ = some v) {k : Nat} {t : QA} (ht : ts[k]? = some t) : w.cell? ⟨g, off + k * 36 + 1, none⟩ = some (.string (strB t.repo)) ∧ w.cell? ⟨g, off + k * 36 + 2, none⟩ = some (.string (strB t.to)) :=
  ⟨h k t ht 1 _ rfl, h k t ht 2 _ rfl⟩
set_option maxRecDepth 20000 in
set_option maxHeartbeats 600000 in
theorem qlong_calls {w : World} {A : Option Addr} {n c : Nat} {ts : List QA} (hr : ActRow w A n ts) (hmax : n ≤ 9223372036854775807) :
    Calls Try.prog 10 #[.slice A n c] w (LongP w n ts) := by
  have HR := hid hr
  clear hr
  go_enter Try.func10, Try.ntmps10
  go_wp2_with fail
  go_loopw [2, 3] (fun v2 v3 wr => ∃ k : Nat, v2 = .bool false ∧ v3 = .int .i64 (k : Int) ∧ k ≤ n ∧ k ≤ 41 ∧ Hid (w = wr ∧ ∀ (i : Nat) t, i < k → ts[i]? = some t → t.repo.length ≤ 150 ∧ t.to.length ≤ 150)) (fun _ v3 _ => 41 - (intOf v3).toNat)
  case atStart => exact ⟨0, rfl, rfl, Nat.zero_le _, by omega, hid ⟨rfl, fun i t h => absurd h (by omega)⟩⟩
  case round =>
    obtain ⟨k, rfl, rfl, hk, hk41, HW⟩ := hrel
    by_cases hlt : k < n
    · have hlt' : (k : Int) < (n : Int) := by omega
      by_cases h41 : k < 41
      · have h41' : (k : Int) < 41 := by omega
        obtain ⟨g, off, rfl, hc⟩ := HR.out.2.2 (by omega)
        obtain ⟨t, ht⟩ : ∃ t, ts[k]? = some t := ⟨ts[k]'(by have := HR.out.1; omega), List.getElem?_eq_getElem _⟩
        obtain ⟨hw, hb⟩ := HW.out
        subst hw
        obtain ⟨c1, c2⟩ := ActRow.cells hc ht
        have HT := hid ht
        have HB := hid hb
        obtain ⟨x1, hx1⟩ : ∃ x, strB t.repo = x := ⟨_, rfl⟩
        obtain ⟨x2, hx2⟩ : ∃ x, strB t.to = x := ⟨_, rfl⟩
        rw [hx1] at c1
        rw [hx2] at c2
        have HS := hid (⟨by rw [← hx1, strB_size], by rw [← hx2, strB_size]⟩ : x1.size = t.repo.length ∧ x2.size = t.to.length)
        clear hx1 hx2 ht hb hc HW
        by_cases l1 : 150 < x1.size
        · have l1' : (150 : Int) < (x1.size : Int) := by omega
          have HEnd := hid (show LongP w n ts (.returned (.bool true)) w from ⟨true, rfl, rfl, fun h => by cases h⟩)
          go_wp2_with fail
          go_ret
          exact HEnd.out
        · have l1' : ¬ (150 : Int) < (x1.size : Int) := by omega
          by_cases l2 : 150 < x2.size
          · have l2' : (150 : Int) < (x2.size : Int) := by omega
            have HEnd := hid (show LongP w n ts (.returned (.bool true)) w from ⟨true, rfl, rfl, fun h => by cases h⟩)
            go_wp2_with fail
            go_ret
            exact HEnd.out
          · have l2' : ¬ (150 : Int) < (x2.size : Int) := by omega
            have HB2 := hid (show ∀ (i : Nat) t, i < k + 1 → ts[i]? = some t → t.repo.length ≤ 150 ∧ t.to.length ≤ 150 from fun i u hi hu => by
              by_cases e : i = k
              · subst e
                rw [HT.out] at hu
                cases hu
                have := HS.out
                omega
              · exact HB.out i u (by omega) hu)
            go_wp2_with fail
            go_roundw
            case rel => exact ⟨k + 1, rfl, by go_num, by omega, by omega, hid ⟨by trivial, HB2.out⟩⟩
            case measure => simp [intOf]; omega
      · have h41' : ¬ (k : Int) < 41 := by omega
        obtain ⟨hw, hb⟩ := HW.out
        subst hw
        have hn : (40 : Int) < (n : Int) := by omega
        have HEnd := hid (show LongP w n ts (.returned (.bool true)) w from ⟨true, rfl, rfl, fun h => by cases h⟩)
        clear hb HW
        go_wp2_with fail
        go_ret
        exact HEnd.out
    · obtain rfl : k = n := by omega
      obtain ⟨hw, hb⟩ := HW.out
      subst hw
      obtain ⟨b, hb2⟩ : ∃ b, decide ((40 : Int) < (k : Int)) = b := ⟨_, rfl⟩
      have HEnd := hid (show LongP w k ts (.returned (.bool b)) w from ⟨b, rfl, rfl, fun h => by
        subst h
        have h40 : ¬ (40 : Int) < (k : Int) := by simpa using hb2
        refine ⟨by omega, fun i t ht => hb i t ?_ ht⟩
        have := (List.getElem?_eq_some_iff.1 ht).1
        have := HR.out.1
        omega⟩)
      clear hb HW
      go_wp2_with fail
      go_ret
      exact HEnd.out
end Go.Proofs.Ytjgnbmkhibdcfaa
