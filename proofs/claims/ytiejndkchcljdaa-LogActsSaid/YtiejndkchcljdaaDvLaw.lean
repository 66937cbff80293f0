/- Contracts: what the laws of device ask: full, puts, reads, image; the kit's SameBytes. -/
import Derived.Test.YtiejndkchcljdaaDvApi
import Derived.Test.YtiejndkchcljdaaGuard
namespace Go.Proofs.Ytiejndkchcljdaa
open Go.RowKit

theorem sameBytes_calls (B n c B' n' c' : Nat) (A A' : Option Addr) (xs bs : List UInt8) (w : World) (ha : SB w B A n xs) (hb : SB w B' A' n' bs) :
    Calls Try.prog 69 #[.slice A n c, .slice A' n' c'] w fun e w' => e = .returned (.bool (xs == bs)) ∧ w = w' := by
  have h1 := run_str (P := Try.prog) ha c 34 9 5 Try.underlying34 Try.underlying5 Try.underlying9
  have h2 := run_str (P := Try.prog) hb c' 34 9 5 Try.underlying34 Try.underlying5 Try.underlying9
  go_enter Try.func69, Try.ntmps69
  go_wp2_with fail
  go_ret
  exact ⟨ret_bool (strB_eq xs bs), rfl⟩
/-- bytes of one kind ahead, noughts behind -/
def fillB (b : UInt8) (n k : Nat) : List UInt8 := List.replicate k b ++ List.replicate (n - k) 0
theorem fillB_zero (b : UInt8) (n : Nat) : fillB b n 0 = List.replicate n 0 := by simp [fillB]
theorem fillB_full (b : UInt8) (n : Nat) : fillB b n n = List.replicate n b := by simp [fillB]
theorem fillB_next (b : UInt8) (n k : Nat) (h : k < n) : (fillB b n k).set k b = fillB b n (k + 1) := by
  have e : List.replicate (n - k) (0 : UInt8) = 0 :: List.replicate (n - (k + 1)) 0 := by rw [show n - k = (n - (k + 1)) + 1 by omega, List.replicate_succ]
  simp only [fillB, e]
  rw [List.set_append_right _ _ (by simp)]
  simp only [List.length_replicate, Nat.sub_self, List.set_cons_zero]
  rw [List.replicate_succ', List.append_assoc]; rfl
section
variable (base g : Nat) (F : List Nat) (s : DS) (w : World)
def putB (b : UInt8) : List UInt8 := List.replicate 64 b
def okB (e : Nat) : Bool := decide (e = 0)
theorem okB_eq (e : Nat) : (((e : Int)) == 0) = okB e := by
  unfold okB
  by_cases h : e = 0
  · subst h; rfl
  · have : ¬ (e : Int) = 0 := by omega
    simp [h]
theorem DevPost.fresh {w1 w2 : World} {s' : DS} {v : Value} {e : Ending} (k1 : Below w.heap.size w w1) (h : DevPost w1 base F g s' v e w2) : DevPost w base F g s' v e w2 := by
  obtain ⟨he, F', h1, h2, h3⟩ := h
  exact ⟨he, F', h1, (Chg.of_below k1).trans h2 (fun b hb => .inl hb), fun b hb => (h3 b hb).imp id (fun hh => Nat.le_trans k1.size hh)⟩
end
end Go.Proofs.Ytiejndkchcljdaa
/- Contracts: what the laws of device ask: reads, image. -/
namespace Go.Proofs.Ytiejndkchcljdaa
open Go.RowKit

def twoB (f : UInt8) (n : Nat) (t : UInt8) : List UInt8 := List.replicate n f ++ List.replicate (64 - n) t
end Go.Proofs.Ytiejndkchcljdaa
