/- Contracts: the law's own 'opens', and 'awake': true. -/
import Derived.Test.YtpnobkeeebigeaaOpen
namespace Go.Proofs.Ytpnobkeeebigeaa
open Go.RowKit Crc

theorem opens_calls (B n c B' n' c' : Nat) (A A' : Option Addr) (bs want : List UInt8) (k : Int) (w : World) (hs : SB w B A n bs) (hw : SB w B' A' n' want) (hn : n ≤ 549755813888) (hc : n ≤ c) :
    Calls Try.prog 18 #[.slice A n c, .slice A' n' c', .int .i64 k] w fun e w' => e = .returned (.bool (openB bs == want && openE bs == k)) ∧ Below w.heap.size w w' := by
  go_enter Try.func18, Try.ntmps18
  go_wp2_with fail
  refine (open_calls B n c A bs _ hs hn hc).mono ?_
  rintro e w1 ⟨hb, v, rfl, ho⟩
  obtain ⟨A1, c1, rfl, _, hs1, _⟩ := ho.sb
  have hw1 := hw.keep hb
  clear ho
  generalize (openB bs).length = n1 at hs1 ⊢
  go_wp2_with fail
  refine (sameBytes_calls _ _ _ _ _ _ _ _ _ _ _ hs1 hw1).mono ?_
  rintro e w2 ⟨rfl, rfl⟩
  cases h : (openB bs == want)
  · go_wp2_with fail
    go_ret
    exact ⟨ret_bool (a := false) (by rw [h, Bool.false_and]), hb⟩
  · go_wp2_with fail
    go_ret
    exact ⟨ret_bool (a := openE bs == k) (by rw [h, Bool.true_and]), hb⟩
end Go.Proofs.Ytpnobkeeebigeaa
