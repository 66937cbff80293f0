/- Contract: the law's own 'awake': true. -/
import Derived.Test.YtpnobkeeebigeaaOpens
import Derived.Test.YtpnobkeeebigeaaStr
namespace Go.Proofs.Ytpnobkeeebigeaa
open Go.RowKit Crc

def d19 : List UInt8 := [49, 50, 51, 52, 53, 54, 55, 56, 57]
def d14 : List UInt8 := [49, 50, 51, 52]
def d59 : List UInt8 := [53, 54, 55, 56, 57]
theorem sum_19 : ((sum d19).toNat : Int) = 3421780262 := by unfold d19; decide +kernel
theorem more_59 : ((more (sum d14) d59).toNat : Int) = 3421780262 := by unfold d14 d59; decide +kernel

theorem opens_true (B n c B' n' c' : Nat) (A A' : Option Addr) (bs want : List UInt8) (k : Int) (w : World) (h : (openB bs == want && openE bs == k) = true) (hs : SB w B A n bs) (hw : SB w B' A' n' want) (hn : n ≤ 549755813888) (hc : n ≤ c) :
    Calls Try.prog 18 #[.slice A n c, .slice A' n' c', .int .i64 k] w fun e w' => e = .returned (.bool true) ∧ Below w.heap.size w w' := by
  have := opens_calls B n c B' n' c' A A' bs want k w hs hw hn hc
  rwa [h] at this

theorem awake_calls (w : World) : Calls Try.prog 7 #[] w fun e w' => e = .returned (.bool true) ∧ Below w.heap.size w w' := by
  have e1 : (((sum d19).toNat : Int) == 3421780262) = true := by rw [sum_19]; rfl
  have e2 : (((more (sum d14) d59).toNat : Int) == 3421780262) = true := by rw [more_59]; rfl
  go_enter Try.func7, Try.ntmps7
  go_wp2_with fail
  refine upon_text w 22 5 Try.underlying22 Try.underlying5 _ d19 rfl 9 rfl ?_
  intro w1 s1 b1
  go_wp2_with fail
  refine (sum_calls _ 9 9 _ d19 _ s1 (by omega)).mono ?_
  rintro e w2 ⟨rfl, b2⟩
  have B2 := hid (b1.trans (b2.mono b1.size)); clear b1 b2 s1
  go_wp2_with fail
  refine upon_text w2 22 5 Try.underlying22 Try.underlying5 _ d14 rfl 4 rfl ?_
  intro w3 s3 b3
  go_wp2_with fail
  refine (sum_calls _ 4 4 _ d14 _ s3 (by omega)).mono ?_
  rintro e w4 ⟨rfl, b4⟩
  have B4 := hid (B2.out.trans ((b3.trans (b4.mono b3.size)).mono B2.out.size)); clear b3 b4 s3 B2
  go_wp2_with fail
  refine upon_text w4 22 5 Try.underlying22 Try.underlying5 _ d59 rfl 5 rfl ?_
  intro w5 s5 b5
  go_wp2_with fail
  refine (more_calls (sum d14) _ 5 5 _ d59 _ s5 (by omega)).mono ?_
  rintro e w6 ⟨rfl, b6⟩
  have B6 := hid (B4.out.trans ((b5.trans (b6.mono b5.size)).mono B4.out.size)); clear b5 b6 s5 B4
  go_wp2_with fail
  refine (opens_true _ 4 4 _ 0 0 _ none [0, 0, 0, 0] [] 0 _ (by decide +kernel) (lit_sb w6 5 [0, 0, 0, 0] _ 4 rfl rfl) (SB.nil _ 0 _) (by omega) (by omega)).mono ?_
  rintro e w7 ⟨rfl, b7⟩
  have B7 := hid (B6.out.trans (((below_new w6 _).trans (b7.mono (by rw [size_new]; omega))).mono B6.out.size)); clear b7 B6
  go_wp2_with fail
  refine (opens_true _ 3 3 _ 0 0 _ none [0, 0, 0] [] 6 _ (by decide +kernel) (lit_sb w7 5 [0, 0, 0] _ 3 rfl rfl) (SB.nil _ 0 _) (by omega) (by omega)).mono ?_
  rintro e w8 ⟨rfl, b8⟩
  have B8 := hid (B7.out.trans (((below_new w7 _).trans (b8.mono (by rw [size_new]; omega))).mono B7.out.size)); clear b8 B7
  go_wp2_with fail
  go_ret
  exact ⟨rfl, B8.out⟩
end Go.Proofs.Ytpnobkeeebigeaa
