/- Contract: wire.parseNumber. -/
import Derived.Test.YtcpkjpeimnaimaaWrLen
import Derived.Test.YtcpkjpeimnaimaaWrMem
import Derived.Laws.BitsAllLaws
namespace Go.Proofs.Ytcpkjpeimnaimaa
open Go.RowKit

/-- what parseNumber hands back -/
def decV (x : Nat × Nat × Nat) : Value := .tuple #[.int .i64 (x.1 : Int), .int .i64 (x.2.1 : Int), .int .i64 (x.2.2 : Int)]
theorem parse_nil (c : Nat) (A : Option Addr) (w : World) :
    Calls Try.prog 74 #[.slice A 0 c] w fun e w' => e = .returned (decV (decN [])) ∧ w = w' := by
  go_enter Try.func74, Try.ntmps74
  go_wp2_with fail
  go_ret3
  exact ⟨rfl, rfl⟩
set_option maxRecDepth 20000 in
theorem parse_head (b : UInt8) (bs : List UInt8) (n c B : Nat) (A : Option Addr) (w : World) (hs : SB w B A n (b :: bs)) (hb : b.toNat ≤ 191 ∨ 199 < b.toNat ∨ bs.length < b.toNat - 191) :
    Calls Try.prog 74 #[.slice A n c] w fun e w' => e = .returned (decV (decN (b :: bs))) ∧ w = w' := by
  have hl : bs.length + 1 = n := by simpa using hs.1
  obtain ⟨bb, off, x, rfl, -, hx, hc⟩ := hs.at_ (k := 0) (by omega)
  simp only [List.getElem?_cons_zero, Option.some.injEq] at hx
  subst hx
  rw [Nat.add_zero] at hc
  have hbl := b.toNat_lt
  have q1 : ¬ (n : Int) = 0 := by omega
  have q2 : 0 < n := by omega
  generalize hd : decN (b :: bs) = D
  simp only [decN] at hd
  clear hs
  generalize b.toNat = m at *
  by_cases h1 : m ≤ 191
  · rw [if_pos h1] at hd
    have HD := hid hd; clear hd
    have q3 : (m : Int) ≤ 191 := by omega
    go_enter Try.func74, Try.ntmps74
    go_wp2_with fail
    go_ret3
    exact ⟨by rw [← HD.out]; rfl, rfl⟩
  · rw [if_neg h1] at hd
    have q3 : ¬ (m : Int) ≤ 191 := by omega
    by_cases h2 : 199 < m
    · rw [if_pos h2] at hd
      have HD := hid hd; clear hd
      have q4 : (9 : Int) < 1 + (m : Int) - 191 := by omega
      go_enter Try.func74, Try.ntmps74
      go_wp2_with fail
      go_ret3
      exact ⟨by rw [← HD.out]; rfl, rfl⟩
    · rw [if_neg h2] at hd
      have h3 : bs.length < m - 191 := by omega
      rw [if_pos h3] at hd
      have HD := hid hd; clear hd
      have q4 : ¬ (9 : Int) < 1 + (m : Int) - 191 := by omega
      have q5 : (n : Int) < 1 + (m : Int) - 191 := by omega
      go_enter Try.func74, Try.ntmps74
      go_wp2_with fail
      go_ret3
      exact ⟨by rw [← HD.out]; rfl, rfl⟩
theorem take_next_v (l : List UInt8) (k : Nat) (x : UInt8) (h : l[k]? = some x) : (l.take (k + 1)).foldl (fun x c => x * 256 + c.toNat) 0 = (l.take k).foldl (fun x c => x * 256 + c.toNat) 0 * 256 + x.toNat := by
  rw [List.take_add_one, h, List.foldl_append]; rfl
theorem shl_or (x c : Nat) (hc : c < 256) : x * 256 ||| c = x * 256 + c := by
  have := Nat.shiftLeft_add_eq_or_of_lt (i := 8) (b := c) (by omega) x
  rw [Nat.shiftLeft_eq] at this
  exact this.symm
set_option maxRecDepth 20000 in
set_option maxHeartbeats 1000000 in
theorem parse_long (b : UInt8) (bs : List UInt8) (n c B : Nat) (A : Option Addr) (w : World) (hs : SB w B A n (b :: bs)) (hnc : n ≤ c) (h1 : 191 < b.toNat) (h2 : b.toNat ≤ 199) (h3 : b.toNat - 191 ≤ bs.length) (hn : n ≤ 1099511627776) :
    Calls Try.prog 74 #[.slice A n c] w fun e w' => e = .returned (decV (decN (b :: bs))) ∧ w = w' := by
  have hl : bs.length + 1 = n := by simpa using hs.1
  obtain ⟨bb, off, x, rfl, -, hx, hc⟩ := hs.at_ (k := 0) (by omega)
  simp only [List.getElem?_cons_zero, Option.some.injEq] at hx
  subst hx
  rw [Nat.add_zero] at hc
  have hcell : ∀ j y, bs[j]? = some y → w.cell? ⟨bb, off + 1 + j, none⟩ = some (bv y) := fun j y hj => by
    obtain ⟨b', off', e', _, hxx⟩ := hs.2 (by omega)
    cases e'
    have := hxx (j + 1) y (by rw [List.getElem?_cons_succ]; exact hj)
    rw [Nat.add_assoc, Nat.add_comm 1 j]; exact this
  generalize hd : decN (b :: bs) = D
  simp only [decN] at hd
  clear hs
  generalize b.toNat = m at *
  obtain ⟨K, hK⟩ : ∃ K, m - 191 = K := ⟨_, rfl⟩
  rw [hK] at hd h3
  rw [if_neg (by omega), if_neg (by omega), if_neg (by omega)] at hd
  have HD := hid hd; have HC := hid hcell; have HK := hid hK
  have hm : (m : Int) = (K : Int) + 191 := by omega
  have HM := hid hm
  clear hd hcell
  have q1 : ¬ (n : Int) = 0 := by omega
  have q2 : 0 < n := by omega
  have q3 : ¬ (m : Int) ≤ 191 := by omega
  have q4 : ¬ (9 : Int) < 1 + (m : Int) - 191 := by omega
  have q5 : ¬ (n : Int) < 1 + (m : Int) - 191 := by omega
  have q6 : (1 : Int) ≤ 1 + (m : Int) - 191 := by omega
  have q7 : 1 + (m : Int) - 191 ≤ (c : Int) := by omega
  have q8 : (0 : Int) ≤ 1 + (m : Int) - 191 := by omega
  clear hm hK h1 h2 h3
  go_enter Try.func74, Try.ntmps74
  go_wp2_with fail
  rw [show 1 + m - 191 - 1 = K from by have := HM.out; omega]
  have HL := hid (show K ≤ bs.length from by have := HM.out; omega)
  have hK8 : K ≤ 8 := by have := HM.out; omega
  go_loop [5, 7, 35] (fun x _ i => ∃ k : Nat, k ≤ K ∧ i = .int .i64 (k : Int) ∧ x = .int .u64 (valB (bs.take k) : Int)) (fun _ _ i => K - (intOf i).toNat)
  case atStart => exact ⟨0, by omega, rfl, rfl⟩
  case round =>
    obtain ⟨k, hk, rfl, rfl⟩ := hrel
    by_cases hlt : k < K
    · have q9 : (k : Int) < (K : Int) := by omega
      have hbl : k < bs.length := by have := HL.out; omega
      have hy : bs[k]? = some bs[k] := List.getElem?_eq_getElem hbl
      have hcy := HC.out k _ hy
      have HS := hid (show valB (bs.take (k + 1)) = valB (bs.take k) * 256 + (bs[k]).toNat from by rw [valB, take_next_v _ _ _ hy]; rfl)
      have hv := valB_lt (bs.take k)
      rw [List.length_take, Nat.min_eq_left (by omega)] at hv
      have hv2 : valB (bs.take k) < 72057594037927936 := Nat.lt_of_lt_of_le hv (p256_mono (k := 7) (by omega))
      clear hv hy
      have hyl := (bs[k]).toNat_lt
      simp only [bv] at hcy
      generalize valB (bs.take k) = V at HS hv2 ⊢
      generalize (bs[k]).toNat = y at HS hcy hyl ⊢
      have HO := hid (show bits .or .u64 ((V : Int) * 256) (y : Int) = ((V * 256 + y : Nat) : Int) from by
        have := u64_or_nat (V * 256) y (by omega) (by omega)
        rw [shl_or V y (by omega), Int.natCast_mul] at this
        exact this)
      go_wp2_with fail
      go_round
      case rel => exact ⟨k + 1, by omega, by go_num, val_int (by rw [HO.out, HS.out])⟩
      case measure => simp [intOf]; omega
    · obtain rfl : k = K := by omega
      have q9 : ¬ (k : Int) < (k : Int) := by omega
      have HSK := hid (size_calls (valB (bs.take k)))
      generalize valB (bs.take k) = V at HD HSK ⊢
      by_cases hV : 9223372036854775808 ≤ V
      · have hd := HD.out
        rw [if_pos (.inl hV)] at hd
        have HD := hid hd; clear hd
        have q10 : (9223372036854775807 : Int) < (V : Int) := by omega
        go_wp2_with fail
        go_ret3
        exact ⟨by rw [← HD.out]; rfl, rfl⟩
      · have q10 : ¬ (9223372036854775807 : Int) < (V : Int) := by omega
        have HS2 := hid (fun w => HSK.out w (by omega))
        generalize encSize V = E at HD HS2
        go_wp2_with fail
        refine (HS2.out w).mono ?_
        rintro _ _ ⟨rfl, rfl⟩
        by_cases hE : E = 1 + k
        · have hd := HD.out
          rw [if_neg (by omega)] at hd
          have HD := hid hd; clear hd
          have q11 : (E : Int) = 1 + (m : Int) - 191 := by have := HM.out; omega
          have HQ := hid (show 1 + (m : Int) - 191 = ((1 + k : Nat) : Int) from by have := HM.out; omega)
          clear hE
          go_wp2_with fail
          go_ret3
          exact ⟨by rw [← HD.out, decV, ← HQ.out]; rfl, rfl⟩
        · have hd := HD.out
          rw [if_pos (.inr hE)] at hd
          have HD := hid hd; clear hd
          have q11 : ¬ (E : Int) = 1 + (m : Int) - 191 := by have := HM.out; omega
          clear hE
          go_wp2_with fail
          go_ret3
          exact ⟨by rw [← HD.out]; rfl, rfl⟩
theorem parse_calls (bs : List UInt8) (n c B : Nat) (A : Option Addr) (w : World) (hs : SB w B A n bs) (hnc : n ≤ c) (hn : n ≤ 1099511627776) :
    Calls Try.prog 74 #[.slice A n c] w fun e w' => e = .returned (decV (decN bs)) ∧ w = w' := by
  cases bs with
  | nil =>
    obtain rfl : n = 0 := hs.1.symm
    exact parse_nil c A w
  | cons b bs =>
    by_cases h : b.toNat ≤ 191 ∨ 199 < b.toNat ∨ bs.length < b.toNat - 191
    · exact parse_head b bs n c B A w hs h
    · exact parse_long b bs n c B A w hs hnc (by omega) (by omega) (by omega) hn
end Go.Proofs.Ytcpkjpeimnaimaa
