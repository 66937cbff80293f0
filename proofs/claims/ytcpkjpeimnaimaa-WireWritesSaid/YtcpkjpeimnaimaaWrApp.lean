/- Contract: wire.appendNumber. -/
import Derived.Test.YtcpkjpeimnaimaaWrLen
import Derived.Test.YtcpkjpeimnaimaaWrMem
import Derived.Test.YtcpkjpeimnaimaaKit0
namespace Go.Proofs.Ytcpkjpeimnaimaa
open Go.RowKit

theorem byte_num (n : Nat) (h : n < 256) : (n : Int) = ((UInt8.ofNat n).toNat : Int) := by rw [ofNat_lt h]
theorem beB_at {k n i : Nat} (h : i < k) : (beB k n)[i]? = some (UInt8.ofNat (n / p256 (k - 1 - i))) := by simp [beB, h]
theorem take_snoc {l : List UInt8} {i : Nat} {b : UInt8} (h : l[i]? = some b) (xs : List UInt8) : xs ++ l.take i ++ [b] = xs ++ l.take (i + 1) := by
  rw [List.append_assoc]
  congr 1
  rw [List.take_add_one, h]; rfl
theorem append_small (n : Nat) (hn : n < 192) (base m : Nat) (v : Value) (bs : List UInt8) (w : World) (ho : Own w base 5 v m bs) (hb : base ≤ w.heap.size) (hm : m ≤ 549755813888) :
    Calls Try.prog 81 #[v, .int .i64 (n : Int)] w fun e w' => ∃ v', e = .returned v' ∧ Own w' base 5 v' (m + 1) (bs ++ [UInt8.ofNat n]) ∧ w.grownBy w' v.ownBlock ∧ Moved w.heap.size v.ownBlock v'.ownBlock := by
  have q0 : (n : Int) ≤ 191 := by omega
  have HO := hid ho; clear ho
  go_enter Try.func81, Try.ntmps81
  go_wp2_with (at_builtin; refine Held.go ?_)
  refine wpList_push w rfl _ _ _ rfl _ Try.underlying31 info5' base v m bs rfl HO.out (UInt8.ofNat n) _ (byte_num n (by omega)) rfl (by omega) hb ?_
  intro v' w' h1 h2 h3
  have H := hid (show Own w' base 5 v' (m + 1) (bs ++ [UInt8.ofNat n]) ∧ w.grownBy w' v.ownBlock ∧ Moved w.heap.size v.ownBlock v'.ownBlock from ⟨h1, h2, h3⟩)
  clear h1 h2 h3
  go_wp2_with fail
  go_ret
  exact ⟨v', rfl, H.out⟩
theorem shr_byte (n j e : Nat) (he : e = 8 * j) : (n : Int) / 2 ^ e % 256 = ((UInt8.ofNat (n / p256 j)).toNat : Int) := by
  rw [UInt8.toNat_ofNat', p256_two, he]
  have h : ((n / 2 ^ (8 * j) : Nat) : Int) = (n : Int) / 2 ^ (8 * j) := by rw [Int.natCast_ediv, Int.natCast_pow]; rfl
  rw [← h]
  omega
theorem append_large (n K : Nat) (hK : kOf n = K) (hn : 192 ≤ n) (hn2 : n < 9223372036854775808) (base m M : Nat) (hM : M = m + 1 + K) (v : Value) (bs R : List UInt8) (hR : R = bs ++ [UInt8.ofNat (191 + K)] ++ beB K n) (w : World) (ho : Own w base 5 v m bs) (hb : base ≤ w.heap.size) (hm : m ≤ 549755813888) :
    Calls Try.prog 81 #[v, .int .i64 (n : Int)] w fun e w' => ∃ v', e = .returned v' ∧ Own w' base 5 v' M R ∧ w.grownBy w' v.ownBlock ∧ Moved w.heap.size v.ownBlock v'.ownBlock := by
  have q0 : ¬ (n : Int) ≤ 191 := by omega
  have HO := hid ho; clear ho
  obtain ⟨k1, k2, -, -⟩ := kOf_bounds (n := n) (by omega) (by omega)
  have hs := encSize_k hn
  rw [hK] at k1 k2 hs
  generalize hS : encSize n = S at hs
  have HS := hid hS
  have Hs := hid hs
  have HR := hid hR
  have HM := hid hM
  have s1 : 2 ≤ S := by omega
  have s2 : S ≤ 9 := by omega
  clear hS hs hR hM hK
  go_enter Try.func81, Try.ntmps81
  go_wp2_with fail
  refine (size_calls n w hn2).mono ?_
  rintro _ _ ⟨rfl, rfl⟩
  rw [HS.out]
  go_wp2_with (at_builtin; refine Held.go ?_)
  refine wpList_push w rfl _ _ _ rfl _ Try.underlying31 info5' base v m bs rfl HO.out (UInt8.ofNat (191 + K)) _ (by rw [ofNat_lt (by omega)]; have := Hs.out; omega) rfl (by omega) hb ?_
  intro v1 w1 h1 h2 h3
  have H1 := hid h1
  have H2 := hid (show w.grownBy w1 v.ownBlock ∧ Moved w.heap.size v.ownBlock v1.ownBlock from ⟨h2, h3⟩)
  have H3 := hid h2.size
  clear h1 h2 h3 HO
  go_wp2_with fail
  go_loopw [0, 6, 24] (fun u _ i wr => ∃ k : Nat, k ≤ K ∧ i = .int .i64 (k : Int) ∧ Hid (Own wr base 5 u (m + 1 + k) (bs ++ [UInt8.ofNat (191 + K)] ++ (beB K n).take k)) ∧ Hid (w.grownBy wr v.ownBlock ∧ Moved w.heap.size v.ownBlock u.ownBlock) ∧ Hid (w.heap.size ≤ wr.heap.size)) (fun _ _ i _ => K - (intOf i).toNat)
  case atStart => exact ⟨0, by omega, rfl, by rw [List.take_zero, List.append_nil]; exact H1, H2, H3⟩
  case round =>
    clear H1 H2 H3
    obtain ⟨k, hk, rfl, H1, H2, H3⟩ := hrel
    by_cases hlt : k < K
    · have q1 : (k : Int) < (S : Int) - 1 := by have := Hs.out; omega
      have q2 : 0 ≤ (8 : Int) * ((S : Int) - 1 - 1 - (k : Int)) := by omega
      go_wp2_with (at_builtin; refine Held.go ?_)
      refine wpList_push wr rfl _ _ _ rfl _ Try.underlying31 info5' base u0 _ _ rfl H1.out (UInt8.ofNat (n / p256 (K - 1 - k))) _ (shr_byte _ _ _ (by have := Hs.out; omega)) rfl (by omega) (Nat.le_trans hb H3.out) ?_
      intro v' w' h1 h2 h3
      rw [take_snoc (beB_at hlt), Nat.add_assoc (m + 1)] at h1
      have H4 := hid h1
      have H5 := hid (show w.grownBy w' v.ownBlock ∧ Moved w.heap.size v.ownBlock v'.ownBlock from ⟨grown_moved H2.out.1 H2.out.2 h2, H2.out.2.trans h3 H3.out⟩)
      have H6 := hid (Nat.le_trans H3.out h2.size)
      clear h1 h2 h3 H1 H2 H3
      go_wp2_with fail
      go_roundw
      case rel => exact ⟨k + 1, by omega, by go_num, H4, H5, H6⟩
      case measure => simp [intOf]; omega
    · obtain rfl : k = K := by omega
      have q1 : ¬ (k : Int) < (S : Int) - 1 := by have := Hs.out; omega
      rw [List.take_of_length_le (by rw [beB_length]; omega), ← HR.out, ← HM.out] at H1
      go_wp2_with fail
      go_ret
      exact ⟨_, rfl, H1.out, H2.out⟩
theorem append_calls (n : Nat) (hn : n < 9223372036854775808) (base m : Nat) (v : Value) (bs : List UInt8) (w : World) (ho : Own w base 5 v m bs) (hb : base ≤ w.heap.size) (hm : m ≤ 549755813888) :
    Calls Try.prog 81 #[v, .int .i64 (n : Int)] w fun e w' => ∃ v', e = .returned v' ∧ Own w' base 5 v' (m + encSize n) (bs ++ enc n) ∧ w.grownBy w' v.ownBlock ∧ Moved w.heap.size v.ownBlock v'.ownBlock := by
  by_cases h : n < 192
  · have := append_small n h base m v bs w ho hb hm
    rw [encSize_one h, enc, if_pos h]
    exact this
  · refine append_large n (kOf n) rfl (by omega) hn base m _ (by rw [encSize_k (by omega)]; omega) v bs _ ?_ w ho hb hm
    rw [enc, if_neg h, List.append_assoc]; rfl
end Go.Proofs.Ytcpkjpeimnaimaa
