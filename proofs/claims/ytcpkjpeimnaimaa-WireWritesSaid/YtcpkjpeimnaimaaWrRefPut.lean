/- Contract: the form of a number, of the plain reference. -/
import Derived.Test.YtcpkjpeimnaimaaWrOwnW
import Derived.Test.YtcpkjpeimnaimaaWrPart
namespace Go.Proofs.Ytcpkjpeimnaimaa
open Go.RowKit

theorem refNum_small (n : Nat) (hn : n < 192) (w : World) :
    Calls Try.prog 61 #[.int .i64 (n : Int)] w fun e w' => ∃ v, e = .returned v ∧ Own w' w.heap.size 5 v 1 [UInt8.ofNat n] ∧ Below w.heap.size w w' := by
  have q0 : (n : Int) < 192 := by omega
  go_enter Try.func61, Try.ntmps61
  go_wp2_with fail
  go_ret
  exact ⟨_, rfl, Own.lit w 5 w.heap.size [UInt8.ofNat n] #[.int .u8 (n : Int)] 1 (by simp [bv]; omega) rfl (Nat.le_refl _) (by omega), below_new _ _⟩
set_option maxRecDepth 20000 in
theorem refNum_large (n : Nat) (hn : 192 ≤ n) (hn2 : n < 9223372036854775808) (w : World) :
    Calls Try.prog 61 #[.int .i64 (n : Int)] w fun e w' => ∃ v, e = .returned v ∧ Own w' w.heap.size 5 v (1 + kOf n) (UInt8.ofNat (191 + kOf n) :: beB (kOf n) n) ∧ Below w.heap.size w w' := by
  have q0 : ¬ (n : Int) < 192 := by omega
  obtain ⟨k1, k2, kl, kh⟩ := kOf_bounds (n := n) (by omega) (by omega)
  have HN := hid (show ∀ j, n / p256 j = 0 ↔ kOf n ≤ j from fun j => by
    rw [Nat.div_eq_zero_iff_lt (p256_pos j)]
    constructor
    · intro h
      rcases Nat.lt_or_ge j (kOf n) with hj | hj
      · have := p256_mono (show j ≤ kOf n - 1 by omega); omega
      · exact hj
    · intro h
      have := p256_mono h; omega)
  generalize hK : kOf n = K at k1 k2 kl kh HN ⊢
  generalize hR : UInt8.ofNat (191 + K) :: beB K n = R
  have HR := hid hR
  clear hK kl kh hR
  go_enter Try.func61, Try.ntmps61
  go_wp2_with fail
  go_loop [3] (fun i => ∃ k : Nat, 1 ≤ k ∧ k ≤ K ∧ i = .int .i64 (k : Int)) (fun i => K - (intOf i).toNat)
  case atStart => exact ⟨1, Nat.le_refl _, k1, rfl⟩
  case round =>
    obtain ⟨k, hk0, hk, rfl⟩ := hrel
    have hdiv : (n : Int) / 2 ^ (8 * k) = ((n / p256 k : Nat) : Int) := by rw [p256_two, Int.natCast_ediv, Int.natCast_pow]; rfl
    by_cases hkK : k < K
    · have q1 : (k : Int) < 8 := by omega
      have q2 : (0 : Int) < (n : Int) / 2 ^ (8 * k) := by
        have : n / p256 k ≠ 0 := fun h => by have := (HN.out k).1 h; omega
        rw [hdiv]
        exact_mod_cast Nat.pos_of_ne_zero this
      clear hdiv
      go_wp2_with fail
      go_round
      case rel => exact ⟨k + 1, by omega, by omega, by go_num⟩
      case measure => simp [intOf]; omega
    · obtain rfl : k = K := by omega
      have q2 : ¬ (0 : Int) < (n : Int) / 2 ^ (8 * k) := by
        have := (HN.out k).2 (by omega)
        rw [hdiv, this]
        simp
      clear hdiv
      have key := Own.lit w 5 w.heap.size [UInt8.ofNat (191 + k)] #[.int .u8 (191 + (k : Int))] 1 (by simp [bv]; omega) rfl (Nat.le_refl _) (by omega)
      have HO := hid key
      have HB := hid (below_new w (.cells #[.int .u8 (191 + (k : Int))] 5))
      clear key
      by_cases h8 : k < 8
      · have q1 : (k : Int) < 8 := by omega
        go_wp2_with fail
        generalize w.alloc (.cells #[.int .u8 (191 + (k : Int))] 5) = w1 at HO HB ⊢
        go_loopw [4, 5] (fun u i wr => ∃ m : Nat, m ≤ k ∧ i = .int .i64 ((k : Int) - 1 - (m : Int)) ∧ Hid (Own wr w.heap.size 5 u (1 + m) ([UInt8.ofNat (191 + k)] ++ (beB k n).take m)) ∧ Hid (Below w.heap.size w wr)) (fun _ i _ => (intOf i + 1).toNat)
        case atStart => exact ⟨0, Nat.zero_le _, by simp, by rw [List.take_zero, List.append_nil]; exact HO, HB⟩
        case round =>
          clear HO HB
          obtain ⟨m, hm, rfl, HO, HB⟩ := hrel
          by_cases hlt : m < k
          · have q3 : (0 : Int) ≤ (k : Int) - 1 - (m : Int) := by omega
            have q4 : (0 : Int) ≤ 8 * ((k : Int) - 1 - (m : Int)) := by omega
            go_wp2_with (at_builtin; refine Held.go ?_)
            refine wpList_push wr rfl _ _ _ rfl _ Try.underlying31 info5' w.heap.size u4 _ _ rfl HO.out (UInt8.ofNat (n / p256 (k - 1 - m))) _ (shr_byte _ _ _ (by omega)) rfl (by omega) HB.out.size ?_
            intro v' w' h1 h2 h3
            rw [take_snoc (beB_at hlt), Nat.add_assoc] at h1
            have H4 := hid h1
            have H5 := hid (HB.out.trans (below_of_grown h2 HB.out.size (fun g e => (HO.out.block g e).1)))
            clear h1 h2 h3 HO HB
            go_wp2_with fail
            go_roundw
            case rel => exact ⟨m + 1, by omega, by go_num, H4, H5⟩
            case measure => simp [intOf]; omega
          · obtain rfl : m = k := by omega
            have q3 : ¬ (0 : Int) ≤ (m : Int) - 1 - (m : Int) := by omega
            have HO2 := hid (show Own wr w.heap.size 5 _ (1 + m) R from by
              rw [← HR.out]
              have := HO.out
              rw [List.take_of_length_le (by rw [beB_length]; omega)] at this
              exact this)
            clear HO
            go_wp2_with fail
            go_ret
            exact ⟨u4, rfl, HO2.out, HB.out⟩
      · have q1 : ¬ (k : Int) < 8 := by omega
        go_wp2_with fail
        generalize w.alloc (.cells #[.int .u8 (191 + (k : Int))] 5) = w1 at HO HB ⊢
        go_loopw [4, 5] (fun u i wr => ∃ m : Nat, m ≤ k ∧ i = .int .i64 ((k : Int) - 1 - (m : Int)) ∧ Hid (Own wr w.heap.size 5 u (1 + m) ([UInt8.ofNat (191 + k)] ++ (beB k n).take m)) ∧ Hid (Below w.heap.size w wr)) (fun _ i _ => (intOf i + 1).toNat)
        case atStart => exact ⟨0, Nat.zero_le _, by simp, by rw [List.take_zero, List.append_nil]; exact HO, HB⟩
        case round =>
          clear HO HB
          obtain ⟨m, hm, rfl, HO, HB⟩ := hrel
          by_cases hlt : m < k
          · have q3 : (0 : Int) ≤ (k : Int) - 1 - (m : Int) := by omega
            have q4 : (0 : Int) ≤ 8 * ((k : Int) - 1 - (m : Int)) := by omega
            go_wp2_with (at_builtin; refine Held.go ?_)
            refine wpList_push wr rfl _ _ _ rfl _ Try.underlying31 info5' w.heap.size u4 _ _ rfl HO.out (UInt8.ofNat (n / p256 (k - 1 - m))) _ (shr_byte _ _ _ (by omega)) rfl (by omega) HB.out.size ?_
            intro v' w' h1 h2 h3
            rw [take_snoc (beB_at hlt), Nat.add_assoc] at h1
            have H4 := hid h1
            have H5 := hid (HB.out.trans (below_of_grown h2 HB.out.size (fun g e => (HO.out.block g e).1)))
            clear h1 h2 h3 HO HB
            go_wp2_with fail
            go_roundw
            case rel => exact ⟨m + 1, by omega, by go_num, H4, H5⟩
            case measure => simp [intOf]; omega
          · obtain rfl : m = k := by omega
            have q3 : ¬ (0 : Int) ≤ (m : Int) - 1 - (m : Int) := by omega
            have HO2 := hid (show Own wr w.heap.size 5 _ (1 + m) R from by
              rw [← HR.out]
              have := HO.out
              rw [List.take_of_length_le (by rw [beB_length]; omega)] at this
              exact this)
            clear HO
            go_wp2_with fail
            go_ret
            exact ⟨u4, rfl, HO2.out, HB.out⟩
theorem refNum_calls (n : Nat) (hn : n < 9223372036854775808) (w : World) :
    Calls Try.prog 61 #[.int .i64 (n : Int)] w fun e w' => ∃ v, e = .returned v ∧ Own w' w.heap.size 5 v (encSize n) (enc n) ∧ Below w.heap.size w w' := by
  by_cases h : n < 192
  · rw [encSize_one h, enc, if_pos h]
    exact refNum_small n h w
  · rw [encSize_k (by omega), enc, if_neg h]
    exact refNum_large n (by omega) hn w
end Go.Proofs.Ytcpkjpeimnaimaa
/- Contracts: a writer of the plain reference: Put, NewWriter, Bytes. -/
namespace Go.Proofs.Ytcpkjpeimnaimaa
open Go.RowKit

/-- Block g is a writer of the plain reference. -/
def RwB (w : World) (base g : Nat) (r : Option Nat) (lim : Nat) (s : WS) : Prop :=
  ∃ A c, Blk w g 53 #[.int .i64 (lim : Int), .slice A s.bs.length c, .int .i64 (s.e : Int)] ∧ Own w base 5 (.slice A s.bs.length c) s.bs.length s.bs ∧ (Value.slice A s.bs.length c).ownBlock = r ∧ r ≠ some g ∧ base ≤ g ∧ s.bs.length ≤ lim ∧ lim ≤ 67108864
def RwPost (w : World) (base g : Nat) (r : Option Nat) (lim : Nat) (s' : WS) (e : Ending) (w' : World) : Prop :=
  e = .returned (.int .i64 (s'.e : Int)) ∧ ∃ r', RwB w' base g r' lim s' ∧ Chg (fp g r) w w' ∧ Moved w.heap.size r r'
section
variable {w w' : World} {base g : Nat} {r : Option Nat} {lim : Nat} {s : WS} {L : List Nat}
theorem RwB.fp_lt (h : RwB w base g r lim s) : ∀ b ∈ fp g r, base ≤ b ∧ b < w.heap.size := by
  obtain ⟨A, c, h1, h2, h3, h4, h5, h6⟩ := h
  intro b hb
  rw [mem_fp] at hb
  rcases hb with rfl | hb
  · exact ⟨h5, h1.lt⟩
  · exact h2.block b (h3.trans hb)
theorem RwB.chg (h : RwB w base g r lim s) (hc : Chg L w w') (hd : ∀ b ∈ fp g r, b ∉ L) : RwB w' base g r lim s := by
  obtain ⟨A, c, h1, h2, h3, h4, h5, h6⟩ := h
  exact ⟨A, c, h1.chg hc (hd g (fp_head g r)), h2.chg hc (fun b hb => hd b (fp_row (h3 ▸ hb))), h3, h4, h5, h6⟩
theorem RwB.keep (h : RwB w base g r lim s) (hb : Below w.heap.size w w') : RwB w' base g r lim s := h.chg (L := []) (Chg.of_below hb) (by simp)
theorem RwPost.drew {s' : WS} {e : Ending} (h : RwPost w base g r lim s' e w') : RwPost w base g r lim s' e w'.drew := by
  obtain ⟨he, r', h1, h2, h3⟩ := h
  exact ⟨he, r', h1, h2.drew, h3⟩
/-- the error is set -/
theorem RwB.fault (h : RwB w base g r lim s) (e : Nat) : RwB (w.setCell ⟨g, 2, none⟩ (.int .i64 (e : Int))) base g r lim { s with e := e } := by
  obtain ⟨A, c, h1, h2, h3, h4, h5, h6⟩ := h
  exact ⟨A, c, h1.set_ 2 _, h2.kept (grown_setCell w g 2 _) (.inr (by rw [h3]; exact h4)), h3, h4, h5, h6⟩
end
set_option maxHeartbeats 1000000 in
set_option maxRecDepth 20000 in
theorem refPut_calls (base g : Nat) (r : Option Nat) (lim : Nat) (s : WS) (B n c m c2 : Nat) (A A2 : Option Addr) (cs : List UInt8) (zs : List Int) (l : List Item) (w : World) (h : RwB w base g r lim s) (hs : SB w B A n cs) (hi : SI w A2 m zs) (hn : n ≤ 549755813888) (hm : m ≤ 549755813888)
    (h1 : anyNeg l = zs.any (fun z => decide (z < 0))) (h2 : anyNeg l = false → cs = flat l) :
    Calls Try.prog 18 #[.pointer (some ⟨g, 0, none⟩), .slice A n c, .slice A2 m c2] w (RwPost w base g r lim (putW lim s l)) := by
  have HH := hid h
  obtain ⟨A0, c0, hb, ho, hr, hne, hg, hl, hlim⟩ := h
  have d0 := hb.cell 0 rfl
  have d1 := hb.cell 1 rfl
  have d2 := hb.cell 2 rfl
  have f1 := hb.frozen 1
  have f2 := hb.frozen 2
  by_cases he : s.e = 0
  · rw [he] at d2
    have HI := hid hi; have HS := hid hs; have HN1 := hid h1; have HN2 := hid h2; have HO := hid ho; have HB := hid hb; have HR := hid hr; have HNE := hid hne; have HE := hid he
    clear hi hs h1 h2 ho hb hr hne he
    go_enter Try.func18, Try.ntmps18
    go_wp2_with fail
    go_loop [7] (fun i => ∃ k : Nat, k ≤ m ∧ i = .int .i64 (k : Int) ∧ Hid ((zs.take k).any (fun z => decide (z < 0)) = false)) (fun i => m - (intOf i).toNat)
    case atStart => exact ⟨0, Nat.zero_le _, rfl, (rfl : (zs.take 0).any _ = false)⟩
    case round =>
      obtain ⟨k, hk, rfl, HF⟩ := hrel
      by_cases hlt : k < m
      · obtain ⟨ib, io, z, rfl, hz, hcell⟩ := HI.out.at_ hlt
        have HTK := hid (show (zs.take (k + 1)).any (fun z => decide (z < 0)) = decide (z < 0) from by
          rw [List.take_add_one, hz, List.any_append, HF.out]; simp)
        have HM := hid (List.mem_of_getElem? hz)
        clear hz
        by_cases hneg : z < 0
        · have hp : putW lim s l = { s with e := 3 } := by
            unfold putW
            rw [if_neg (by rw [HE.out]; simp), if_pos (by rw [HN1.out]; exact List.any_eq_true.2 ⟨z, HM.out, by simp [hneg]⟩)]
          have HK := hid (show RwPost w base g r lim (putW lim s l) (.returned (.int .i64 3)) (w.setCell ⟨g, 2, none⟩ (.int .i64 3)) from by
            rw [hp]
            exact ⟨rfl, r, HH.out.fault 3, chg_set (fp_head g r) _ _, Moved.refl _ _⟩)
          have hb2 := (HB.out.set_ 2 (.int .i64 3)).cell 2 rfl
          clear hp
          go_wp2_with fail
          go_ret
          exact HK.out
        · have HF2 := hid (show (zs.take (k + 1)).any (fun z => decide (z < 0)) = false from by rw [HTK.out]; simp [hneg])
          go_wp2_with fail
          go_round
          case rel => exact ⟨k + 1, by omega, by go_num, HF2⟩
          case measure => simp [intOf]; omega
      · obtain rfl : k = m := by omega
        have hnn : anyNeg l = false := by rw [HN1.out, ← HF.out, List.take_of_length_le (by rw [HI.out.1]; omega)]
        have hcs := HN2.out hnn
        have hnl : n = (flat l).length := by rw [← hcs, HS.out.1]
        by_cases hbig : lim < s.bs.length + n
        · have q1 : (lim : Int) < (s.bs.length : Int) + (n : Int) := by omega
          have hp : putW lim s l = { s with e := 4 } := by
            unfold putW
            rw [if_neg (by rw [HE.out]; simp), if_neg (by rw [hnn]; simp), if_pos (by omega)]
          have HK := hid (show RwPost w base g r lim (putW lim s l) (.returned (.int .i64 4)) (w.setCell ⟨g, 2, none⟩ (.int .i64 4)) from by
            rw [hp]
            exact ⟨rfl, r, HH.out.fault 4, chg_set (fp_head g r) _ _, Moved.refl _ _⟩)
          have hb2 := (HB.out.set_ 2 (.int .i64 4)).cell 2 rfl
          clear hp hcs hnl
          go_wp2_with fail
          go_region
          go_wp2_with fail
          go_ret
          exact HK.out.drew
        · have q1 : ¬ (lim : Int) < (s.bs.length : Int) + (n : Int) := by omega
          have HP := hid (show putW lim s l = { s with bs := s.bs ++ cs } from by
            unfold putW
            rw [if_neg (by rw [HE.out]; simp), if_neg (by rw [hnn]; simp), if_neg (by omega), hcs])
          have HCL := hid (show (s.bs ++ cs).length = s.bs.length + n from by rw [List.length_append, HS.out.1])
          have hlb := HB.out.lt
          clear hcs hnl
          go_wp2_with fail
          go_region
          go_wp2_with (at_builtin; refine Held.go ?_)
          refine wpList_append_bytes w.drew rfl _ _ _ rfl _ Try.underlying31 info5' base (.slice A0 s.bs.length c0) s.bs.length s.bs rfl HO.out B _ n c cs rfl HS.out (by omega) (show base ≤ w.heap.size by omega) ?_
          intro v' w2 o2 g2 m2
          obtain ⟨A3, c3, rfl, -, -, -⟩ := o2.sb
          have hb2 := (show Blk w.drew g _ _ from HB.out).grown g2 (by rw [HR.out]; exact HNE.out)
          have e1 := hb2.cell 1 rfl
          have f1 := hb2.frozen 1
          have key : RwPost w base g r lim (putW lim s l) (.returned (.int .i64 0)) (w2.setCell ⟨g, 1, none⟩ (.slice A3 (s.bs.length + n) c3)) := by
            rw [HP.out]
            have m3 : Moved w.heap.size r (Value.slice A3 (s.bs.length + n) c3).ownBlock := by
              rcases m2 with m2 | m2
              · exact .inl (m2.trans HR.out)
              · exact .inr ⟨_, m2, Nat.le_refl _⟩
            have hne2 : (Value.slice A3 (s.bs.length + n) c3).ownBlock ≠ some g := by
              rcases m3 with m3 | ⟨x, m3, hx⟩
              · rw [m3]; exact HNE.out
              · rw [m3]; intro e; cases e; omega
            refine ⟨by rw [show ({ s with bs := s.bs ++ cs } : WS).e = s.e from rfl, HE.out]; rfl, _, ⟨A3, c3, ?_, ?_, rfl, ?_, hg, ?_, hlim⟩, (Chg.of_grown (L := fp g r) g2 (fun x e => fp_row (HR.out ▸ e))).from_drew.trans (chg_set (fp_head g r) 1 _) (fun b hb => .inl hb), ?_⟩
            · have := hb2.set_ 1 (.slice A3 (s.bs.length + n) c3)
              rw [HE.out] at this
              simp only [HCL.out, HE.out]
              exact this
            · simp only [HCL.out]
              exact o2.kept (grown_setCell w2 g 1 _) (.inr hne2)
            · simp only [HCL.out]; exact hne2
            · simp only [HCL.out]; omega
            · simp only [HCL.out]; exact m3
          have HK := hid key
          clear key o2 g2 m2 d1
          go_wp2_with fail
          go_ret
          exact HK.out
  · have HK := hid (show RwPost w base g r lim (putW lim s l) (.returned (.int .i64 (s.e : Int))) w from by
      rw [show putW lim s l = s from by unfold putW; rw [if_pos he]]
      exact ⟨rfl, r, HH.out, Chg.refl _ _, Moved.refl _ _⟩)
    have he' : ¬ (s.e : Int) = 0 := by omega
    clear hb ho
    generalize putW lim s l = s' at HK ⊢
    go_enter Try.func18, Try.ntmps18
    go_wp2_with fail
    go_ret
    exact HK.out
end Go.Proofs.Ytcpkjpeimnaimaa
/- Contracts: a writer of the plain reference: Done. -/
namespace Go.Proofs.Ytcpkjpeimnaimaa
open Go.RowKit
section
variable (base g : Nat) (r : Option Nat) (lim : Nat) (s : WS) (w : World)
theorem refDone_failed (h : RwB w base g r lim s) (he : s.e ≠ 0) :
    Calls Try.prog 30 #[.pointer (some ⟨g, 0, none⟩)] w fun e w' => e = .returned (.tuple #[.slice none 0 0, .int .i64 (s.e : Int)]) ∧ Below w.heap.size w w' := by
  obtain ⟨A0, c0, hb, ho, hr, hne, hg, hl, hlim⟩ := h
  have d2 : w.cell? ⟨g, 2, none⟩ = some (.int .i64 (s.e : Int)) := hb.cell 2 rfl
  have he' : ¬ (s.e : Int) = 0 := by omega
  clear hb ho
  go_enter Try.func30, Try.ntmps30
  go_wp2_with fail
  go_region
  go_wp2_with fail
  go_ret2
  exact ⟨rfl, (Below.refl _ _).drew⟩
set_option maxRecDepth 20000 in
theorem refDone_open (h : RwB w base g r lim s) (he : s.e = 0) :
    Calls Try.prog 30 #[.pointer (some ⟨g, 0, none⟩)] w fun e w' => ∃ v, e = .returned (.tuple #[v, .int .i64 0]) ∧ Own w' w.heap.size 5 v s.bs.length s.bs ∧ Below w.heap.size w w' := by
  obtain ⟨A0, c0, hb, ho, hr, hne, hg, hl, hlim⟩ := h
  have d1 : w.cell? ⟨g, 1, none⟩ = some (.slice A0 s.bs.length c0) := hb.cell 1 rfl
  have hlt := hb.lt
  have d2 : w.cell? ⟨g, 2, none⟩ = some (.int .i64 (s.e : Int)) := hb.cell 2 rfl
  rw [he] at d2
  obtain ⟨A1, c1, e1, -, hs, -⟩ := ho.sb
  injection e1 with e1 _ e3
  subst e1 e3
  have HS := hid hs
  have hb1 := below_new w (.cells #[] 5)
  have ho1 := Own.lit w 5 w.heap.size [] #[] 0 rfl rfl (Nat.le_refl _) (by omega)
  have B1 := hid hb1; have O1 := hid ho1
  clear hb ho hs hb1 ho1
  go_enter Try.func30, Try.ntmps30
  go_wp2_with (at_builtin; refine Held.go ?_)
  refine wpList_append_bytes _ rfl _ _ _ rfl _ Try.underlying31 info5' w.heap.size (.slice (some ⟨w.heap.size, 0, none⟩) 0 0) 0 [] rfl O1.out _ A0 s.bs.length c0 s.bs rfl (HS.out.keep B1.out) (by omega) B1.out.size ?_
  intro v' w' h1 h2 h3
  have HK := hid (show Own w' w.heap.size 5 v' s.bs.length s.bs ∧ Below w.heap.size w w' from ⟨by simpa using h1, B1.out.trans (below_of_grown h2 B1.out.size (fun g e => (O1.out.block g e).1))⟩)
  clear h1 h2 h3
  go_wp2_with fail
  go_ret2
  exact ⟨v', rfl, HK.out⟩
end
end Go.Proofs.Ytcpkjpeimnaimaa
