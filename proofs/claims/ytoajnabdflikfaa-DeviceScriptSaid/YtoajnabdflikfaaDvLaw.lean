/- Contracts: what the laws of device ask: full, puts, reads, image; the kit's SameBytes. -/
import Derived.Test.YtoajnabdflikfaaDvApi
import Derived.Test.YtoajnabdflikfaaGuard
namespace Go.Proofs.Ytoajnabdflikfaa
open Go.RowKit

theorem sameBytes_calls (B n c B' n' c' : Nat) (A A' : Option Addr) (xs bs : List UInt8) (w : World) (ha : SB w B A n xs) (hb : SB w B' A' n' bs) :
    Calls Try.prog 23 #[.slice A n c, .slice A' n' c'] w fun e w' => e = .returned (.bool (xs == bs)) ∧ w = w' := by
  have h1 := run_str (P := Try.prog) ha c 37 9 5 Try.underlying37 Try.underlying5 Try.underlying9
  have h2 := run_str (P := Try.prog) hb c' 37 9 5 Try.underlying37 Try.underlying5 Try.underlying9
  go_enter Try.func23, Try.ntmps23
  go_wp2_with fail
  go_ret
  exact ⟨ret_bool (strB_eq xs bs), rfl⟩
/-- bytes of one kind ahead, noughts behind -/
def fillB (b : UInt8) (n k : Nat) : List UInt8 := List.replicate k b ++ List.replicate (n - k) 0
theorem fillB_zero (b : UInt8) (n : Nat) : fillB b n 0 = List.replicate n 0 := by simp [fillB]
theorem fillB_full (b : UInt8) (n : Nat) : fillB b n n = List.replicate n b := by simp [fillB]
theorem fillB_next (b : UInt8) (n k : Nat) (h : k < n) : (fillB b n k).set k b = fillB b n (k + 1) := by
  have e : List.replicate (n - k) (0 : UInt8) = 0 :: List.replicate (n - (k + 1)) 0 := by rw [show n - k = (n - (k + 1)) + 1 by omega, List.replicate_succ]
  simp only [fillB, e]
  rw [List.set_append_right _ _ (by simp)]
  simp only [List.length_replicate, Nat.sub_self, List.set_cons_zero]
  rw [List.replicate_succ', List.append_assoc]; rfl
theorem full_calls (b : UInt8) (n : Nat) (hn : n ≤ 1099511627776) (w : World) :
    Calls Try.prog 33 #[.int .u8 (b.toNat : Int), .int .i64 (n : Int)] w fun e w' => ∃ v, e = .returned v ∧ Own w' w.heap.size 5 v n (List.replicate n b) ∧ Below w.heap.size w w' := by
  go_enter Try.func33, Try.ntmps33
  go_wp2_with (at_make; refine Held.go ?_)
  refine wpList_zeros_bytes _ rfl _ _ 37 rfl 5 Try.underlying37 info5' (n : Int) n rfl rfl rfl hn ?_
  intro w1 h1 b1
  have H1 := hid h1; have B1 := hid b1
  clear h1 b1
  go_wp2_with fail
  go_loopw [6] (fun i wr => ∃ k : Nat, k ≤ n ∧ i = .int .i64 (k : Int) ∧ Own wr w.heap.size 5 (.slice (some ⟨w.heap.size, 0, none⟩) n n) n (fillB b n k) ∧ Below w.heap.size w wr) (fun i _ => n - (intOf i).toNat)
  case atStart => exact ⟨0, Nat.zero_le _, rfl, by rw [fillB_zero]; exact H1.out, B1.out⟩
  case round =>
    obtain ⟨k, hk, rfl, ho, hg⟩ := hrel
    have HO := hid ho; have HG := hid hg; clear ho hg H1 B1
    by_cases hlt : k < n
    · have hl : k < (fillB b n k).length := by rw [HO.out.len]; exact hlt
      have hc := World.ownsRow.cellAt HO.out k (by omega)
      have hx : ((fillB b n k).map bv)[k]? = some (.int .u8 (((fillB b n k)[k].toNat : Nat) : Int)) := by simp [hl, bv]
      rw [hx] at hc; clear hx
      have hf := World.ownsRow.frozenAt HO.out k
      generalize (fillB b n k)[k] = x at hc
      have hst := hid (World.ownsRow.stored HO.out k (bv b))
      have HGB := hid (HG.out.size)
      go_wp2_with fail
      go_roundw
      case rel =>
        refine ⟨k + 1, by omega, by go_num, ?_, ?_⟩
        · have := hst.out.1
          rw [← List.map_set, fillB_next b n k hlt] at this
          exact this
        · exact HG.out.trans (below_of_grown hst.out.2 HG.out.size (fun g e => by cases e; exact Nat.le_refl _))
      case measure => simp [intOf]; omega
    · obtain rfl : k = n := by omega
      rw [fillB_full] at HO
      go_wp2_with fail
      go_ret
      exact ⟨_, rfl, HO.out, HG.out⟩
section
variable (base g : Nat) (F : List Nat) (s : DS) (w : World)
def putB (b : UInt8) : List UInt8 := List.replicate 64 b
def okB (e : Nat) : Bool := decide (e = 0)
theorem okB_eq (e : Nat) : (((e : Int)) == 0) = okB e := by
  unfold okB
  by_cases h : e = 0
  · subst h; rfl
  · have : ¬ (e : Int) = 0 := by omega
    simp [h]
theorem DevPost.fresh {w1 w2 : World} {s' : DS} {v : Value} {e : Ending} (k1 : Below w.heap.size w w1) (h : DevPost w1 base F g s' v e w2) : DevPost w base F g s' v e w2 := by
  obtain ⟨he, F', h1, h2, h3⟩ := h
  exact ⟨he, F', h1, (Chg.of_below k1).trans h2 (fun b hb => .inl hb), fun b hb => (h3 b hb).imp id (fun hh => Nat.le_trans k1.size hh)⟩
set_option maxHeartbeats 1000000 in
theorem puts_calls (i : Int) (b : UInt8) (h : DevB w base F g s) (hb : base ≤ w.heap.size) (hk : ∀ k, s.fuse = some k → k < 9223372036854775808) (hlo : s.loose.length ≤ 1000000) :
    Calls Try.prog 30 #[.pointer (some ⟨g, 0, none⟩), .int .i64 i, .int .u8 (b.toNat : Int)] w (DevPost w base F g (writeS s i (putB b)) (.bool (okB (writeE s i 64)))) := by
  have HW := hid (fun w1 v (hb1 : Below w.heap.size w w1) (ho : Own w1 w.heap.size 5 v 64 (List.replicate 64 b)) => show ∃ A2 c2, v = .slice A2 64 c2 ∧ Calls Try.prog 25 #[.pointer (some ⟨g, 0, none⟩), .int .i64 i, .slice A2 64 c2] w1 (DevPost w base F g (writeS s i (putB b)) (.int .i64 (writeE s i 64 : Int))) from by
    obtain ⟨A2, c2, e, _, hs, hblk⟩ := ho.sb
    refine ⟨A2, c2, e, (dWrite_calls base g F s w1 i w1.heap.size 64 c2 A2 _ (h.keep hb1) (Nat.le_trans hb hb1.size) hk hlo hs (fun b off e2 hm => ?_)).mono fun e w' hp => DevPost.fresh base g F w hb1 hp⟩
    have h1 := (hblk b (by rw [e, e2]; rfl)).1
    have h2 := (h.lt b hm).2
    omega)
  have HE := hid (okB_eq (writeE s i 64))
  clear h hb hk hlo
  generalize writeS s i (putB b) = s' at HW ⊢
  generalize writeE s i 64 = e' at HW HE ⊢
  have HF := hid (full_calls b 64 (by omega) w)
  go_enter Try.func30, Try.ntmps30
  go_wp2_with fail
  refine HF.out.mono ?_
  rintro _ w1 ⟨v, rfl, ho, hb⟩
  obtain ⟨A2, c2, rfl, hc⟩ := HW.out w1 v hb ho
  have HC := hid hc
  clear ho hb hc HW HF
  go_wp2_with fail
  refine HC.out.mono ?_
  rintro _ w2 ⟨rfl, hp⟩
  have HK := hid hp
  clear hp HC
  go_wp2_with fail
  go_ret
  exact ⟨by rw [← HE.out]; rfl, HK.out⟩
end
end Go.Proofs.Ytoajnabdflikfaa
/- Contracts: what the laws of device ask: reads, image. -/
namespace Go.Proofs.Ytoajnabdflikfaa
open Go.RowKit

def twoB (f : UInt8) (n : Nat) (t : UInt8) : List UInt8 := List.replicate n f ++ List.replicate (64 - n) t
set_option maxHeartbeats 2000000 in
theorem reads_calls (base g : Nat) (F : List Nat) (s : DS) (w : World) (i : Int) (f : UInt8) (n : Nat) (t : UInt8) (hn : n ≤ 64) (h : DevB w base F g s) :
    Calls Try.prog 32 #[.pointer (some ⟨g, 0, none⟩), .int .i64 i, .int .u8 (f.toNat : Int), .int .i64 (n : Int), .int .u8 (t.toNat : Int)] w fun e w' => e = .returned (.bool (okB (readE s i) && (readB s i == twoB f n t))) ∧ Below w.heap.size w w' := by
  have HA := hid (dRead_calls base g F s w i h)
  have HE := hid (okB_eq (readE s i))
  have HM := hid (show ((64 - n : Nat) : Int) = 64 - (n : Int) from by omega)
  clear h
  generalize readB s i = bs at HA ⊢
  generalize readE s i = er at HA HE ⊢
  by_cases he : er = 0
  · subst he
    have HF1 := hid (fun w => full_calls f n (by omega) w)
    have HF2 := hid (fun w => full_calls t (64 - n) (by omega) w)
    rw [HM.out] at HF2
    have hsub : IntKind.i64.wrap (64 - (n : Int)) = 64 - (n : Int) := IntWalk.i64_in _ (by omega)
    go_enter Try.func32, Try.ntmps32
    go_wp2_with fail
    refine HA.out.mono ?_
    rintro _ w1 ⟨v, rfl, ho, hb⟩
    obtain ⟨A1, c1, rfl, _, hs1, _⟩ := ho.sb
    have HS := hid hs1; have HB := hid hb
    clear ho hb HA hs1
    go_wp2_with fail
    refine (HF1.out w1).mono ?_
    rintro _ w2 ⟨v2, rfl, ho, hb⟩
    have HO2 := hid ho; have HSa := hid (HS.out.keep hb); have HB2 := hid (HB.out.trans (hb.mono HB.out.size)); have HZ2 := hid hb.size
    have HG2 := hid (fun g (e : v2.ownBlock = some g) => Nat.le_trans HB.out.size (ho.block g e).1); have HG1 := hid (fun g (e : v2.ownBlock = some g) => (ho.block g e).1)
    clear ho hb HF1 HS HB
    go_wp2_with fail
    refine (HF2.out w2).mono ?_
    rintro _ w3 ⟨v3, rfl, ho, hb⟩
    obtain ⟨A3, c3, rfl, _, hs3, _⟩ := ho.sb
    have HS3 := hid hs3; have HSb := hid (HSa.out.keep hb); have HB3 := hid (HB2.out.trans (hb.mono HB2.out.size)); have HO2b := hid (HO2.out.keep hb); have HZ3 := hid (Nat.le_trans HZ2.out hb.size)
    clear ho hb HF2 HO2 HSa HB2 hs3 HZ2
    go_wp2_with (at_builtin; refine Held.go ?_)
    refine wpList_append_bytes_g _ rfl _ _ _ rfl _ Try.underlying37 info5' w1.heap.size v2 n _ rfl HO2b.out _ A3 (64 - n) c3 _ rfl HS3.out (by omega) HZ3.out ?_
    intro v4 w4 h4 k4 _
    rw [show n + (64 - n) = 64 from by omega] at h4
    obtain ⟨A4, c4, rfl, _, hs4, _⟩ := h4.sb
    have HSM := hid (sameBytes_calls _ _ c1 _ _ c4 A1 A4 bs _ w4 (HSb.out.grown k4 HG1.out) hs4)
    have HB4 := hid (HB3.out.trans (below_of_grown k4 HB3.out.size HG2.out))
    clear h4 k4 hs4 HS3 HSb HB3 HO2b
    go_wp2_with fail
    refine HSM.out.mono ?_
    rintro _ _ ⟨rfl, rfl⟩
    go_wp2_with fail
    go_ret
    exact ⟨rfl, HB4.out⟩
  · have HZ := hid (show okB er = false from by simp [okB, he])
    rw [HZ.out]
    rw [HZ.out] at HE
    have he' : (((er : Int)) == 0) = false := HE.out
    clear he
    go_enter Try.func32, Try.ntmps32
    go_wp2_with fail
    refine HA.out.mono ?_
    rintro _ w1 ⟨v, rfl, ho, hb⟩
    have HB := hid hb
    clear ho hb HA
    go_wp2_with fail
    go_ret
    exact ⟨rfl, HB.out⟩
set_option maxHeartbeats 2000000 in
theorem image_calls (base g : Nat) (F : List Nat) (s : DS) (w : World) (i : Int) (f : UInt8) (n : Nat) (t : UInt8) (hn : n ≤ 64) (h : DevB w base F g s) :
    Calls Try.prog 31 #[.pointer (some ⟨g, 0, none⟩), .int .i64 i, .int .u8 (f.toNat : Int), .int .i64 (n : Int), .int .u8 (t.toNat : Int)] w fun e w' => e = .returned (.bool (okB (imageE s i) && (imageB s i == twoB f n t))) ∧ Below w.heap.size w w' := by
  have HA := hid (dImage_calls base g F s w i h)
  have HE := hid (okB_eq (imageE s i))
  have HM := hid (show ((64 - n : Nat) : Int) = 64 - (n : Int) from by omega)
  clear h
  generalize imageB s i = bs at HA ⊢
  generalize imageE s i = er at HA HE ⊢
  by_cases he : er = 0
  · subst he
    have HF1 := hid (fun w => full_calls f n (by omega) w)
    have HF2 := hid (fun w => full_calls t (64 - n) (by omega) w)
    rw [HM.out] at HF2
    have hsub : IntKind.i64.wrap (64 - (n : Int)) = 64 - (n : Int) := IntWalk.i64_in _ (by omega)
    go_enter Try.func31, Try.ntmps31
    go_wp2_with fail
    refine HA.out.mono ?_
    rintro _ w1 ⟨v, rfl, ho, hb⟩
    obtain ⟨A1, c1, rfl, _, hs1, _⟩ := ho.sb
    have HS := hid hs1; have HB := hid hb
    clear ho hb HA hs1
    go_wp2_with fail
    refine (HF1.out w1).mono ?_
    rintro _ w2 ⟨v2, rfl, ho, hb⟩
    have HO2 := hid ho; have HSa := hid (HS.out.keep hb); have HB2 := hid (HB.out.trans (hb.mono HB.out.size)); have HZ2 := hid hb.size
    have HG2 := hid (fun g (e : v2.ownBlock = some g) => Nat.le_trans HB.out.size (ho.block g e).1); have HG1 := hid (fun g (e : v2.ownBlock = some g) => (ho.block g e).1)
    clear ho hb HF1 HS HB
    go_wp2_with fail
    refine (HF2.out w2).mono ?_
    rintro _ w3 ⟨v3, rfl, ho, hb⟩
    obtain ⟨A3, c3, rfl, _, hs3, _⟩ := ho.sb
    have HS3 := hid hs3; have HSb := hid (HSa.out.keep hb); have HB3 := hid (HB2.out.trans (hb.mono HB2.out.size)); have HO2b := hid (HO2.out.keep hb); have HZ3 := hid (Nat.le_trans HZ2.out hb.size)
    clear ho hb HF2 HO2 HSa HB2 hs3 HZ2
    go_wp2_with (at_builtin; refine Held.go ?_)
    refine wpList_append_bytes_g _ rfl _ _ _ rfl _ Try.underlying37 info5' w1.heap.size v2 n _ rfl HO2b.out _ A3 (64 - n) c3 _ rfl HS3.out (by omega) HZ3.out ?_
    intro v4 w4 h4 k4 _
    rw [show n + (64 - n) = 64 from by omega] at h4
    obtain ⟨A4, c4, rfl, _, hs4, _⟩ := h4.sb
    have HSM := hid (sameBytes_calls _ _ c1 _ _ c4 A1 A4 bs _ w4 (HSb.out.grown k4 HG1.out) hs4)
    have HB4 := hid (HB3.out.trans (below_of_grown k4 HB3.out.size HG2.out))
    clear h4 k4 hs4 HS3 HSb HB3 HO2b
    go_wp2_with fail
    refine HSM.out.mono ?_
    rintro _ _ ⟨rfl, rfl⟩
    go_wp2_with fail
    go_ret
    exact ⟨rfl, HB4.out⟩
  · have HZ := hid (show okB er = false from by simp [okB, he])
    rw [HZ.out]
    rw [HZ.out] at HE
    have he' : (((er : Int)) == 0) = false := HE.out
    clear he
    go_enter Try.func31, Try.ntmps31
    go_wp2_with fail
    refine HA.out.mono ?_
    rintro _ w1 ⟨v, rfl, ho, hb⟩
    have HB := hid hb
    clear ho hb HA
    go_wp2_with fail
    go_ret
    exact ⟨rfl, HB.out⟩
end Go.Proofs.Ytoajnabdflikfaa
