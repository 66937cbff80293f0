/- Contracts: what the laws of device ask: reads, image. -/
import Derived.Test.YtjenafbkalokoaaDvLaw
namespace Go.Proofs.Ytjenafbkalokoaa
open Go.RowKit

def twoB (f : UInt8) (n : Nat) (t : UInt8) : List UInt8 := List.replicate n f ++ List.replicate (64 - n) t
set_option maxHeartbeats 2000000 in
theorem reads_calls (base g : Nat) (F : List Nat) (s : DS) (w : World) (i : Int) (f : UInt8) (n : Nat) (t : UInt8) (hn : n ≤ 64) (h : DevB w base F g s) :
    Calls Try.prog 32 #[.pointer (some ⟨g, 0, none⟩), .int .i64 i, .int .u8 (f.toNat : Int), .int .i64 (n : Int), .int .u8 (t.toNat : Int)] w fun e w' => e = .returned (.bool (okB (readE s i) && (readB s i == twoB f n t))) ∧ Below w.heap.size w w' := by
  have HA := hid (dRead_calls base g F s w i h)
  have HE := hid (okB_eq (readE s i))
  have HM := hid (show ((64 - n : Nat) : Int) = 64 - (n : Int) from by omega)
  clear h
  generalize readB s i = bs at HA ⊢
  generalize readE s i = er at HA HE ⊢
  by_cases he : er = 0
  · subst he
    have HF1 := hid (fun w => full_calls f n (by omega) w)
    have HF2 := hid (fun w => full_calls t (64 - n) (by omega) w)
    rw [HM.out] at HF2
    have hsub : IntKind.i64.wrap (64 - (n : Int)) = 64 - (n : Int) := IntWalk.i64_in _ (by omega)
    go_enter Try.func32, Try.ntmps32
    go_wp2_with fail
    refine HA.out.mono ?_
    rintro _ w1 ⟨v, rfl, ho, hb⟩
    obtain ⟨A1, c1, rfl, _, hs1, _⟩ := ho.sb
    have HS := hid hs1; have HB := hid hb
    clear ho hb HA hs1
    go_wp2_with fail
    refine (HF1.out w1).mono ?_
    rintro _ w2 ⟨v2, rfl, ho, hb⟩
    have HO2 := hid ho; have HSa := hid (HS.out.keep hb); have HB2 := hid (HB.out.trans (hb.mono HB.out.size)); have HZ2 := hid hb.size
    have HG2 := hid (fun g (e : v2.ownBlock = some g) => Nat.le_trans HB.out.size (ho.block g e).1); have HG1 := hid (fun g (e : v2.ownBlock = some g) => (ho.block g e).1)
    clear ho hb HF1 HS HB
    go_wp2_with fail
    refine (HF2.out w2).mono ?_
    rintro _ w3 ⟨v3, rfl, ho, hb⟩
    obtain ⟨A3, c3, rfl, _, hs3, _⟩ := ho.sb
    have HS3 := hid hs3; have HSb := hid (HSa.out.keep hb); have HB3 := hid (HB2.out.trans (hb.mono HB2.out.size)); have HO2b := hid (HO2.out.keep hb); have HZ3 := hid (Nat.le_trans HZ2.out hb.size)
    clear ho hb HF2 HO2 HSa HB2 hs3 HZ2
    go_wp2_with (at_builtin; refine Held.go ?_)
    refine wpList_append_bytes_g _ rfl _ _ _ rfl _ Try.underlying37 info5' w1.heap.size v2 n _ rfl HO2b.out _ A3 (64 - n) c3 _ rfl HS3.out (by omega) HZ3.out ?_
    intro v4 w4 h4 k4 _
    rw [show n + (64 - n) = 64 from by omega] at h4
    obtain ⟨A4, c4, rfl, _, hs4, _⟩ := h4.sb
    have HSM := hid (sameBytes_calls _ _ c1 _ _ c4 A1 A4 bs _ w4 (HSb.out.grown k4 HG1.out) hs4)
    have HB4 := hid (HB3.out.trans (below_of_grown k4 HB3.out.size HG2.out))
    clear h4 k4 hs4 HS3 HSb HB3 HO2b
    go_wp2_with fail
    refine HSM.out.mono ?_
    rintro _ _ ⟨rfl, rfl⟩
    go_wp2_with fail
    go_ret
    exact ⟨rfl, HB4.out⟩
  · have HZ := hid (show okB er = false from by simp [okB, he])
    rw [HZ.out]
    rw [HZ.out] at HE
    have he' : (((er : Int)) == 0) = false := HE.out
    clear he
    go_enter Try.func32, Try.ntmps32
    go_wp2_with fail
    refine HA.out.mono ?_
    rintro _ w1 ⟨v, rfl, ho, hb⟩
    have HB := hid hb
    clear ho hb HA
    go_wp2_with fail
    go_ret
    exact ⟨rfl, HB.out⟩
set_option maxHeartbeats 2000000 in
theorem image_calls (base g : Nat) (F : List Nat) (s : DS) (w : World) (i : Int) (f : UInt8) (n : Nat) (t : UInt8) (hn : n ≤ 64) (h : DevB w base F g s) :
    Calls Try.prog 31 #[.pointer (some ⟨g, 0, none⟩), .int .i64 i, .int .u8 (f.toNat : Int), .int .i64 (n : Int), .int .u8 (t.toNat : Int)] w fun e w' => e = .returned (.bool (okB (imageE s i) && (imageB s i == twoB f n t))) ∧ Below w.heap.size w w' := by
  have HA := hid (dImage_calls base g F s w i h)
  have HE := hid (okB_eq (imageE s i))
  have HM := hid (show ((64 - n : Nat) : Int) = 64 - (n : Int) from by omega)
  clear h
  generalize imageB s i = bs at HA ⊢
  generalize imageE s i = er at HA HE ⊢
  by_cases he : er = 0
  · subst he
    have HF1 := hid (fun w => full_calls f n (by omega) w)
    have HF2 := hid (fun w => full_calls t (64 - n) (by omega) w)
    rw [HM.out] at HF2
    have hsub : IntKind.i64.wrap (64 - (n : Int)) = 64 - (n : Int) := IntWalk.i64_in _ (by omega)
    go_enter Try.func31, Try.ntmps31
    go_wp2_with fail
    refine HA.out.mono ?_
    rintro _ w1 ⟨v, rfl, ho, hb⟩
    obtain ⟨A1, c1, rfl, _, hs1, _⟩ := ho.sb
    have HS := hid hs1; have HB := hid hb
    clear ho hb HA hs1
    go_wp2_with fail
    refine (HF1.out w1).mono ?_
    rintro _ w2 ⟨v2, rfl, ho, hb⟩
    have HO2 := hid ho; have HSa := hid (HS.out.keep hb); have HB2 := hid (HB.out.trans (hb.mono HB.out.size)); have HZ2 := hid hb.size
    have HG2 := hid (fun g (e : v2.ownBlock = some g) => Nat.le_trans HB.out.size (ho.block g e).1); have HG1 := hid (fun g (e : v2.ownBlock = some g) => (ho.block g e).1)
    clear ho hb HF1 HS HB
    go_wp2_with fail
    refine (HF2.out w2).mono ?_
    rintro _ w3 ⟨v3, rfl, ho, hb⟩
    obtain ⟨A3, c3, rfl, _, hs3, _⟩ := ho.sb
    have HS3 := hid hs3; have HSb := hid (HSa.out.keep hb); have HB3 := hid (HB2.out.trans (hb.mono HB2.out.size)); have HO2b := hid (HO2.out.keep hb); have HZ3 := hid (Nat.le_trans HZ2.out hb.size)
    clear ho hb HF2 HO2 HSa HB2 hs3 HZ2
    go_wp2_with (at_builtin; refine Held.go ?_)
    refine wpList_append_bytes_g _ rfl _ _ _ rfl _ Try.underlying37 info5' w1.heap.size v2 n _ rfl HO2b.out _ A3 (64 - n) c3 _ rfl HS3.out (by omega) HZ3.out ?_
    intro v4 w4 h4 k4 _
    rw [show n + (64 - n) = 64 from by omega] at h4
    obtain ⟨A4, c4, rfl, _, hs4, _⟩ := h4.sb
    have HSM := hid (sameBytes_calls _ _ c1 _ _ c4 A1 A4 bs _ w4 (HSb.out.grown k4 HG1.out) hs4)
    have HB4 := hid (HB3.out.trans (below_of_grown k4 HB3.out.size HG2.out))
    clear h4 k4 hs4 HS3 HSb HB3 HO2b
    go_wp2_with fail
    refine HSM.out.mono ?_
    rintro _ _ ⟨rfl, rfl⟩
    go_wp2_with fail
    go_ret
    exact ⟨rfl, HB4.out⟩
  · have HZ := hid (show okB er = false from by simp [okB, he])
    rw [HZ.out]
    rw [HZ.out] at HE
    have he' : (((er : Int)) == 0) = false := HE.out
    clear he
    go_enter Try.func31, Try.ntmps31
    go_wp2_with fail
    refine HA.out.mono ?_
    rintro _ w1 ⟨v, rfl, ho, hb⟩
    have HB := hid hb
    clear ho hb HA
    go_wp2_with fail
    go_ret
    exact ⟨rfl, HB.out⟩
end Go.Proofs.Ytjenafbkalokoaa
