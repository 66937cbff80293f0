/- Contract: a device's Write. -/
import Derived.Test.YtiejndkchcljdaaDvWrite
namespace Go.Proofs.Ytiejndkchcljdaa
open Go.RowKit

def writeE (s : DS) (i : Int) (n : Nat) : Nat := if s.out = true then 22 else if hasB s.n i = false then 3 else if n ≠ 64 then 2 else if lets s = false then 22 else 0
def writeS (s : DS) (i : Int) (bs : List UInt8) : DS := if s.out = true then s else if hasB s.n i = false then s else if bs.length ≠ 64 then s else if lets s = false then burn s else putS (burn s) i.toNat bs
theorem put_ok {s : DS} (h : s.OK) {i : Nat} {bs : List UInt8} (hi : i < s.n) (hb : bs.length = 64) : (putS s i bs).OK :=
  ⟨secPut_length h.n1 hi hb, h.n2, h.nb, fun x hx => by
    rcases List.mem_append.1 hx with hx | hx
    · exact h.lo x hx
    · obtain rfl : x = (i, bs) := by simpa using hx
      exact ⟨hi, hb⟩⟩
theorem load_sb {w : World} {B b off : Nat} {bs : List UInt8} (h : SB w B (some ⟨b, off, none⟩) 64 bs) : (loadVar 104 ⟨b, off, none⟩).run Try.prog w = .ok (.agg (bcs bs).toArray) w := by
  obtain ⟨d, h1, h2⟩ := underlying_sector
  obtain ⟨b', off', e, _, hc⟩ := h.2 (by omega)
  cases e
  exact run_load_cells _ _ _ (fun j v hj => by
    rw [Addr.add_lit]
    simp only [bcs, List.getElem?_map] at hj
    obtain ⟨x, hx, rfl⟩ := Option.map_eq_some_iff.1 hj
    exact hc j x hx) h1 h2 (by rw [bcs_length, h.1]; exact size_sector)
theorem run_arrayAt {P : Program} (t e : TypeId) (n : Nat) (A : Option Addr) (l c : Nat) (h : P.underlying t = some (.array n e)) (hl : n ≤ l) (w : World) :
    (Instr.arrayAt t (.slice A l c)).run P w = .ok (.pointer A) w := by
  simp [Instr.arrayAt, run_underlying h, show ¬ l < n by omega]
attribute [local go_sem] steady
attribute [local irreducible] wpPhase
section
variable (base g : Nat) (F : List Nat) (s : DS) (w : World)
set_option maxHeartbeats 2000000 in
theorem dWrite_calls (i : Int) (B n c2 : Nat) (A2 : Option Addr) (bs : List UInt8) (h : DevB w base F g s) (hb : base ≤ w.heap.size) (hk : ∀ k, s.fuse = some k → k < 9223372036854775808) (hlo : s.loose.length ≤ 1000000) (hs : SB w B A2 n bs) (hne : ∀ b off, A2 = some ⟨b, off, none⟩ → b ∉ F) :
    Calls Try.prog 26 #[.pointer (some ⟨g, 0, none⟩), .int .i64 i, .slice A2 n c2] w (DevPost w base F g (writeS s i bs) (.int .i64 (writeE s i n : Int))) := by
  have HS := hid h
  have hlen := hs.1
  obtain ⟨a, m, A, c, q, h, hok, hF, hlt⟩ := h
  have HV := hid (state_calls base g a m c A q s w h)
  have HH := hid (has_calls base g a m c A q s w i h)
  have HG := hid (goesOn_calls base g a m c A q s w hk h)
  by_cases ho : s.out = true
  · have HK := hid (show DevPost w base F g (writeS s i bs) (.int .i64 (writeE s i n : Int)) (.returned (.int .i64 22)) w from by
      rw [show writeE s i n = 22 from if_pos ho, show writeS s i bs = s from if_pos ho]; exact DevPost.same HS.out _)
    rw [if_pos ho] at HV
    clear h ho hok hF hlt HS HH HG hs hne hlen hk hlo
    generalize writeS s i bs = s' at HK ⊢
    generalize writeE s i n = e' at HK ⊢
    go_enter Try.func26, Try.ntmps26
    go_wp2_with fail
    refine HV.out.mono ?_
    rintro _ _ ⟨rfl, rfl⟩
    go_wp2_with fail
    go_ret
    exact HK.out
  rw [if_neg ho] at HV
  by_cases hh : hasB s.n i = false
  · have HK := hid (show DevPost w base F g (writeS s i bs) (.int .i64 (writeE s i n : Int)) (.returned (.int .i64 3)) w from by
      rw [show writeE s i n = 3 from by unfold writeE; rw [if_neg ho, if_pos hh], show writeS s i bs = s from by unfold writeS; rw [if_neg ho, if_pos hh]]; exact DevPost.same HS.out _)
    rw [hh] at HH
    clear h ho hok hF hlt HS HG hs hne hlen hk hlo hh
    generalize writeS s i bs = s' at HK ⊢
    generalize writeE s i n = e' at HK ⊢
    go_enter Try.func26, Try.ntmps26
    go_wp2_with fail
    refine HV.out.mono ?_
    rintro _ _ ⟨rfl, rfl⟩
    go_wp2_with fail
    refine HH.out.mono ?_
    rintro _ _ ⟨rfl, rfl⟩
    go_wp2_with fail
    go_ret
    exact HK.out
  have hh' : hasB s.n i = true := by simpa using hh
  rw [hh'] at HH
  by_cases hn : n = 64
  · subst hn
    have hr := hh'
    simp only [hasB, decide_eq_true_eq] at hr
    obtain ⟨j, rfl⟩ : ∃ j : Nat, i = (j : Int) := ⟨i.toNat, by omega⟩
    by_cases hl : lets s = false
    · have HE := hid (show writeE s j 64 = 22 from by unfold writeE; rw [if_neg ho, if_neg hh, if_neg (by omega), if_pos hl])
      have HSS := hid (show writeS s j bs = burn s from by unfold writeS; rw [if_neg ho, if_neg hh, if_neg (by omega), if_pos hl])
      have HF := hid (show ∀ w', DevIn w' base g a m A c q (burn s) → Chg (fpL g a m A q) w w' → DevPost w base F g (burn s) (.int .i64 22) (.returned (.int .i64 22)) w' from fun w' h1 h2 =>
        DevPost.of hF hlt (burn_ok hok) (v := .tuple #[]) (e := .returned (.tuple #[])) ⟨rfl, A, c, q, h1, h2, MovedQ.refl _ _, MovedQ.refl _ _⟩ rfl)
      rw [hl] at HG
      rw [HE.out, HSS.out]
      clear h ho hok hF hlt HS hs hne hlen hk hlo hh hh' hr hl HE HSS
      generalize burn s = s' at HF HG ⊢
      go_enter Try.func26, Try.ntmps26
      go_wp2_with fail
      refine HV.out.mono ?_
      rintro _ _ ⟨rfl, rfl⟩
      go_wp2_with fail
      refine HH.out.mono ?_
      rintro _ _ ⟨rfl, rfl⟩
      go_wp2_with fail
      refine HG.out.mono ?_
      rintro _ w1 ⟨rfl, h1, h2⟩
      have HK := hid (HF.out _ h1 h2)
      clear h1 h2
      go_wp2_with fail
      go_ret
      exact HK.out
    · have hl' : lets s = true := by simpa using hl
      have HE := hid (show writeE s j 64 = 0 from by unfold writeE; rw [if_neg ho, if_neg hh, if_neg (by omega), if_neg hl])
      have HSS := hid (show writeS s j bs = putS (burn s) j bs from by unfold writeS; rw [if_neg ho, if_neg hh, if_neg (by omega), if_neg hl, Int.toNat_natCast])
      obtain ⟨b2, off2, rfl, hb2, hcell⟩ := hs.2 (by omega)
      have hjn : j < s.n := by omega
      have HD := hid (fun w' (h1 : DevIn w' base g a m A c q (burn s)) (hz : base ≤ w'.heap.size) => dwrite_calls base g a m c A q (burn s) w' j bs h1 (burn_ok hok) hjn hlen hlo hz)
      have HF := hid (show ∀ w' w'', Chg (fpL g a m A q) w w' → InPost w' base g a m A q (putS (burn s) j bs) (.tuple #[]) (.returned (.tuple #[])) w'' → DevPost w base F g (putS (burn s) j bs) (.int .i64 0) (.returned (.int .i64 0)) w'' from fun w' w'' h1 h2 =>
        DevPost.of hF hlt (put_ok (burn_ok hok) hjn hlen) (InPost.trans h1 (MovedQ.refl _ _) (MovedQ.refl _ _) h2) rfl)
      have HSB := hid (fun w' (h1 : Chg (fpL g a m A q) w w') => hs.chg h1 (fun b off e _ => by cases e; intro hm; exact hne b2 off2 rfl (hF _ (mem_fpL.1 hm))))
      have HBZ := hid hb
      have HBW := hid (fun W => build_write j (bcs bs) (by rw [bcs_length, hlen]) W)
      rw [hl'] at HG
      rw [HE.out, HSS.out]
      have ha := fun W => run_arrayAt (P := Try.prog) 104 5 64 (some ⟨b2, off2, none⟩) 64 c2 (by kernel_rfl) (Nat.le_refl _) W
      clear h ho hok hF hlt HS hs hne hlen hk hlo hh hh' hr hl HE HSS hcell hb2 hb hl' hjn
      generalize putS (burn s) j bs = s' at HF HD ⊢
      go_enter Try.func26, Try.ntmps26
      go_wp2_with fail
      refine HV.out.mono ?_
      rintro _ _ ⟨rfl, rfl⟩
      go_wp2_with fail
      refine HH.out.mono ?_
      rintro _ _ ⟨rfl, rfl⟩
      go_wp2_with fail
      refine HG.out.mono ?_
      rintro _ w1 ⟨rfl, h1, h2⟩
      have H1 := hid h1.drew; have K1 := hid h2.drew
      clear h1 h2
      go_wp2_with fail
      refine wp_region_phaseT (fun _ => false) 8 (fun _ w' => w' = w1.drew) (fun w' => SB w' B (some ⟨b2, off2, none⟩) 64 bs) (fun _ w' h => h ▸ HSB.out _ K1.out) (by kernel_rfl) (by kernel_rfl) (by kernel_rfl) rfl ?_
      intro S _ at_ hS
      have HSX := hid hS
      clear hS
      simp only [List.take_succ_cons, List.take_zero]
      (refine phase_plain rfl (fun K hK => ?_); go_simp; refine hK _ ?_; clear hK K)
      (refine phase_plain rfl (fun K hK => ?_); go_simp; refine hK _ ?_; clear hK K)
      (refine phase_plain rfl (fun K hK => ?_); go_simp; refine hK _ ?_; clear hK K)
      (refine phase_plain rfl (fun K hK => ?_); go_simp; refine hK _ ?_; clear hK K)
      (refine phase_plain rfl (fun K hK => ?_); go_simp; refine hK _ ?_; clear hK K)
      (refine phase_plain rfl (fun K hK => ?_); go_simp; refine hK _ ?_; clear hK K)
      refine phase_load_run rfl rfl 104 _ rfl ⟨b2, off2, none⟩ rfl (.agg (bcs bs).toArray) (by rintro w' ⟨x, rfl⟩; exact load_sb (HSX.out x)) ?_
      refine phase_build2 rfl rfl 106 0 1 _ _ rfl (.int .i64 (j : Int)) (.agg (bcs bs).toArray) (.agg (lcell (j, bs)).toArray) rfl rfl (fun W _ => HBW.out W) ?_
      refine phase_nil ?_
      rintro _ rfl
      have HD2 := hid (HD.out _ H1.out (Nat.le_trans HBZ.out K1.out.size))
      have HF2 := hid (fun w'' => HF.out w1.drew w'' K1.out)
      clear HSX ha HD HF H1 K1
      simp only [List.drop_succ_cons, List.drop_zero]
      go_wp2_with fail
      refine HD2.out.mono ?_
      rintro _ w2 ⟨rfl, hp⟩
      have HK := hid (HF2.out w2 ⟨rfl, hp⟩)
      clear hp HF2
      go_wp2_with fail
      go_ret
      exact HK.out
  · have HK := hid (show DevPost w base F g (writeS s i bs) (.int .i64 (writeE s i n : Int)) (.returned (.int .i64 2)) w from by
      rw [show writeE s i n = 2 from by unfold writeE; rw [if_neg ho, if_neg hh, if_pos hn], show writeS s i bs = s from by unfold writeS; rw [if_neg ho, if_neg hh, if_pos (by omega)]]; exact DevPost.same HS.out _)
    have hn' : (((n : Int)) != 64) = true := by simp; omega
    clear h ho hok hF hlt HS HG hs hne hlen hk hlo hh hh'
    generalize writeS s i bs = s' at HK ⊢
    generalize writeE s i n = e' at HK ⊢
    go_enter Try.func26, Try.ntmps26
    go_wp2_with fail
    refine HV.out.mono ?_
    rintro _ _ ⟨rfl, rfl⟩
    go_wp2_with fail
    refine HH.out.mono ?_
    rintro _ _ ⟨rfl, rfl⟩
    go_wp2_with fail
    go_ret
    exact HK.out
end
end Go.Proofs.Ytiejndkchcljdaa
