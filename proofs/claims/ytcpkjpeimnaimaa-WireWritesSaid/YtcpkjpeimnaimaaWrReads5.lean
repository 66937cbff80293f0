/- Contract: a law's reads: vectors. -/
import Derived.Test.YtcpkjpeimnaimaaWrSame
namespace Go.Proofs.Ytcpkjpeimnaimaa
open Go.RowKit

section
variable (base g f : Nat) (r : Option Nat) (bs : List UInt8) (s : RS) (t : Th) (w : World)
set_option maxHeartbeats 4000000 in
theorem reads5 (hk : t.k = 5) (h : RdB w base g f r bs s) (ht : TOK w t) (hV : 0 < t.zs.length → ∀ b off, t.A2 = some ⟨b, off, none⟩ → b ∉ [g, f]) (hvl : (vecS bs (t.zs.length : Int) s).1.length ≤ 549755813888) :
    Calls Try.prog 58 #[.pointer (some ⟨g, 0, none⟩), .agg (TV t)] w (RtPost w base g f r bs t s) := by
  obtain ⟨b1, k1, t1⟩ := th_cells t w ht
  have HH := hid h
  have e1 : rdV bs t s = ((vecS bs (t.zs.length : Int) s).1 == t.zs) := by unfold rdV; rw [if_neg (by omega), if_neg (by omega), if_neg (by omega), if_neg (by omega), if_pos hk]
  have e2 : rdS bs t s = (vecS bs (t.zs.length : Int) s).2 := by unfold rdS; rw [if_neg (by omega), if_neg (by omega), if_neg (by omega), if_neg (by omega), if_pos hk]
  have HFIN := hid (show ∀ w', RdPost w base g f r bs (vecS bs (t.zs.length : Int) s).2 w' → RtPost w base g f r bs t s (.returned (.bool ((vecS bs (t.zs.length : Int) s).1 == t.zs))) w' from fun w' hp => ⟨by rw [e1], by rw [e2]; exact hp⟩)
  have c0 := k1.cell 0 (TV_head (t := t) (i := 0) rfl)
  rw [hk] at c0
  have HC7 := hid (fun W (hb : Blk W w.heap.size 38 (TV t)) => hb.cell 37 (TV_tail (t := t) t1.1 (i := 2) rfl))
  have H1 := hid (h.keep b1); have B1 := hid b1; have K1 := hid k1
  have HS1 := hid t1.2.2.1
  have HV := hid hV
  have HVL := hid hvl
  have HZL := hid t1.2.2.2.2.1
  clear h ht k1 b1 t1 e1 e2 hk hV hvl
  generalize TV t = cs at c0 HC7 B1 H1 K1 HS1 ⊢
  generalize t.A2 = A at HC7 HS1 HV
  generalize t.c2 = c at HC7
  go_enter Try.func58, Try.ntmps58
  go_wp2_with fail
  generalize w.alloc (.cells cs 38) = w1 at c0 B1 H1 K1 HS1 ⊢
  have c2 := HC7.out _ K1.out
  have HB := hid (rVec_calls base g f r bs s (t.zs.length : Int) w1.drew H1.out.drew)
  go_region_with (first
    | (go_at_call 47
       refine HB.out.mono ?_
       rintro e w2 ⟨v, rfl, ho, hp⟩
       obtain ⟨A4, c4, rfl, _, hs4, _⟩ := OwnI.si ho
       have c2' := HC7.out _ (rblk HH.out (Nat.le_refl _) K1.out.drew hp)
       have HS4 := hid hs4; have HP := hid hp
       have HS2 := hid (SI.chg (show SI w1.drew A t.zs.length t.zs from HS1.out) hp.2 HV.out)
       clear ho hp hs4)
    | (go_at_call 46
       refine (sameInts_calls _ c4 _ c A4 A _ _ _ HS4.out HS2.out HVL.out HZL.out).mono ?_
       rintro e w3 ⟨rfl, hb3⟩
       have HB3 := hid hb3
       clear hb3))
  all_goals
    have HK := hid (HFIN.out w3 (RdPost.fresh B1.out.drew ⟨HP.out.1.keep HB3.out, HP.out.2.trans (Chg.of_below (L := []) HB3.out) (by simp)⟩))
    clear HP c2' HS4 HS2 HB3
    go_wp2_with fail
    go_ret
    exact HK.out
end
end Go.Proofs.Ytcpkjpeimnaimaa
