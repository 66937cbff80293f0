/- Contract: a law's reads: bytes. -/
import Derived.Test.YtcpkjpeimnaimaaWrReads4
namespace Go.Proofs.Ytcpkjpeimnaimaa
open Go.RowKit

section
variable (base g f : Nat) (r : Option Nat) (bs : List UInt8) (s : RS) (t : Th) (w : World)
set_option maxHeartbeats 4000000 in
theorem reads2 (hk : t.k = 2) (hl : bs.length ≤ 549755813888) (h : RdB w base g f r bs s) (ht : TOK w t) (B : Nat) (hs : SB w B t.A t.cs.length t.cs) (hA : ∀ b off, t.A = some ⟨b, off, none⟩ → b < B → b ∉ [g, f]) :
    Calls Try.prog 58 #[.pointer (some ⟨g, 0, none⟩), .agg (TV t)] w (RtPost w base g f r bs t s) := by
  obtain ⟨b1, k1, t1⟩ := th_cells t w ht
  have HH := hid h
  have e1 : rdV bs t s = ((sizedS bs (t.cs.length : Int) s).1 == t.cs) := by unfold rdV; rw [if_neg (by omega), if_pos (.inr hk)]
  have e2 : rdS bs t s = (sizedS bs (t.cs.length : Int) s).2 := by unfold rdS; rw [if_neg (by omega), if_pos (.inr hk)]
  have HFIN := hid (show ∀ w', RdPost w base g f r bs (sizedS bs (t.cs.length : Int) s).2 w' → RtPost w base g f r bs t s (.returned (.bool ((sizedS bs (t.cs.length : Int) s).1 == t.cs))) w' from fun w' hp => ⟨by rw [e1], by rw [e2]; exact hp⟩)
  have c0 := k1.cell 0 (TV_head (t := t) (i := 0) rfl)
  rw [hk] at c0
  have HC2 := hid (fun W (hb : Blk W w.heap.size 38 (TV t)) => hb.cell 2 (TV_head (t := t) (i := 2) rfl))
  have H1 := hid (h.keep b1); have B1 := hid b1; have K1 := hid k1
  have HS1 := hid (hs.keep b1)
  have HA := hid hA
  have HLL := hid hl
  clear h ht k1 b1 t1 e1 e2 hk hs hA hl
  generalize TV t = cs at c0 HC2 B1 H1 K1 HS1 ⊢
  generalize t.A = A at HC2 HS1 HA
  generalize t.c = c at HC2
  go_enter Try.func58, Try.ntmps58
  go_wp2_with fail
  generalize w.alloc (.cells cs 38) = w1 at c0 B1 H1 K1 HS1 ⊢
  have c2 := HC2.out _ K1.out
  have HB := hid (rBytes_calls base g f r bs s w1.drew HLL.out (t.cs.length : Int) H1.out.drew)
  go_region_with (first
    | (go_at_call 40
       refine HB.out.mono ?_
       rintro e w2 ⟨v, rfl, ho, hp⟩
       obtain ⟨A4, c4, rfl, _, hs4, _⟩ := ho.sb
       have c2' := HC2.out _ (rblk HH.out (Nat.le_refl _) K1.out.drew hp)
       have HS4 := hid hs4; have HP := hid hp
       have HS2 := hid (HS1.out.drew.chg hp.2 (fun b off e hl => HA.out b off e hl))
       clear ho hp hs4)
    | (go_at_call 31
       refine (sameBytes_calls _ _ c4 _ _ c A4 A _ _ _ HS4.out HS2.out).mono ?_
       rintro e w3 ⟨rfl, rfl⟩))
  all_goals
    have HK := hid (HFIN.out w2 (RdPost.fresh B1.out.drew HP.out))
    clear HP c2' HS4 HS2
    go_wp2_with fail
    go_ret
    exact HK.out
end
end Go.Proofs.Ytcpkjpeimnaimaa
