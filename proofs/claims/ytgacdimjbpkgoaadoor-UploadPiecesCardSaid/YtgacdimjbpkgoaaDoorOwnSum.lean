/- Contract: the project's Sum. -/
import Derived.Test.YtgacdimjbpkgoaaDoorOwnDigest
namespace Go.Proofs.YtgacdimjbpkgoaaDoor
open Go.RowKit Crc

set_option maxHeartbeats 2000000 in
set_option maxRecDepth 100000 in
theorem sum_calls (B n c : Nat) (A : Option Addr) (bs : List UInt8) (w : World) (hs : SB w B A n bs) (hc : n ≤ c) (hG : Glob w) (hn : n ≤ 1099511627776) :
    Calls Tryd.prog 42 #[.slice A n c] w fun e w' => e = .returned (.agg (bcells (sha bs))) ∧ Below w.heap.size w w' := by
  have hz1 := (zero_of_info info26).1
  have hz2 := (zero_of_info infoStream).1
  have HS := hid hs.fit; have HL := hid hs.1
  have K2 := hid (Blk.new w 24 (bcells (zeroB 32)))
  have B2 := hid (below_new w (.cells (bcells (zeroB 32)) 24))
  have HG := hid hG
  have EC : Hid ((Tryd.prog.info? 98).map (·.size) = some (strA st0 (zeroB 64) 0).size) := (zero_of_info infoStream).2
  clear hs hG
  go_enter Tryd.func42, Tryd.ntmps42
  go_wp2_with fail
  generalize w.alloc (.cells (bcells (zeroB 32)) 24) = w1 at K2 B2 ⊢
  refine (begin_calls w1 (HG.out.keep B2.out)).mono ?_
  rintro _ w2 ⟨rfl, b2⟩
  have K3 := hid (Blk.new w2 98 (strA st00 (zeroB 64) 0))
  have B3 := hid (B2.out.trans (b2.mono B2.out.size))
  have K23 := hid ((K2.out.keep b2).alloc (.cells (strA st00 (zeroB 64) 0) 98))
  have l2 : w.heap.size < w2.heap.size := (K2.out.keep b2).lt
  clear b2 K2 B2
  go_wp2_with (refine wpList_store_blk rfl 98 _ _ rfl w2.heap.size (strA st0 (zeroB 64) 0) rfl rfl 98 _ K3.out EC.out rfl (strA_oneCell _ _ _) ?_)
  clear hz1 hz2
  have h4 := K3.out.setRow (strA st0 (zeroB 64) 0)
  have gq := grown_setRow (w2.alloc (.cells (strA st00 (zeroB 64) 0) 98)) w2.heap.size (strA st0 (zeroB 64) 0)
  have b4 := (B3.out.alloc (by omega) (.cells (strA st00 (zeroB 64) 0) 98)).trans (below_of_grown gq (by rw [size_new]; omega) (fun g' e => by cases e; omega))
  have k24 := K23.out.grown gq (by simp; omega)
  generalize (w2.alloc (.cells (strA st00 (zeroB 64) 0) 98)).setRow w2.heap.size (strA st0 (zeroB 64) 0) = w4 at h4 b4 k24 ⊢
  rw [strA_part] at h4
  have l0 := HG.out.lt
  have hG4 := HG.out.keep b4
  have hS4 := (HS.out.keep b4).more (B' := w2.heap.size) (by omega)
  generalize w2.heap.size = g at h4 l2 hS4 ⊢
  clear K3 B3 K23 gq
  have B4 := hid b4; have K24 := hid k24
  clear b4 k24
  refine (write_calls [] bs st0 (zeroB 64) kept_start g 0 98 [] rfl n c A w4 hS4 hc hG4 (by omega) h4 (by simp; omega)).mono ?_
  rintro _ w5 ⟨rfl, g5, s5, r5, hk5, hb5⟩
  rw [List.nil_append] at hk5 hb5
  have K25 := hid (K24.out.grown g5 (by simp; omega))
  have B5 := hid (B4.out.trans (below_of_grown g5 (Nat.le_of_lt K24.out.lt) (fun g' e => by cases e; omega)))
  have hG5 := hid (hG4.grown g5 (by omega))
  have HK5 := hid hk5; have HB5 := hid hb5
  clear h4 hS4 hG4 g5 hk5 hb5 B4 K24
  go_wp2_with fail
  refine (digest_calls bs s5 r5 HK5.out g 0 98 [] rfl w5 hG5.out HB5.out (by rw [HL.out]; exact hn)).mono ?_
  rintro _ w6 ⟨rfl, b6⟩
  have hl : (sha bs).length = 32 := rfl
  generalize hC : sha bs = lC at hl ⊢
  have HCe := hid hC; clear hC
  have EC2 : Hid ((Tryd.prog.info? 24).map (·.size) = some (bcells lC).size) := by rw [Hid, bcells_size, hl]; exact (zero_of_info info26).2
  have Hsz : Hid ((bcells (zeroB 32)).size = (bcells lC).size) := by rw [Hid, bcells_size, bcells_size, hl]; rfl
  have K26 := hid (K25.out.keep b6)
  have B6 := hid (B5.out.trans (b6.mono (Nat.le_of_lt K25.out.lt)))
  clear hl b6
  go_wp2_with (refine wpList_store_blk rfl 24 _ _ rfl w.heap.size _ rfl rfl 24 _ K26.out EC2.out Hsz.out (bcells_oneCell _) ?_)
  refine bodyPost_ret (v := .agg (bcells lC)) (results_cell_row rfl _ _ w.heap.size 24 _ (0, 0) _ rfl (K26.out.setRow _) Tryd.underlying24 rfl EC2.out) rfl ⟨by rw [HCe.out], ?_⟩
  exact B6.out.trans (below_of_grown (grown_setRow w6 _ _) (Nat.le_of_lt K26.out.lt) (fun g' e => by cases e; omega))
end Go.Proofs.YtgacdimjbpkgoaaDoor
