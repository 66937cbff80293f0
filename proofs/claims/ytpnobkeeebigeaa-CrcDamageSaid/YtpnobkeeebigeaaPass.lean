/- Contracts: crc.passBytes, More, Sum and sumBytes: what they return; nothing that was there is turned. -/
import Derived.Test.YtpnobkeeebigeaaProg
import Derived.Test.YtpnobkeeebigeaaFold
import Derived.Test.YtpnobkeeebigeaaTabWalk
namespace Go.Proofs.Ytpnobkeeebigeaa
open Go.RowKit Crc
attribute [local go_sem] n_xor n_poly n_not n_not' n_bx n_low n_shr1 n_shr8 n_shr16 n_shr24 n_bxor

theorem table_of_blk {w : World} {g : Nat} {t : TypeId} (h : Blk w g t (tcells 1 256)) : Table w g := fun i => h.cell _ (table_at i)

theorem passBytes_calls (r : R) (B n c : Nat) (A : Option Addr) (bs : List UInt8) (w : World) (hs : SB w B A n bs) (hn : n ≤ 1099511627776) :
    Calls Try.prog 26 #[.int .u32 (r.toNat : Int), .slice A n c] w
      fun e w' => e = .returned (.int .u32 ((passes r bs).toNat : Int)) ∧ Below w.heap.size w w' := by
  have hi : (Try.prog.info? 48).map (·.size) = some (tcells 1 256).size := by rw [tcells_size]; exact (zero_of_info info48).2
  have Hi := hid hi; clear hi
  go_enter Try.func26, Try.ntmps26
  go_wp2_with fail
  refine (table_calls _).mono ?_
  rintro e w1 ⟨rfl, hB⟩
  have hz := (zero_of_info info48).1
  go_wp2_with (refine wpList_store_blk rfl 48 _ _ rfl w1.heap.size _ rfl rfl 48 _ (Blk.new w1 _ (tcells 128 0)) Hi.out ((tcells_size _ _).trans (tcells_size _ _).symm) (oneCell_t _ _) ?_)
  clear hz
  have hb1 := hB.trans ((below_of_grown (grown_setRow (w1.alloc (.cells (tcells 128 0) 48)) w1.heap.size (tcells 1 256)) (by rw [size_new]; have := hB.size; omega) (fun g' e => by cases e; exact hB.size)) |> fun h => ((below_new w1 (.cells (tcells 128 0) 48)).mono hB.size).trans h)
  have hk1 := (Blk.new w1 48 (tcells 128 0)).setRow (tcells 1 256)
  refine (fold_calls r w1.heap.size B n c A bs _ (hs.keep hb1) hn (table_of_blk hk1)).mono ?_
  rintro e w' ⟨rfl, rfl⟩
  go_wp2_with fail
  go_ret
  exact ⟨rfl, hb1⟩

theorem more_calls (s : R) (B n c : Nat) (A : Option Addr) (bs : List UInt8) (w : World) (hs : SB w B A n bs) (hn : n ≤ 1099511627776) :
    Calls Try.prog 20 #[.int .u32 (s.toNat : Int), .slice A n c] w
      fun e w' => e = .returned (.int .u32 ((more s bs).toNat : Int)) ∧ Below w.heap.size w w' := by
  go_enter Try.func20, Try.ntmps20
  go_wp2_with fail
  refine (passBytes_calls (nt s) B n c A bs _ hs hn).mono ?_
  rintro e w' ⟨rfl, hb⟩
  go_wp2_with fail
  go_ret
  exact ⟨rfl, hb⟩

theorem sum_calls (B n c : Nat) (A : Option Addr) (bs : List UInt8) (w : World) (hs : SB w B A n bs) (hn : n ≤ 1099511627776) :
    Calls Try.prog 17 #[.slice A n c] w
      fun e w' => e = .returned (.int .u32 ((sum bs).toNat : Int)) ∧ Below w.heap.size w w' := by
  go_enter Try.func17, Try.ntmps17
  go_wp2_with fail
  refine (more_calls 0#32 B n c A bs _ hs hn).mono ?_
  rintro e w' ⟨rfl, hb⟩
  go_wp2_with fail
  go_ret
  exact ⟨rfl, hb⟩

theorem info39 : (Try.prog.info? 39).map (·.size) = some 4 := by kernel_rfl

theorem sumBytes_calls (B n c : Nat) (A : Option Addr) (bs : List UInt8) (w : World) (hs : SB w B A n bs) (hn : n ≤ 1099511627776) :
    Calls Try.prog 22 #[.slice A n c] w
      fun e w' => e = .returned (.agg ((tail4 (sum bs)).map bv).toArray) ∧ Below w.heap.size w w' := by
  go_enter Try.func22, Try.ntmps22
  go_wp2_with fail
  refine (sum_calls B n c A bs _ (hs.keep (below_new _ _)) hn).mono ?_
  rintro e w1 ⟨rfl, hb⟩
  have hk := (Blk.new w 39 #[.int .u8 0, .int .u8 0, .int .u8 0, .int .u8 0]).keep hb
  have hb2 := ((below_new w (.cells #[.int .u8 0, .int .u8 0, .int .u8 0, .int .u8 0] 39)).trans (hb.mono (by rw [size_new]; omega)))
  have Hb := hid hb2; clear hb hb2
  go_wp2_with (refine wpList_store_blk rfl 39 _ _ rfl w.heap.size _ rfl rfl 39 _ hk info39 rfl rfl ?_)
  refine bodyPost_ret (v := .agg ((tail4 (sum bs)).map bv).toArray) (results_cell_row rfl _ _ w.heap.size 39 _ (0, 0) _ rfl (hk.setRow _) Try.underlying39 rfl info39) rfl ⟨rfl, ?_⟩
  exact Hb.out.trans (below_of_grown (grown_setRow w1 _ _) (Nat.le_of_lt hk.lt) (fun g' e => by cases e; exact Nat.le_refl _))
end Go.Proofs.Ytpnobkeeebigeaa
