/- Contracts: crc.passBytes, More, Sum and sumBytes: what they return; nothing that was there is turned. -/
import Derived.Test.YtiejndkchcljdaaProg
import Derived.Test.YtiejndkchcljdaaFold
import Derived.Test.YtiejndkchcljdaaTabWalk
namespace Go.Proofs.Ytiejndkchcljdaa
open Go.RowKit Crc
attribute [local go_sem] n_xor n_poly n_not n_not' n_bx n_low n_shr1 n_shr8 n_shr16 n_shr24 n_bxor

theorem table_of_blk {w : World} {g : Nat} {t : TypeId} (h : Blk w g t (tcells 1 256)) : Table w g := fun i => h.cell _ (table_at i)

theorem passBytes_calls (r : R) (B n c : Nat) (A : Option Addr) (bs : List UInt8) (w : World) (hs : SB w B A n bs) (hn : n ≤ 1099511627776) :
    Calls Try.prog 94 #[.int .u32 (r.toNat : Int), .slice A n c] w
      fun e w' => e = .returned (.int .u32 ((passes r bs).toNat : Int)) ∧ Below w.heap.size w w' := by
  have hi : (Try.prog.info? 128).map (·.size) = some (tcells 1 256).size := by rw [tcells_size]; exact (zero_of_info info48).2
  have Hi := hid hi; clear hi
  go_enter Try.func94, Try.ntmps94
  go_wp2_with fail
  refine (table_calls _).mono ?_
  rintro e w1 ⟨rfl, hB⟩
  have hz := (zero_of_info info48).1
  go_wp2_with (refine wpList_store_blk rfl 128 _ _ rfl w1.heap.size _ rfl rfl 128 _ (Blk.new w1 _ (tcells 128 0)) Hi.out ((tcells_size _ _).trans (tcells_size _ _).symm) (oneCell_t _ _) ?_)
  clear hz
  have hb1 := hB.trans ((below_of_grown (grown_setRow (w1.alloc (.cells (tcells 128 0) 128)) w1.heap.size (tcells 1 256)) (by rw [size_new]; have := hB.size; omega) (fun g' e => by cases e; exact hB.size)) |> fun h => ((below_new w1 (.cells (tcells 128 0) 128)).mono hB.size).trans h)
  have hk1 := (Blk.new w1 128 (tcells 128 0)).setRow (tcells 1 256)
  refine (fold_calls r w1.heap.size B n c A bs _ (hs.keep hb1) hn (table_of_blk hk1)).mono ?_
  rintro e w' ⟨rfl, rfl⟩
  go_wp2_with fail
  go_ret
  exact ⟨rfl, hb1⟩

theorem more_calls (s : R) (B n c : Nat) (A : Option Addr) (bs : List UInt8) (w : World) (hs : SB w B A n bs) (hn : n ≤ 1099511627776) :
    Calls Try.prog 90 #[.int .u32 (s.toNat : Int), .slice A n c] w
      fun e w' => e = .returned (.int .u32 ((more s bs).toNat : Int)) ∧ Below w.heap.size w w' := by
  go_enter Try.func90, Try.ntmps90
  go_wp2_with fail
  refine (passBytes_calls (nt s) B n c A bs _ hs hn).mono ?_
  rintro e w' ⟨rfl, hb⟩
  go_wp2_with fail
  go_ret
  exact ⟨rfl, hb⟩

theorem sum_calls (B n c : Nat) (A : Option Addr) (bs : List UInt8) (w : World) (hs : SB w B A n bs) (hn : n ≤ 1099511627776) :
    Calls Try.prog 76 #[.slice A n c] w
      fun e w' => e = .returned (.int .u32 ((sum bs).toNat : Int)) ∧ Below w.heap.size w w' := by
  go_enter Try.func76, Try.ntmps76
  go_wp2_with fail
  refine (more_calls 0#32 B n c A bs _ hs hn).mono ?_
  rintro e w' ⟨rfl, hb⟩
  go_wp2_with fail
  go_ret
  exact ⟨rfl, hb⟩

end Go.Proofs.Ytiejndkchcljdaa
