/- Contract: the reference's 64 words. -/
import Derived.Test.YtajojeajibonpaaDoorProg
import Derived.Test.YtajojeajibonpaaDoorWCells
import Derived.Test.YtajojeajibonpaaDoorShaMath
namespace Go.Proofs.YtajojeajibonpaaDoor
open Go.RowKit Crc
theorem info60 : (Tryd.prog.info? 70).map (fun i => (i.zero, i.size)) = some (some (.agg (rcells (zeroW 64))), 64) := by rw [rcells_zeros]; kernel_rfl
theorem info55 : (Tryd.prog.info? 40).map (·.size) = some 1 := by kernel_rfl

set_option maxRecDepth 20000 in
theorem keys_calls (w : World) : Calls Tryd.prog 45 #[] w fun e w' => e = .returned (.agg (rcells keyList)) ∧ Below w.heap.size w w' := by
  have hz := (zero_of_info info60).1
  have hk := Blk.new w 70 (rcells (zeroW 64))
  have hb := hid (below_new w (.cells (rcells (zeroW 64)) 70))
  have Hi : Hid ((Tryd.prog.info? 70).map (·.size) = some (rcells keyList).size) := by rw [rcells_size]; exact (zero_of_info info60).2
  go_enter Tryd.func45, Tryd.ntmps45
  go_wp2_with (first
    | (refine wpList_buildFlatArr rfl 70 40 64 _ rfl .u32 (keyList.map fun x => (x.toNat : Int)) Tryd.underlying70 info55 (by kernel_rfl) (by kernel_rfl) ?_)
    | (refine wpList_store_blk rfl 70 _ _ rfl w.heap.size (rcells keyList) rfl rfl 70 _ hk Hi.out ((rcells_size _).trans (rcells_size _).symm) (rcells_oneCell _) ?_))
  refine bodyPost_ret (v := .agg (rcells keyList)) (results_cell_row rfl _ _ w.heap.size 70 _ (0, 0) _ rfl (hk.setRow _) Tryd.underlying70 rfl Hi.out) rfl ⟨rfl, ?_⟩
  exact hb.out.trans (below_of_grown (grown_setRow _ w.heap.size _) hb.out.size (fun g' e => by cases e; exact Nat.le_refl _))
end Go.Proofs.YtajojeajibonpaaDoor
