/- Contracts: what a hash that nobody made answers. -/
import Derived.Test.YtajojeajibonpaaDoorOwnSum
import Derived.Test.YtajojeajibonpaaDoorCells2
import Derived.Test.YtajojeajibonpaaDoorOrders
namespace Go.Proofs.YtajojeajibonpaaDoor
open Go.RowKit Crc

theorem run_equalIn_nil_ptr {P : Program} (w : World) (d : Nat) (t : TypeId) (p : Addr) (h : P.underlying t = some (.pointer (P.pointee t))) :
    (Op.equalIn (d + 1) t (.pointer none) (.pointer (some p))).run P w = .ok false w := by
  simp [Op.equalIn, run_underlying h]
theorem run_eql_nil_ptr {P : Program} (w : World) (t : TypeId) (p : Addr) (h : P.underlying t = some (.pointer (P.pointee t))) :
    (binOp .eql t (.pointer none) (.pointer (some p))).run P w = .ok (.bool false) w := by
  simp only [binOp]
  simp [Op.equal, Op.maxDepth, run_equalIn_nil_ptr w 9999 t p h]
/-- nil, or a hash that does not know itself -/
def NoHash (w : World) (h : Value) : Prop := h = .pointer none ∨ ∃ g, h = .pointer (some ⟨g, 0, none⟩) ∧ w.cell? ⟨g, 0, none⟩ = some (.pointer none)
theorem NoHash.keep {w w' : World} {h : Value} (hh : NoHash w h) (hb : Below w.heap.size w w') : NoHash w' h := by
  rcases hh with h1 | ⟨g, h1, h2⟩
  · exact .inl h1
  · exact .inr ⟨g, h1, (hb.cell (p := ⟨g, 0, none⟩) (lt_of_cell h2)).trans h2⟩

theorem valid_none (h : Value) (w : World) (hh : NoHash w h) : Calls Tryd.prog 41 #[h] w fun e w' => e = .returned (.bool false) ∧ w = w' := by
  rcases hh with rfl | ⟨g, rfl, hc⟩
  · go_enter Tryd.func41, Tryd.ntmps41
    go_wp2_with fail
    go_ret
    exact ⟨rfl, rfl⟩
  · have he := fun W => run_eql_nil_ptr (P := Tryd.prog) W 39 ⟨g, 0, none⟩ (by kernel_rfl)
    go_enter Tryd.func41, Tryd.ntmps41
    go_wp2_with fail
    go_ret
    exact ⟨rfl, rfl⟩
theorem hwrite_none (h b : Value) (w : World) (hh : NoHash w h) : Calls Tryd.prog 28 #[h, b] w fun e w' => e = .returned (.int .i64 1) ∧ w = w' := by
  have hv := hid (valid_none h w hh)
  go_enter Tryd.func28, Tryd.ntmps28
  go_wp2_with fail
  refine hv.out.mono ?_
  rintro e w' ⟨rfl, rfl⟩
  go_wp2_with fail
  go_ret
  exact ⟨rfl, rfl⟩
theorem hlen_none (h : Value) (w : World) (hh : NoHash w h) : Calls Tryd.prog 29 #[h] w fun e w' => e = .returned (.int .i64 0) ∧ w = w' := by
  have hv := hid (valid_none h w hh)
  go_enter Tryd.func29, Tryd.ntmps29
  go_wp2_with fail
  refine hv.out.mono ?_
  rintro e w' ⟨rfl, rfl⟩
  go_wp2_with fail
  go_ret
  exact ⟨rfl, rfl⟩
theorem hsum_none (h : Value) (w : World) (hh : NoHash w h) : Calls Tryd.prog 27 #[h] w fun e w' => e = .returned (.tuple #[.agg (bcells (zeroB 32)), .int .i64 1]) ∧ Below w.heap.size w w' := by
  have hz := (zero_of_info info26).1
  have K1 := hid (Blk.new w 26 (bcells (zeroB 32)))
  have B1 := hid (below_new w (.cells (bcells (zeroB 32)) 26))
  have EC : Hid ((Tryd.prog.info? 26).map (·.size) = some (bcells (zeroB 32)).size) := (zero_of_info info26).2
  have hv := hid (valid_none h _ (hh.keep B1.out))
  go_enter Tryd.func27, Tryd.ntmps27
  go_wp2_with fail
  refine hv.out.mono ?_
  rintro e w' ⟨rfl, rfl⟩
  go_wp2_with (refine wpList_store_blk rfl 26 _ _ rfl w.heap.size _ rfl rfl 26 _ K1.out EC.out rfl (bcells_oneCell _) ?_)
  refine bodyPost_ret (v := .tuple #[.agg (bcells (zeroB 32)), .int .i64 1]) (results_cell_tmp rfl _ _ w.heap.size 26 _ _ _ rfl rfl (K1.out.setRow _) Tryd.underlying26 EC.out) rfl ⟨rfl, ?_⟩
  exact B1.out.trans (below_of_grown (grown_setRow _ _ _) B1.out.size (fun g' e => by cases e; omega))
end Go.Proofs.YtajojeajibonpaaDoor
