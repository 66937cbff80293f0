/- Contract: the project's begin: a stream of no bytes. -/
import Derived.Test.YtgacdimjbpkgoaaDoorOwnId
import Derived.Test.YtgacdimjbpkgoaaDoorStream
namespace Go.Proofs.YtgacdimjbpkgoaaDoor
open Go.RowKit Crc

/-- the cells of a stream, as an array -/
def strA (s : St) (rest : List UInt8) (n : Nat) : Array Value := (strm s rest n).toArray
def st00 : St := ⟨0, 0, 0, 0, 0, 0, 0, 0⟩
theorem strA_part (s : St) (rest : List UInt8) (n : Nat) : strA s rest n = part [] (strm s rest n) [] := (part_whole _).symm
theorem strm_length (s : St) (rest : List UInt8) (n : Nat) (hr : rest.length = 64) : (strm s rest n).length = 73 := by simp [strm, stL, hr]
theorem strA_size (s : St) (rest : List UInt8) (n : Nat) (hr : rest.length = 64) : (strA s rest n).size = 73 := by simp [strA, strm_length s rest n hr]
theorem strm_oneCell (s : St) (rest : List UInt8) (n : Nat) : ∀ v ∈ strm s rest n, v.oneCell' = true := by
  intro v hv
  simp only [strm, List.mem_append, List.mem_map, List.mem_singleton] at hv
  rcases hv with (⟨x, _, rfl⟩ | ⟨x, _, rfl⟩) | rfl <;> rfl
theorem strA_oneCell (s : St) (rest : List UInt8) (n : Nat) : (strA s rest n).toList.all (·.oneCell') = true := by
  rw [List.all_eq_true]; exact strm_oneCell s rest n
theorem infoStream : (Tryd.prog.info? 98).map (fun i => (i.zero, i.size)) = some (some (.agg (strA st00 (zeroB 64) 0)), 73) := by kernel_rfl
theorem run_build_stream (w : World) : (Instr.build 98 #[(0, .agg #[.int .u32 1779033703, .int .u32 3144134277, .int .u32 1013904242, .int .u32 2773480762, .int .u32 1359893119, .int .u32 2600822924, .int .u32 528734635, .int .u32 1541459225])]).run Tryd.prog w = .ok (.agg (strA st0 (zeroB 64) 0)) w := by kernel_rfl

set_option maxHeartbeats 2000000 in
set_option maxRecDepth 100000 in
theorem begin_calls (w : World) (hG : Glob w) :
    Calls Tryd.prog 52 #[] w fun e w' => e = .returned (.agg (strA st0 (zeroB 64) 0)) ∧ Below w.heap.size w w' := by
  have hz := (zero_of_info infoStream).1
  have k0 := Blk.new w 98 (strA st00 (zeroB 64) 0)
  have hb := run_build_stream
  have hG1 := hG.keep (below_new w (.cells (strA st00 (zeroB 64) 0) 98))
  have K0 := hid k0; have B0 := hid (below_new w (.cells (strA st00 (zeroB 64) 0) 98))
  clear k0 hG
  have c0 := hG1.2 0 0x6a09e667#32 rfl
  have c1 := hG1.2 1 0xbb67ae85#32 rfl
  have c2 := hG1.2 2 0x3c6ef372#32 rfl
  have c3 := hG1.2 3 0xa54ff53a#32 rfl
  have c4 := hG1.2 4 0x510e527f#32 rfl
  have c5 := hG1.2 5 0x9b05688c#32 rfl
  have c6 := hG1.2 6 0x1f83d9ab#32 rfl
  have c7 := hG1.2 7 0x5be0cd19#32 rfl
  clear hG1
  have EC : Hid ((Tryd.prog.info? 98).map (·.size) = some (strA st0 (zeroB 64) 0).size) := (zero_of_info infoStream).2
  go_enter Tryd.func52, Tryd.ntmps52
  go_wp2_with (refine wpList_store_blk rfl 98 _ _ rfl w.heap.size (strA st0 (zeroB 64) 0) rfl rfl 98 _ K0.out EC.out rfl (strA_oneCell _ _ _) ?_)
  refine bodyPost_ret (v := .agg (strA st0 (zeroB 64) 0)) (results_cell_row rfl _ _ w.heap.size 98 _ (0, 0) _ rfl (K0.out.setRow _) Tryd.underlying98 rfl EC.out) rfl ⟨rfl, ?_⟩
  exact B0.out.trans (below_of_grown (grown_setRow _ w.heap.size _) (by rw [size_new]; omega) (fun g' e => by cases e; omega))
end Go.Proofs.YtgacdimjbpkgoaaDoor
