/- Contract: the project's turned (a word turned to the right). -/
import Derived.Test.YtgacdimjbpkgoaaDoorProg
import Derived.Test.YtgacdimjbpkgoaaDoorShaMath
import Derived.Test.YtgacdimjbpkgoaaDoorWords
namespace Go.Proofs.YtgacdimjbpkgoaaDoor
open Go.RowKit Crc
attribute [local go_sem] n_xor n_shrk n_or n_slk

theorem og_comm (a b : R) : og a b = og b a := by unfold og; exact BitVec.or_comm a b
theorem rb2 : bits .and .u64 (IntKind.u64.wrap (-2)) 31 = 30 := by decide +kernel
theorem rb6 : bits .and .u64 (IntKind.u64.wrap (-6)) 31 = 26 := by decide +kernel
theorem rb7 : bits .and .u64 (IntKind.u64.wrap (-7)) 31 = 25 := by decide +kernel
theorem rb11 : bits .and .u64 (IntKind.u64.wrap (-11)) 31 = 21 := by decide +kernel
theorem rb13 : bits .and .u64 (IntKind.u64.wrap (-13)) 31 = 19 := by decide +kernel
theorem rb17 : bits .and .u64 (IntKind.u64.wrap (-17)) 31 = 15 := by decide +kernel
theorem rb18 : bits .and .u64 (IntKind.u64.wrap (-18)) 31 = 14 := by decide +kernel
theorem rb19 : bits .and .u64 (IntKind.u64.wrap (-19)) 31 = 13 := by decide +kernel
theorem rb22 : bits .and .u64 (IntKind.u64.wrap (-22)) 31 = 10 := by decide +kernel
theorem rb25 : bits .and .u64 (IntKind.u64.wrap (-25)) 31 = 7 := by decide +kernel
theorem rs2 (a : R) : (a.toNat : Int) * (1073741824 : Int) % (4294967296 : Int) = ((sl 30 a).toNat : Int) := n_slk a 30
theorem rr2 (a : R) : (a.toNat : Int) / (4 : Int) = ((sr 2 a).toNat : Int) := n_shrk a 2
theorem rs6 (a : R) : (a.toNat : Int) * (67108864 : Int) % (4294967296 : Int) = ((sl 26 a).toNat : Int) := n_slk a 26
theorem rr6 (a : R) : (a.toNat : Int) / (64 : Int) = ((sr 6 a).toNat : Int) := n_shrk a 6
theorem rs7 (a : R) : (a.toNat : Int) * (33554432 : Int) % (4294967296 : Int) = ((sl 25 a).toNat : Int) := n_slk a 25
theorem rr7 (a : R) : (a.toNat : Int) / (128 : Int) = ((sr 7 a).toNat : Int) := n_shrk a 7
theorem rs11 (a : R) : (a.toNat : Int) * (2097152 : Int) % (4294967296 : Int) = ((sl 21 a).toNat : Int) := n_slk a 21
theorem rr11 (a : R) : (a.toNat : Int) / (2048 : Int) = ((sr 11 a).toNat : Int) := n_shrk a 11
theorem rs13 (a : R) : (a.toNat : Int) * (524288 : Int) % (4294967296 : Int) = ((sl 19 a).toNat : Int) := n_slk a 19
theorem rr13 (a : R) : (a.toNat : Int) / (8192 : Int) = ((sr 13 a).toNat : Int) := n_shrk a 13
theorem rs17 (a : R) : (a.toNat : Int) * (32768 : Int) % (4294967296 : Int) = ((sl 15 a).toNat : Int) := n_slk a 15
theorem rr17 (a : R) : (a.toNat : Int) / (131072 : Int) = ((sr 17 a).toNat : Int) := n_shrk a 17
theorem rs18 (a : R) : (a.toNat : Int) * (16384 : Int) % (4294967296 : Int) = ((sl 14 a).toNat : Int) := n_slk a 14
theorem rr18 (a : R) : (a.toNat : Int) / (262144 : Int) = ((sr 18 a).toNat : Int) := n_shrk a 18
theorem rs19 (a : R) : (a.toNat : Int) * (8192 : Int) % (4294967296 : Int) = ((sl 13 a).toNat : Int) := n_slk a 13
theorem rr19 (a : R) : (a.toNat : Int) / (524288 : Int) = ((sr 19 a).toNat : Int) := n_shrk a 19
theorem rs22 (a : R) : (a.toNat : Int) * (1024 : Int) % (4294967296 : Int) = ((sl 10 a).toNat : Int) := n_slk a 10
theorem rr22 (a : R) : (a.toNat : Int) / (4194304 : Int) = ((sr 22 a).toNat : Int) := n_shrk a 22
theorem rs25 (a : R) : (a.toNat : Int) * (128 : Int) % (4294967296 : Int) = ((sl 7 a).toNat : Int) := n_slk a 7
theorem rr25 (a : R) : (a.toNat : Int) / (33554432 : Int) = ((sr 25 a).toNat : Int) := n_shrk a 25
attribute [local go_sem] rb2 rs2 rr2 rb6 rs6 rr6 rb7 rs7 rr7 rb11 rs11 rr11 rb13 rs13 rr13 rb17 rs17 rr17 rb18 rs18 rr18 rb19 rs19 rr19 rb22 rs22 rr22 rb25 rs25 rr25
theorem rot_2 (x : R) (w : World) : Calls Tryd.prog 86 #[.int .u32 (x.toNat : Int), .int .i64 (-2)] w fun e w' => e = .returned (.int .u32 ((turnR 2 x).toNat : Int)) ∧ w = w' := by
  go_enter Tryd.func86, Tryd.ntmps86
  go_wp2_with fail
  go_ret
  exact ⟨by rw [og_comm]; rfl, rfl⟩
theorem turned_2 (x : R) (w : World) : Calls Tryd.prog 82 #[.int .u32 (x.toNat : Int), .int .i64 2] w fun e w' => e = .returned (.int .u32 ((turnR 2 x).toNat : Int)) ∧ w = w' := by
  go_enter Tryd.func82, Tryd.ntmps82
  go_wp2_with fail
  refine (rot_2 x _).mono ?_
  rintro e w' ⟨rfl, rfl⟩
  go_wp2_with fail
  go_ret
  exact ⟨rfl, rfl⟩
theorem rot_6 (x : R) (w : World) : Calls Tryd.prog 86 #[.int .u32 (x.toNat : Int), .int .i64 (-6)] w fun e w' => e = .returned (.int .u32 ((turnR 6 x).toNat : Int)) ∧ w = w' := by
  go_enter Tryd.func86, Tryd.ntmps86
  go_wp2_with fail
  go_ret
  exact ⟨by rw [og_comm]; rfl, rfl⟩
theorem turned_6 (x : R) (w : World) : Calls Tryd.prog 82 #[.int .u32 (x.toNat : Int), .int .i64 6] w fun e w' => e = .returned (.int .u32 ((turnR 6 x).toNat : Int)) ∧ w = w' := by
  go_enter Tryd.func82, Tryd.ntmps82
  go_wp2_with fail
  refine (rot_6 x _).mono ?_
  rintro e w' ⟨rfl, rfl⟩
  go_wp2_with fail
  go_ret
  exact ⟨rfl, rfl⟩
theorem rot_7 (x : R) (w : World) : Calls Tryd.prog 86 #[.int .u32 (x.toNat : Int), .int .i64 (-7)] w fun e w' => e = .returned (.int .u32 ((turnR 7 x).toNat : Int)) ∧ w = w' := by
  go_enter Tryd.func86, Tryd.ntmps86
  go_wp2_with fail
  go_ret
  exact ⟨by rw [og_comm]; rfl, rfl⟩
theorem turned_7 (x : R) (w : World) : Calls Tryd.prog 82 #[.int .u32 (x.toNat : Int), .int .i64 7] w fun e w' => e = .returned (.int .u32 ((turnR 7 x).toNat : Int)) ∧ w = w' := by
  go_enter Tryd.func82, Tryd.ntmps82
  go_wp2_with fail
  refine (rot_7 x _).mono ?_
  rintro e w' ⟨rfl, rfl⟩
  go_wp2_with fail
  go_ret
  exact ⟨rfl, rfl⟩
theorem rot_11 (x : R) (w : World) : Calls Tryd.prog 86 #[.int .u32 (x.toNat : Int), .int .i64 (-11)] w fun e w' => e = .returned (.int .u32 ((turnR 11 x).toNat : Int)) ∧ w = w' := by
  go_enter Tryd.func86, Tryd.ntmps86
  go_wp2_with fail
  go_ret
  exact ⟨by rw [og_comm]; rfl, rfl⟩
theorem turned_11 (x : R) (w : World) : Calls Tryd.prog 82 #[.int .u32 (x.toNat : Int), .int .i64 11] w fun e w' => e = .returned (.int .u32 ((turnR 11 x).toNat : Int)) ∧ w = w' := by
  go_enter Tryd.func82, Tryd.ntmps82
  go_wp2_with fail
  refine (rot_11 x _).mono ?_
  rintro e w' ⟨rfl, rfl⟩
  go_wp2_with fail
  go_ret
  exact ⟨rfl, rfl⟩
theorem rot_13 (x : R) (w : World) : Calls Tryd.prog 86 #[.int .u32 (x.toNat : Int), .int .i64 (-13)] w fun e w' => e = .returned (.int .u32 ((turnR 13 x).toNat : Int)) ∧ w = w' := by
  go_enter Tryd.func86, Tryd.ntmps86
  go_wp2_with fail
  go_ret
  exact ⟨by rw [og_comm]; rfl, rfl⟩
theorem turned_13 (x : R) (w : World) : Calls Tryd.prog 82 #[.int .u32 (x.toNat : Int), .int .i64 13] w fun e w' => e = .returned (.int .u32 ((turnR 13 x).toNat : Int)) ∧ w = w' := by
  go_enter Tryd.func82, Tryd.ntmps82
  go_wp2_with fail
  refine (rot_13 x _).mono ?_
  rintro e w' ⟨rfl, rfl⟩
  go_wp2_with fail
  go_ret
  exact ⟨rfl, rfl⟩
theorem rot_17 (x : R) (w : World) : Calls Tryd.prog 86 #[.int .u32 (x.toNat : Int), .int .i64 (-17)] w fun e w' => e = .returned (.int .u32 ((turnR 17 x).toNat : Int)) ∧ w = w' := by
  go_enter Tryd.func86, Tryd.ntmps86
  go_wp2_with fail
  go_ret
  exact ⟨by rw [og_comm]; rfl, rfl⟩
theorem turned_17 (x : R) (w : World) : Calls Tryd.prog 82 #[.int .u32 (x.toNat : Int), .int .i64 17] w fun e w' => e = .returned (.int .u32 ((turnR 17 x).toNat : Int)) ∧ w = w' := by
  go_enter Tryd.func82, Tryd.ntmps82
  go_wp2_with fail
  refine (rot_17 x _).mono ?_
  rintro e w' ⟨rfl, rfl⟩
  go_wp2_with fail
  go_ret
  exact ⟨rfl, rfl⟩
theorem rot_18 (x : R) (w : World) : Calls Tryd.prog 86 #[.int .u32 (x.toNat : Int), .int .i64 (-18)] w fun e w' => e = .returned (.int .u32 ((turnR 18 x).toNat : Int)) ∧ w = w' := by
  go_enter Tryd.func86, Tryd.ntmps86
  go_wp2_with fail
  go_ret
  exact ⟨by rw [og_comm]; rfl, rfl⟩
theorem turned_18 (x : R) (w : World) : Calls Tryd.prog 82 #[.int .u32 (x.toNat : Int), .int .i64 18] w fun e w' => e = .returned (.int .u32 ((turnR 18 x).toNat : Int)) ∧ w = w' := by
  go_enter Tryd.func82, Tryd.ntmps82
  go_wp2_with fail
  refine (rot_18 x _).mono ?_
  rintro e w' ⟨rfl, rfl⟩
  go_wp2_with fail
  go_ret
  exact ⟨rfl, rfl⟩
theorem rot_19 (x : R) (w : World) : Calls Tryd.prog 86 #[.int .u32 (x.toNat : Int), .int .i64 (-19)] w fun e w' => e = .returned (.int .u32 ((turnR 19 x).toNat : Int)) ∧ w = w' := by
  go_enter Tryd.func86, Tryd.ntmps86
  go_wp2_with fail
  go_ret
  exact ⟨by rw [og_comm]; rfl, rfl⟩
theorem turned_19 (x : R) (w : World) : Calls Tryd.prog 82 #[.int .u32 (x.toNat : Int), .int .i64 19] w fun e w' => e = .returned (.int .u32 ((turnR 19 x).toNat : Int)) ∧ w = w' := by
  go_enter Tryd.func82, Tryd.ntmps82
  go_wp2_with fail
  refine (rot_19 x _).mono ?_
  rintro e w' ⟨rfl, rfl⟩
  go_wp2_with fail
  go_ret
  exact ⟨rfl, rfl⟩
theorem rot_22 (x : R) (w : World) : Calls Tryd.prog 86 #[.int .u32 (x.toNat : Int), .int .i64 (-22)] w fun e w' => e = .returned (.int .u32 ((turnR 22 x).toNat : Int)) ∧ w = w' := by
  go_enter Tryd.func86, Tryd.ntmps86
  go_wp2_with fail
  go_ret
  exact ⟨by rw [og_comm]; rfl, rfl⟩
theorem turned_22 (x : R) (w : World) : Calls Tryd.prog 82 #[.int .u32 (x.toNat : Int), .int .i64 22] w fun e w' => e = .returned (.int .u32 ((turnR 22 x).toNat : Int)) ∧ w = w' := by
  go_enter Tryd.func82, Tryd.ntmps82
  go_wp2_with fail
  refine (rot_22 x _).mono ?_
  rintro e w' ⟨rfl, rfl⟩
  go_wp2_with fail
  go_ret
  exact ⟨rfl, rfl⟩
theorem rot_25 (x : R) (w : World) : Calls Tryd.prog 86 #[.int .u32 (x.toNat : Int), .int .i64 (-25)] w fun e w' => e = .returned (.int .u32 ((turnR 25 x).toNat : Int)) ∧ w = w' := by
  go_enter Tryd.func86, Tryd.ntmps86
  go_wp2_with fail
  go_ret
  exact ⟨by rw [og_comm]; rfl, rfl⟩
theorem turned_25 (x : R) (w : World) : Calls Tryd.prog 82 #[.int .u32 (x.toNat : Int), .int .i64 25] w fun e w' => e = .returned (.int .u32 ((turnR 25 x).toNat : Int)) ∧ w = w' := by
  go_enter Tryd.func82, Tryd.ntmps82
  go_wp2_with fail
  refine (rot_25 x _).mono ?_
  rintro e w' ⟨rfl, rfl⟩
  go_wp2_with fail
  go_ret
  exact ⟨rfl, rfl⟩
end Go.Proofs.YtgacdimjbpkgoaaDoor
