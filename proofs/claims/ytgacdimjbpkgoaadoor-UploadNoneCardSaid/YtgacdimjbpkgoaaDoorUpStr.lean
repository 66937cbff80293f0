/- Contract: strings.Clone, by the library's. -/
import Derived.Test.YtgacdimjbpkgoaaDoorProg
import Derived.Test.YtgacdimjbpkgoaaDoorMem
import Derived.Shelf.Strconv.Clone
namespace Go.Proofs.YtgacdimjbpkgoaaDoor
open Go.RowKit Go.Shelf

def upRen : Ren where
  f := fun k => if k = 316 then 58 else 0
  t := fun k => if k = 3 then 3 else if k = 4 then 4 else if k = 5 then 5 else if k = 9 then 9 else if k = 37 then 22 else if k = 127 then 128 else 0
  g := fun _ => 0
theorem up_agg {t : TypeId} (h : (match Tryd.prog.underlying t with | some (.struct _) => false | some (.array _ _) => false | none => false | _ => true) = true) (w : World) : (isAgg t).run Tryd.prog w = .ok false w := by
  unfold isAgg
  cases hu : Tryd.prog.underlying t with
  | none => rw [hu] at h; exact absurd h (by decide)
  | some d =>
    rw [hu] at h
    rw [Sem.run_bind, run_underlying hu w]
    cases d <;> first | (simp; done) | cases h
theorem up_size {t : TypeId} {n : Nat} (h : (Tryd.prog.info? t).map (·.size) = some n) (w : World) : (Go.sizeOf t).run Tryd.prog w = .ok n w := by
  obtain ⟨i, hi, hs⟩ := Option.map_eq_some_iff.1 h
  simp [Go.sizeOf, typeInfo, hi, hs]
theorem up_zero {t : TypeId} {z : Value} (h : (Tryd.prog.info? t).map (·.zero) = some (some z)) (w : World) : (zeroValue t).run Tryd.prog w = .ok z w := by
  obtain ⟨i, hi, hs⟩ := Option.map_eq_some_iff.1 h
  simp [zeroValue, typeInfo, hi, hs]
theorem up_lays : LaysM.n316 Tryd.prog upRen where
  mixed := by kernel_rfl
  f316 := by kernel_rfl
  t0 := by kernel_rfl
  a0 := up_agg (by kernel_rfl)
  z0 := up_size (by kernel_rfl)
  v0 := up_zero (by kernel_rfl)
  t3 := by kernel_rfl
  a3 := up_agg (by kernel_rfl)
  z3 := up_size (by kernel_rfl)
  v3 := up_zero (by kernel_rfl)
  t4 := by kernel_rfl
  a4 := up_agg (by kernel_rfl)
  z4 := up_size (by kernel_rfl)
  v4 := up_zero (by kernel_rfl)
  t9 := by kernel_rfl
  a9 := up_agg (by kernel_rfl)
  z9 := up_size (by kernel_rfl)
  v9 := up_zero (by kernel_rfl)
  t37 := by kernel_rfl
  a37 := up_agg (by kernel_rfl)
  z37 := up_size (by kernel_rfl)
  v37 := up_zero (by kernel_rfl)
  t127 := by kernel_rfl
  a127 := up_agg (by kernel_rfl)
  z127 := up_size (by kernel_rfl)
  v127 := up_zero (by kernel_rfl)
  t5 := by kernel_rfl
  a5 := up_agg (by kernel_rfl)
  z5 := up_size (by kernel_rfl)
  v5 := up_zero (by kernel_rfl)
  i0 := by kernel_rfl
  i3 := by kernel_rfl
  i4 := by kernel_rfl
  i5 := by kernel_rfl
  i9 := by kernel_rfl
  i37 := by kernel_rfl
  i127 := by kernel_rfl
theorem up_clone (s : ByteArray) (w : World) (h : s.size ≤ 281474976710656) : Calls Tryd.prog 47 #[.string s] w fun e w' => e = .returned (.string s) ∧ Below w.heap.size w w' := by
  have HC := hid (show Calls Tryd.prog 58 #[.string s] w fun e w' => e = .returned (.string s) ∧ Below w.heap.size w w' from Any.stringslite_Clone up_lays s w h)
  clear h
  go_enter Tryd.func47, Tryd.ntmps47
  go_wp2_with fail
  refine HC.out.mono ?_
  rintro _ w1 ⟨rfl, hb⟩
  have HB := hid hb
  clear hb HC
  go_wp2_with fail
  go_ret
  exact ⟨rfl, HB.out⟩
end Go.Proofs.YtgacdimjbpkgoaaDoor
