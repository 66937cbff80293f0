/- Contract: strings.Clone, by the library's. -/
import Derived.Test.YtjgnbmkhibdcfaaMem
import Derived.Test.YtjgnbmkhibdcfaaProg
import Derived.Shelf.Strconv.Clone
namespace Go.Proofs.Ytjgnbmkhibdcfaa
open Go.RowKit Go.Shelf

def scRen : Ren where
  f := fun k => if k = 316 then 73 else 0
  t := fun k => if k = 3 then 3 else if k = 4 then 4 else if k = 5 then 5 else if k = 9 then 9 else if k = 37 then 93 else if k = 127 then 136 else 0
  g := fun _ => 0
theorem sc_agg {t : TypeId} (h : (match Try.prog.underlying t with | some (.struct _) => false | some (.array _ _) => false | none => false | _ => true) = true) (w : World) : (isAgg t).run Try.prog w = .ok false w := by
  unfold isAgg
  cases hu : Try.prog.underlying t with
  | none => rw [hu] at h; exact absurd h (by decide)
  | some d =>
    rw [hu] at h
    rw [Sem.run_bind, run_underlying hu w]
    cases d <;> first | (simp; done) | cases h
theorem sc_size {t : TypeId} {n : Nat} (h : (Try.prog.info? t).map (·.size) = some n) (w : World) : (Go.sizeOf t).run Try.prog w = .ok n w := by
  obtain ⟨i, hi, hs⟩ := Option.map_eq_some_iff.1 h
  simp [Go.sizeOf, typeInfo, hi, hs]
theorem sc_zero {t : TypeId} {z : Value} (h : (Try.prog.info? t).map (·.zero) = some (some z)) (w : World) : (zeroValue t).run Try.prog w = .ok z w := by
  obtain ⟨i, hi, hs⟩ := Option.map_eq_some_iff.1 h
  simp [zeroValue, typeInfo, hi, hs]
theorem sc_lays : LaysM.n316 Try.prog scRen where
  mixed := by kernel_rfl
  f316 := by kernel_rfl
  t0 := by kernel_rfl
  a0 := sc_agg (by kernel_rfl)
  z0 := sc_size (by kernel_rfl)
  v0 := sc_zero (by kernel_rfl)
  t3 := by kernel_rfl
  a3 := sc_agg (by kernel_rfl)
  z3 := sc_size (by kernel_rfl)
  v3 := sc_zero (by kernel_rfl)
  t4 := by kernel_rfl
  a4 := sc_agg (by kernel_rfl)
  z4 := sc_size (by kernel_rfl)
  v4 := sc_zero (by kernel_rfl)
  t9 := by kernel_rfl
  a9 := sc_agg (by kernel_rfl)
  z9 := sc_size (by kernel_rfl)
  v9 := sc_zero (by kernel_rfl)
  t37 := by kernel_rfl
  a37 := sc_agg (by kernel_rfl)
  z37 := sc_size (by kernel_rfl)
  v37 := sc_zero (by kernel_rfl)
  t127 := by kernel_rfl
  a127 := sc_agg (by kernel_rfl)
  z127 := sc_size (by kernel_rfl)
  v127 := sc_zero (by kernel_rfl)
  t5 := by kernel_rfl
  a5 := sc_agg (by kernel_rfl)
  z5 := sc_size (by kernel_rfl)
  v5 := sc_zero (by kernel_rfl)
  i0 := by kernel_rfl
  i3 := by kernel_rfl
  i4 := by kernel_rfl
  i5 := by kernel_rfl
  i9 := by kernel_rfl
  i37 := by kernel_rfl
  i127 := by kernel_rfl
theorem sc_clone (s : ByteArray) (w : World) (h : s.size ≤ 281474976710656) : Calls Try.prog 62 #[.string s] w fun e w' => e = .returned (.string s) ∧ Below w.heap.size w w' := by
  have HC := hid (show Calls Try.prog 73 #[.string s] w fun e w' => e = .returned (.string s) ∧ Below w.heap.size w w' from Any.stringslite_Clone sc_lays s w h)
  clear h
  go_enter Try.func62, Try.ntmps62
  go_wp2_with fail
  refine HC.out.mono ?_
  rintro _ w1 ⟨rfl, hb⟩
  have HB := hid hb
  clear hb HC
  go_wp2_with fail
  go_ret
  exact ⟨rfl, HB.out⟩
end Go.Proofs.Ytjgnbmkhibdcfaa
