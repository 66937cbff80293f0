/- Contracts of package blob: New, Used, Width, Room, IDs of a store without blobs. -/
import Derived.Test.YtoogaapjdlhpbaaDoorBlGet
import Derived.Maps.RangeWalk
namespace Go.Proofs.YtoogaapjdlhpbaaDoor
open Go.RowKit Crc

set_option maxRecDepth 20000 in
theorem new_bad (wd rm : Int) (w : World) (h : wd < 1 ∨ 32 < wd ∨ rm < 0 ∨ 67108864 < rm) :
    Calls Tryd.prog 8 #[.int .i64 wd, .int .i64 rm] w fun e w' => e = .returned (.tuple #[.pointer none, .int .i64 3]) ∧ w = w' := by
  by_cases h1 : wd < 1
  · clear h
    go_enter Tryd.func8, Tryd.ntmps8
    go_wp2_with fail
    go_ret2
    exact ⟨rfl, rfl⟩
  · by_cases h2 : 32 < wd
    · clear h
      go_enter Tryd.func8, Tryd.ntmps8
      go_wp2_with fail
      go_ret2
      exact ⟨rfl, rfl⟩
    · by_cases h3 : rm < 0
      · clear h
        go_enter Tryd.func8, Tryd.ntmps8
        go_wp2_with fail
        go_ret2
        exact ⟨rfl, rfl⟩
      · have h4 : 67108864 < rm := by omega
        clear h
        go_enter Tryd.func8, Tryd.ntmps8
        go_wp2_with fail
        go_ret2
        exact ⟨rfl, rfl⟩
theorem new_two (w : World) (cs : Array Value) : ∃ W, (w.alloc (.map #[] 0)).alloc (.cells cs 54) = W ∧ MapP W w.heap.size 0 (fun _ => none) ∧ Blk W (w.heap.size + 1) 54 cs ∧ Below w.heap.size w W := by
  have a1 := MapP.new w
  have z1 := size_new w (.map #[] 0)
  have q1 := below_new w (.map #[] 0)
  generalize w.alloc (.map #[] 0) = w1 at a1 z1 q1 ⊢
  have a2 := Blk.new w1 54 cs
  have q2 := below_new w1 (.cells cs 54)
  rw [z1] at a2
  have a3 := a1.keep q2
  have b2 := q1.trans (q2.mono q1.size)
  exact ⟨_, rfl, a3, a2, b2⟩
def NewP (w : World) (wd rm : Nat) (e : Ending) (w' : World) : Prop := ∃ s m F, e = .returned (.tuple #[.pointer (some ⟨s, 0, none⟩), .int .i64 0]) ∧ StB w' F s m 0 ⟨wd, rm, []⟩ (fun _ => none) ∧ Below w.heap.size w w' ∧ ∀ x ∈ F, w.heap.size ≤ x
set_option maxRecDepth 20000 in
set_option maxHeartbeats 1000000 in
theorem new_calls (wd rm : Nat) (w : World) (h1 : 1 ≤ wd) (h2 : wd ≤ 32) (h3 : rm ≤ 67108864) :
    Calls Tryd.prog 8 #[.int .i64 (wd : Int), .int .i64 (rm : Int)] w (NewP w wd rm) := by
  obtain ⟨W, hW, hm, hb, hbb⟩ := new_two w #[.pointer (some ⟨w.heap.size + 1, 0, none⟩), .int .i64 (wd : Int), .int .i64 (rm : Int), .int .i64 0, .map (some w.heap.size)]
  have HEnd := hid (show StB W [w.heap.size + 1, w.heap.size] (w.heap.size + 1) w.heap.size 0 ⟨wd, rm, []⟩ (fun _ => none) ∧ Below w.heap.size w W from
    ⟨⟨⟨h1, h2, h3, fun p hp => (by cases hp), fun p hp => (by cases hp), Nat.zero_le _, List.nodup_nil⟩, hb, hm, by simp, by simp, by omega, fun _ _ => trivial, fun x hx => by have h1 := hb.lt; have h2 := hm.lt; simp at hx; omega⟩, hbb⟩)
  rw [← hW] at HEnd
  clear hW hm hb hbb
  have p1 : ¬ (wd : Int) < 1 := by omega
  have p2 : ¬ 32 < (wd : Int) := by omega
  have p3 : ¬ (rm : Int) < 0 := by omega
  have p4 : ¬ 67108864 < (rm : Int) := by omega
  have p5 : ¬ wd < 1 := by omega
  have p6 : ¬ 32 < wd := by omega
  have p7 : ¬ wd = 0 := by omega
  have hmm := @run_makeMap Tryd.prog
  clear h1 h2 h3
  go_enter Tryd.func8, Tryd.ntmps8
  go_wp2_with fail
  go_ret2
  unfold NewP
  exact ⟨w.heap.size + 1, w.heap.size, [w.heap.size + 1, w.heap.size], rfl, HEnd.out.1, HEnd.out.2, fun x hx => by simp at hx; omega⟩
section
variable {w : World} {F : List Nat} {s m k : Nat} {b : BS} {f0 : List UInt8 → Option Nat}
theorem used_calls (hs : StB w F s m k b f0) : Calls Tryd.prog 23 #[.pointer (some ⟨s, 0, none⟩)] w fun e w' => e = .returned (.int .i64 (usedB b.l : Int)) ∧ w = w' := by
  have HV := hid (bvalid_calls s _ _ _ _ w hs.hd)
  have c3 : w.cell? ⟨s, 3, none⟩ = some (.int .i64 (usedB b.l : Int)) := hs.hd.cell 3 rfl
  clear hs
  go_enter Tryd.func23, Tryd.ntmps23
  go_wp2_with fail
  refine HV.out.mono ?_
  rintro _ _ ⟨rfl, rfl⟩
  go_wp2_with fail
  go_ret
  exact ⟨rfl, rfl⟩
theorem width_calls (hs : StB w F s m k b f0) : Calls Tryd.prog 25 #[.pointer (some ⟨s, 0, none⟩)] w fun e w' => e = .returned (.int .i64 (b.width : Int)) ∧ w = w' := by
  have HV := hid (bvalid_calls s _ _ _ _ w hs.hd)
  have c3 : w.cell? ⟨s, 1, none⟩ = some (.int .i64 (b.width : Int)) := hs.hd.cell 1 rfl
  clear hs
  go_enter Tryd.func25, Tryd.ntmps25
  go_wp2_with fail
  refine HV.out.mono ?_
  rintro _ _ ⟨rfl, rfl⟩
  go_wp2_with fail
  go_ret
  exact ⟨rfl, rfl⟩
theorem room_calls (hs : StB w F s m k b f0) : Calls Tryd.prog 26 #[.pointer (some ⟨s, 0, none⟩)] w fun e w' => e = .returned (.int .i64 (b.room : Int)) ∧ w = w' := by
  have HV := hid (bvalid_calls s _ _ _ _ w hs.hd)
  have c3 : w.cell? ⟨s, 2, none⟩ = some (.int .i64 (b.room : Int)) := hs.hd.cell 2 rfl
  clear hs
  go_enter Tryd.func26, Tryd.ntmps26
  go_wp2_with fail
  refine HV.out.mono ?_
  rintro _ _ ⟨rfl, rfl⟩
  go_wp2_with fail
  go_ret
  exact ⟨rfl, rfl⟩
end
end Go.Proofs.YtoogaapjdlhpbaaDoor
