/- The example of Title that the law asks for each time. -/
import Derived.Test.YtgbjnndebdmijaaDoorNmTag2
import Derived.Laws.BitsAllLaws
namespace Go.Proofs.YtgbjnndebdmijaaDoor
open Go.RowKit
attribute [local go_sem] eql_func eql_none run_mkF

def titleS : ByteArray := ⟨#[76, 195, 164, 100, 101, 110, 32, 55]⟩
def props : List (Nat × Int) := [(76, 160), (228, 192), (100, 192), (101, 192), (110, 192), (32, 144), (55, 132)]
/-- the cells of package unicode's table that are read -/
def NGlob (w : World) : Prop := ∀ i x, (i, x) ∈ props → w.cell? ⟨0, i, none⟩ = some (.int .u8 x)
theorem NGlob.lt {w : World} (h : NGlob w) : 0 < w.heap.size := lt_of_cell (h 76 160 (by decide))
theorem NGlob.keep {w w' : World} (h : NGlob w) (hb : Below w.heap.size w w') : NGlob w' := fun i x hx => (hb.cell (p := ⟨0, i, none⟩) h.lt).trans (h i x hx)
theorem NGlob.grown {w w' : World} {g : Nat} (h : NGlob w) (hb : w.grownBy w' (some g)) (hg : 0 < g) : NGlob w' := fun i x hx => by
  rw [← h i x hx]; exact World.cell?_of_block (hb.block 0 h.lt (fun e => by cases e; omega))

theorem isPrint_at (i : Nat) (x : Int) (h : (i, x) ∈ props) (w : World) (hG : NGlob w) : Calls Tryd.prog 34 #[.int .i32 (i : Int)] w fun e w' => e = .returned (.bool true) ∧ w = w' := by
  have hc := hG i x h
  clear hG
  simp only [props, List.mem_cons, Prod.mk.injEq, List.not_mem_nil, or_false] at h
  rcases h with ⟨rfl, rfl⟩ | ⟨rfl, rfl⟩ | ⟨rfl, rfl⟩ | ⟨rfl, rfl⟩ | ⟨rfl, rfl⟩ | ⟨rfl, rfl⟩ | ⟨rfl, rfl⟩
  all_goals
    go_enter Tryd.func34, Tryd.ntmps34
    go_wp2_with fail
    go_ret
    exact ⟨rfl, rfl⟩
theorem printed_at (i : Nat) (x : Int) (h : (i, x) ∈ props) (w : World) (hG : NGlob w) : Calls Tryd.prog 22 #[.int .i32 (i : Int)] w fun e w' => e = .returned (.bool true) ∧ Below w.heap.size w w' := by
  have HP := hid (isPrint_at i x h w hG)
  clear hG h
  go_enter Tryd.func22, Tryd.ntmps22
  go_wp2_with fail
  refine HP.out.mono ?_
  rintro _ _ ⟨rfl, rfl⟩
  go_wp2_with fail
  go_ret
  exact ⟨rfl, Below.refl _ _⟩
def runCells (k : Nat) : Array Value := #[.func (.func 22) #[] #[], .int .i64 (k : Int), .int .i64 64]
theorem full_calls (g k : Nat) (hk : k < 64) (w : World) (hb : Blk w g 58 (runCells k)) : Calls Tryd.prog 24 #[.pointer (some ⟨g, 0, none⟩)] w fun e w' => e = .returned (.bool false) ∧ Below w.heap.size w w' := by
  have c1 := hb.cell 1 (show (runCells k)[1]? = some (.int .i64 (k : Int)) from rfl)
  have c2 := hb.cell 2 (show (runCells k)[2]? = some (.int .i64 64) from rfl)
  have q : ((k : Int) == 64) = false := beq_eq_false_iff_ne.2 (by omega)
  clear hb
  go_enter Tryd.func24, Tryd.ntmps24
  go_wp2_with fail
  go_quiet (fail)
  go_wp2_with fail
  go_ret
  exact ⟨rfl, ⟨rfl, rfl, rfl, Nat.le_refl _, fun _ _ => rfl⟩⟩
theorem next_at (g k i : Nat) (x : Int) (h : (i, x) ∈ props) (hk : k < 64) (w : World) (hG : NGlob w) (hb : Blk w g 58 (runCells k)) :
    Calls Tryd.prog 23 #[.pointer (some ⟨g, 0, none⟩), .int .i32 (i : Int)] w
      fun e w' => e = .returned (.func (.func 23) #[.pointer (some ⟨g, 0, none⟩)] #[]) ∧ w.grownBy w' (some g) ∧ Blk w' g 58 (runCells (k + 1)) := by
  have hq : ((i : Int) == -1) = false := beq_eq_false_iff_ne.2 (by omega)
  have HF := hid (full_calls g k hk w hb)
  have hE : ∀ args w, (callFunc 22 args).run Tryd.prog w = .ok (.enter 22 args) w := enters_of Tryd.func22 (by kernel_rfl) rfl
  have HH := hid h; have HG := hid hG; have HB := hid hb
  have hk2 : (k : Int) ≤ 64 := by omega
  clear h hG hb
  go_enter Tryd.func23, Tryd.ntmps23
  go_wp2_with fail
  refine HF.out.mono ?_
  rintro _ w1 ⟨rfl, b1⟩
  have HB1 := hid (HB.out.keep b1); have HG1 := hid (HG.out.keep b1)
  have GX := hid (grown_of_below b1 (some g))
  have c0 := HB1.out.cell 0 (show (runCells k)[0]? = some (.func (.func 22) #[] #[]) from rfl)
  clear b1
  go_wp2_with fail
  refine (printed_at i x HH.out w1 HG1.out).mono ?_
  rintro _ w2 ⟨rfl, b2⟩
  have HB2 := hid (HB1.out.keep b2)
  have GY := hid (GX.out.trans (grown_of_below b2 (some g)))
  clear b2 c0
  have c1 := HB2.out.cell 1 (show (runCells k)[1]? = some (.int .i64 (k : Int)) from rfl)
  have f1 := HB2.out.frozen 1
  have k2 := HB2.out.set_ 1 (.int .i64 ((k + 1 : Nat) : Int))
  rw [show (runCells k).setIfInBounds 1 (.int .i64 ((k + 1 : Nat) : Int)) = runCells (k + 1) from rfl] at k2
  have gx := GY.out.trans (grown_setCell w2 g 1 (.int .i64 ((k + 1 : Nat) : Int)))
  have hc : ((k + 1 : Nat) : Int) = (k : Int) + 1 := by omega
  rw [hc] at k2 gx
  have K2 := hid k2; have GZ := hid gx
  clear k2 gx hc
  go_wp2_with fail
  go_ret
  exact ⟨rfl, GZ.out, K2.out⟩
theorem next_end (g : Nat) (w : World) : Calls Tryd.prog 23 #[.pointer (some ⟨g, 0, none⟩), .int .i32 (-1)] w
      fun e w' => e = .returned (.func (.func 33) #[] #[]) ∧ Below w.heap.size w w' := by
  have HE := hid (ends_calls (-1) w)
  go_enter Tryd.func23, Tryd.ntmps23
  go_wp2_with fail
  refine HE.out.mono ?_
  rintro e w2 ⟨rfl, b⟩
  rw [show pick (-1 == (-1 : Int)) (.func (.func 33) #[] #[]) = .func (.func 33) #[] #[] from rfl]
  go_wp2_with fail
  go_ret
  exact ⟨rfl, b⟩
end Go.Proofs.YtgbjnndebdmijaaDoor
