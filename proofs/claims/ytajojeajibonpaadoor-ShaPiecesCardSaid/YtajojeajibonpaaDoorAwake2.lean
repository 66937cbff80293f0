/- Contract: the law's own 'awake': true. -/
import Derived.Test.YtajojeajibonpaaDoorOwnSum
import Derived.Test.YtajojeajibonpaaDoorOwnText
import Derived.Test.YtajojeajibonpaaDoorOwnRead
import Derived.Test.YtajojeajibonpaaDoorOrders
namespace Go.Proofs.YtajojeajibonpaaDoor
open Go.RowKit Crc

def abcL : List UInt8 := [98, 97, 55, 56, 49, 54, 98, 102, 56, 102, 48, 49, 99, 102, 101, 97, 52, 49, 52, 49, 52, 48, 100, 101, 53, 100, 97, 101, 50, 50, 50, 51, 98, 48, 48, 51, 54, 49, 97, 51, 57, 54, 49, 55, 55, 97, 57, 99, 98, 52, 49, 48, 102, 102, 54, 49, 102, 50, 48, 48, 49, 53, 97, 100]
def noneL : List UInt8 := [101, 51, 98, 48, 99, 52, 52, 50, 57, 56, 102, 99, 49, 99, 49, 52, 57, 97, 102, 98, 102, 52, 99, 56, 57, 57, 54, 102, 98, 57, 50, 52, 50, 55, 97, 101, 52, 49, 101, 52, 54, 52, 57, 98, 57, 51, 52, 99, 97, 52, 57, 53, 57, 57, 49, 98, 55, 56, 53, 50, 98, 56, 53, 53]
def abc3 : List UInt8 := [97, 98, 99]
theorem read_abc : readB abcL = sha abc3 ∧ readE abcL = 0 := by rw [abc3, sha_abc]; decide +kernel
theorem text_abc : textB (sha abc3) = abcL := by rw [abc3, sha_abc]; decide +kernel
theorem text_none : textB (sha []) = noneL := by rw [sha_none]; decide +kernel
theorem sum_nil (w : World) (hG : Glob w) : Calls Tryd.prog 12 #[.slice none 0 0] w fun e w' => e = .returned (.agg (bcells (sha []))) ∧ Below w.heap.size w w' :=
  sum_calls 0 0 0 none [] w (SB.nil _ _ _) (Nat.le_refl _) hG (by omega)
theorem sum_abc (B : Nat) (A : Option Addr) (w : World) (hG : Glob w) (hs : SB w B A 3 abc3) : Calls Tryd.prog 12 #[.slice A 3 3] w fun e w' => e = .returned (.agg (bcells (sha abc3))) ∧ Below w.heap.size w w' :=
  sum_calls B 3 3 A abc3 w hs (Nat.le_refl _) hG (by omega)
theorem text_none_calls (w : World) : Calls Tryd.prog 23 #[.agg (bcells (sha []))] w fun e w' => e = .returned (.string { data := #[101, 51, 98, 48, 99, 52, 52, 50, 57, 56, 102, 99, 49, 99, 49, 52, 57, 97, 102, 98, 102, 52, 99, 56, 57, 57, 54, 102, 98, 57, 50, 52, 50, 55, 97, 101, 52, 49, 101, 52, 54, 52, 57, 98, 57, 51, 52, 99, 97, 52, 57, 53, 57, 57, 49, 98, 55, 56, 53, 50, 98, 56, 53, 53] }) ∧ Below w.heap.size w w' := by
  have h := text_calls (sha []) rfl w
  rw [text_none] at h
  exact h
theorem text_abc_calls (w : World) : Calls Tryd.prog 23 #[.agg (bcells (sha abc3))] w fun e w' => e = .returned (.string { data := #[98, 97, 55, 56, 49, 54, 98, 102, 56, 102, 48, 49, 99, 102, 101, 97, 52, 49, 52, 49, 52, 48, 100, 101, 53, 100, 97, 101, 50, 50, 50, 51, 98, 48, 48, 51, 54, 49, 97, 51, 57, 54, 49, 55, 55, 97, 57, 99, 98, 52, 49, 48, 102, 102, 54, 49, 102, 50, 48, 48, 49, 53, 97, 100] }) ∧ Below w.heap.size w w' := by
  have h := text_calls (sha abc3) rfl w
  rw [text_abc] at h
  exact h
theorem read_abc_calls (w : World) : Calls Tryd.prog 19 #[.string { data := #[98, 97, 55, 56, 49, 54, 98, 102, 56, 102, 48, 49, 99, 102, 101, 97, 52, 49, 52, 49, 52, 48, 100, 101, 53, 100, 97, 101, 50, 50, 50, 51, 98, 48, 48, 51, 54, 49, 97, 51, 57, 54, 49, 55, 55, 97, 57, 99, 98, 52, 49, 48, 102, 102, 54, 49, 102, 50, 48, 48, 49, 53, 97, 100] }] w fun e w' => e = .returned (.tuple #[.agg (bcells (sha abc3)), .int .i64 0]) ∧ Below w.heap.size w w' := by
  have h := own_read_calls abcL w
  rw [read_abc.1, read_abc.2] at h
  exact h
theorem sha3_length : (sha abc3).length = 32 := rfl

set_option maxHeartbeats 4000000 in
set_option maxRecDepth 100000 in
theorem awake_calls (w : World) (hG : Glob w) : Calls Tryd.prog 10 #[] w fun e w' => e = .returned (.bool true) ∧ Below w.heap.size w w' := by
  have hz := (zero_of_info info26).1
  have HG := hid hG; clear hG
  go_enter Tryd.func10, Tryd.ntmps10
  go_wp2_with fail
  refine (read_abc_calls _).mono ?_
  rintro _ w1 ⟨rfl, b1⟩
  have EC : Hid ((Tryd.prog.info? 26).map (·.size) = some (bcells (sha abc3)).size) := by rw [Hid, bcells_size, sha3_length]; exact (zero_of_info info26).2
  have Hsz : Hid ((bcells (zeroB 32)).size = (bcells (sha abc3)).size) := by rw [Hid, bcells_size, bcells_size, sha3_length]; rfl
  have K2 := hid (Blk.new w1 26 (bcells (zeroB 32)))
  have B2 := hid (b1.alloc (Nat.le_trans (Nat.le_refl _) b1.size) (.cells (bcells (zeroB 32)) 26))
  have lb := b1.size
  clear b1
  go_wp2_with (refine wpList_store_blk rfl 26 _ _ rfl w1.heap.size _ rfl rfl 26 _ K2.out EC.out Hsz.out (bcells_oneCell _) ?_)
  have k3 := K2.out.setRow (bcells (sha abc3))
  have b3 := B2.out.trans (below_of_grown (grown_setRow (w1.alloc (.cells (bcells (zeroB 32)) 26)) w1.heap.size (bcells (sha abc3))) B2.out.size (fun g' e => by cases e; exact lb))
  generalize (w1.alloc (.cells (bcells (zeroB 32)) 26)).setRow w1.heap.size (bcells (sha abc3)) = w3 at k3 b3 ⊢
  generalize w1.heap.size = g at k3 ⊢
  have heq : ∀ W, (Op.equalIn 10000 26 (.agg (bcells (sha abc3))) (.agg (bcells (sha abc3)))).run Tryd.prog W = .ok true W := fun W => by
    have := run_equal_arr (P := Tryd.prog) 26 5 32 Tryd.underlying26 Tryd.underlying5 (by kernel_rfl) (sha abc3) (sha abc3) rfl rfl W
    rw [beq_self_eq_true] at this
    exact this
  have K3 := hid k3.drew; have B3 := hid b3.drew; have G3 := hid (show Glob w3.drew from (HG.out.keep b3 : Glob w3))
  clear K2 B2 lb hz k3 b3 HG Hsz
  refine wp_region_orders (by kernel_rfl)
    [[0, 1, 2, 3, 4, 5, 6, 7, 8, 9, 10, 11, 12, 13, 14, 15, 16, 17, 18, 19, 20, 21],
     [0, 1, 2, 3, 4, 5, 6, 7, 8, 9, 10, 12, 11, 13, 14, 15, 16, 17, 18, 19, 20, 21],
     [0, 1, 2, 3, 4, 5, 6, 7, 8, 9, 10, 12, 13, 11, 14, 15, 16, 17, 18, 19, 20, 21],
     [0, 1, 2, 3, 4, 5, 6, 7, 8, 9, 10, 12, 13, 14, 11, 15, 16, 17, 18, 19, 20, 21]] (by kernel_rfl) ?_
  generalize w3.drew = w4 at K3 B3 G3 ⊢
  refine List.forall_mem_cons.2 ⟨?_, List.forall_mem_cons.2 ⟨?_, List.forall_mem_cons.2 ⟨?_, List.forall_mem_cons.2 ⟨?_, fun _ h => by cases h⟩⟩⟩⟩
  all_goals
    (simp only [List.filterMap_cons, List.filterMap_nil, List.getElem?_cons_succ, List.getElem?_cons_zero]
     try dsimp only
     repeat (first | ((with_reducible refine wpList_load_blk_g ?_ 26 (.tmp 1) ?_ g ?_ 26 _ K3.out _ _ Tryd.underlying26 EC.out ?_); exact rfl; exact rfl; exact rfl) | ((with_reducible refine wpList_load_blk_g ?_ 26 (.tmp 1) ?_ g ?_ 26 _ (K3.out.alloc _) _ _ Tryd.underlying26 EC.out ?_); exact rfl; exact rfl; exact rfl) | go_values | go_guarded | go_step | go_upon | go_back)
     refine (sum_nil _ G3.out).mono ?_
     rintro _ w5 ⟨rfl, bx⟩
     have K3 := hid (K3.out.keep bx); have G3 := hid (G3.out.keep bx); have B3 := hid (B3.out.trans (bx.mono B3.out.size))
     clear bx
     try dsimp only
     repeat (first | ((with_reducible refine wpList_load_blk_g ?_ 26 (.tmp 1) ?_ g ?_ 26 _ K3.out _ _ Tryd.underlying26 EC.out ?_); exact rfl; exact rfl; exact rfl) | ((with_reducible refine wpList_load_blk_g ?_ 26 (.tmp 1) ?_ g ?_ 26 _ (K3.out.alloc _) _ _ Tryd.underlying26 EC.out ?_); exact rfl; exact rfl; exact rfl) | go_values | go_guarded | go_step | go_upon | go_back)
     refine (text_none_calls _).mono ?_
     rintro _ w6 ⟨rfl, bx⟩
     have K3 := hid (K3.out.keep bx); have G3 := hid (G3.out.keep bx); have B3 := hid (B3.out.trans (bx.mono B3.out.size))
     clear bx
     try dsimp only
     repeat (first | ((with_reducible refine wpList_load_blk_g ?_ 26 (.tmp 1) ?_ g ?_ 26 _ K3.out _ _ Tryd.underlying26 EC.out ?_); exact rfl; exact rfl; exact rfl) | ((with_reducible refine wpList_load_blk_g ?_ 26 (.tmp 1) ?_ g ?_ 26 _ (K3.out.alloc _) _ _ Tryd.underlying26 EC.out ?_); exact rfl; exact rfl; exact rfl) | go_values | go_guarded | go_step | go_upon | go_back)
     refine upon_text _ 22 5 Tryd.underlying22 Tryd.underlying5 _ abc3 rfl 3 rfl ?_
     intro w7 sx bx
     have K3 := hid (K3.out.keep bx); have G3 := hid (G3.out.keep bx); have B3 := hid (B3.out.trans (bx.mono B3.out.size)); have SX := hid sx
     clear bx sx
     try dsimp only
     repeat (first | ((with_reducible refine wpList_load_blk_g ?_ 26 (.tmp 1) ?_ g ?_ 26 _ K3.out _ _ Tryd.underlying26 EC.out ?_); exact rfl; exact rfl; exact rfl) | ((with_reducible refine wpList_load_blk_g ?_ 26 (.tmp 1) ?_ g ?_ 26 _ (K3.out.alloc _) _ _ Tryd.underlying26 EC.out ?_); exact rfl; exact rfl; exact rfl) | go_values | go_guarded | go_step | go_upon | go_back)
     refine (sum_abc _ _ _ G3.out SX.out).mono ?_
     rintro _ w8 ⟨rfl, bx⟩
     have K3 := hid (K3.out.keep bx); have G3 := hid (G3.out.keep bx); have B3 := hid (B3.out.trans (bx.mono B3.out.size))
     clear bx
     try dsimp only
     repeat (first | ((with_reducible refine wpList_load_blk_g ?_ 26 (.tmp 1) ?_ g ?_ 26 _ K3.out _ _ Tryd.underlying26 EC.out ?_); exact rfl; exact rfl; exact rfl) | ((with_reducible refine wpList_load_blk_g ?_ 26 (.tmp 1) ?_ g ?_ 26 _ (K3.out.alloc _) _ _ Tryd.underlying26 EC.out ?_); exact rfl; exact rfl; exact rfl) | go_values | go_guarded | go_step | go_upon | go_back)
     refine (text_abc_calls _).mono ?_
     rintro _ w9 ⟨rfl, bx⟩
     have K3 := hid (K3.out.keep bx); have G3 := hid (G3.out.keep bx); have B3 := hid (B3.out.trans (bx.mono B3.out.size))
     clear bx
     try dsimp only
     repeat (first | ((with_reducible refine wpList_load_blk_g ?_ 26 (.tmp 1) ?_ g ?_ 26 _ K3.out _ _ Tryd.underlying26 EC.out ?_); exact rfl; exact rfl; exact rfl) | ((with_reducible refine wpList_load_blk_g ?_ 26 (.tmp 1) ?_ g ?_ 26 _ (K3.out.alloc _) _ _ Tryd.underlying26 EC.out ?_); exact rfl; exact rfl; exact rfl) | go_values | go_guarded | go_step | go_upon | go_back)
     refine upon_text _ 22 5 Tryd.underlying22 Tryd.underlying5 _ abc3 rfl 3 rfl ?_
     intro w10 sx bx
     have K3 := hid (K3.out.keep bx); have G3 := hid (G3.out.keep bx); have B3 := hid (B3.out.trans (bx.mono B3.out.size)); have SX := hid sx
     clear bx sx
     try dsimp only
     repeat (first | ((with_reducible refine wpList_load_blk_g ?_ 26 (.tmp 1) ?_ g ?_ 26 _ K3.out _ _ Tryd.underlying26 EC.out ?_); exact rfl; exact rfl; exact rfl) | ((with_reducible refine wpList_load_blk_g ?_ 26 (.tmp 1) ?_ g ?_ 26 _ (K3.out.alloc _) _ _ Tryd.underlying26 EC.out ?_); exact rfl; exact rfl; exact rfl) | go_values | go_guarded | go_step | go_upon | go_back)
     refine (sum_abc _ _ _ G3.out SX.out).mono ?_
     rintro _ w11 ⟨rfl, bx⟩
     have K3 := hid (K3.out.keep bx); have G3 := hid (G3.out.keep bx); have B3 := hid (B3.out.trans (bx.mono B3.out.size))
     clear bx
     try dsimp only
     repeat (first | ((with_reducible refine wpList_load_blk_g ?_ 26 (.tmp 1) ?_ g ?_ 26 _ K3.out _ _ Tryd.underlying26 EC.out ?_); exact rfl; exact rfl; exact rfl) | ((with_reducible refine wpList_load_blk_g ?_ 26 (.tmp 1) ?_ g ?_ 26 _ (K3.out.alloc _) _ _ Tryd.underlying26 EC.out ?_); exact rfl; exact rfl; exact rfl) | go_values | go_guarded | go_step | go_upon | go_back)
     go_ret
     exact ⟨rfl, B3.out⟩)
end Go.Proofs.YtajojeajibonpaaDoor
