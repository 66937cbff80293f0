/- Contract: the reference's Read. -/
import Derived.Test.YtajojeajibonpaaDoorShaCut
import Derived.Test.YtajojeajibonpaaDoorShaDigit
import Derived.Test.YtajojeajibonpaaDoorStr
import Derived.Test.YtajojeajibonpaaDoorHex
import Derived.Test.YtajojeajibonpaaDoorQuietC
import Derived.Test.YtajojeajibonpaaDoorShaCmp
namespace Go.Proofs.YtajojeajibonpaaDoor
open Go.RowKit Crc
theorem refRead_long (l : List UInt8) (w : World) (hl : l.length ≠ 64) :
    Calls Tryd.prog 20 #[.string (strB l)] w fun e w' => e = .returned (.tuple #[.agg (bcells (zeroB 32)), .int .i64 5]) ∧ Below w.heap.size w w' := by
  have hz := (zero_of_info info26).1
  have hsz : (strB l).size = l.length := by simp [strB]; rfl
  have hne : ((l.length : Int) == 64) = false := by rw [beq_eq_false_iff_ne]; omega
  have hne' : ((l.length : Int) != 64) = true := by rw [bne, hne]; rfl
  have k1 := Blk.new w 26 (bcells (zeroB 32))
  have b1 := below_new w (.cells (bcells (zeroB 32)) 26)
  have K1 := hid k1; have B1 := hid b1; clear k1 b1
  have EC : Hid ((Tryd.prog.info? 26).map (·.size) = some (bcells (zeroB 32)).size) := (zero_of_info info26).2
  go_enter Tryd.func20, Tryd.ntmps20
  go_wp2_with (refine wpList_store_blk rfl 26 _ _ rfl w.heap.size _ rfl rfl 26 _ K1.out EC.out rfl (bcells_oneCell _) ?_)
  refine bodyPost_ret (v := .tuple #[.agg (bcells (zeroB 32)), .int .i64 5]) (results_cell_tmp rfl _ _ w.heap.size 26 _ _ _ rfl rfl (K1.out.setRow _) Tryd.underlying26 EC.out) rfl ⟨rfl, ?_⟩
  exact B1.out.trans (below_of_grown (grown_setRow _ _ _) B1.out.size (fun g' e => by cases e; omega))
theorem read_set (done : List UInt8) (z : UInt8) (j : Nat) (hd : done.length = j) (hj : j < 32) : (bcells (done ++ zeroB (32 - j))).setIfInBounds j (.int .u8 (z.toNat : Int)) = bcells ((done ++ [z]) ++ zeroB (32 - (j + 1))) := by
  have : (done ++ zeroB (32 - j)).set j z = (done ++ [z]) ++ zeroB (32 - (j + 1)) := by
    rw [List.set_append_right _ _ (by omega), hd, Nat.sub_self, zeroB, zeroB, show 32 - j = (32 - (j + 1)) + 1 by omega, List.replicate_succ, List.set_cons_zero]
    simp
  rw [← this]; simp [bcells, List.map_set, bv]
theorem read_comp (done : List UInt8) (z : UInt8) : ((done ++ ·) ∘ (z :: ·) : List UInt8 → List UInt8) = ((done ++ [z]) ++ ·) := by funext t; simp
theorem or_hex8 (a b : Nat) (ha : a < 16) (hb : b < 16) : bits .or .u8 ((a : Int) * 16) (b : Int) = ((UInt8.ofNat (16 * a + b)).toNat : Int) := by
  have : ∀ a b : Fin 16, bits .or .u8 (((a.val : Nat) : Int) * 16) ((b.val : Nat) : Int) = ((UInt8.ofNat (16 * a.val + b.val)).toNat : Int) := by decide +kernel
  exact this ⟨a, ha⟩ ⟨b, hb⟩
set_option maxHeartbeats 4000000 in
set_option maxRecDepth 20000 in
theorem refRead_even (l : List UInt8) (w : World) (hl : l.length = 64) :
    Calls Tryd.prog 20 #[.string (strB l)] w fun e w' => e = .returned (.tuple #[.agg (bcells (readB l)), .int .i64 (readE l)]) ∧ Below w.heap.size w w' := by
  have hz := (zero_of_info info26).1
  have hsz : (strB l).size = 64 := by rw [← hl]; rfl
  have k1 := (Blk.new w 26 (bcells (zeroB 32))).alloc (.cells (bcells (zeroB 32)) 26)
  have k2 := Blk.new (w.alloc (.cells (bcells (zeroB 32)) 26)) 26 (bcells (zeroB 32))
  have b1 := (((Below.refl w.heap.size w).alloc (Nat.le_refl _) (.cells (bcells (zeroB 32)) 26)).alloc (by rw [size_new]; omega) (.cells (bcells (zeroB 32)) 26))
  rw [size_new] at k2
  have K1 := hid k1; have K2 := hid k2; have B1 := hid b1; clear k1 k2 b1
  have EC : Hid ((Tryd.prog.info? 26).map (·.size) = some (bcells (zeroB 32)).size) := (zero_of_info info26).2
  go_enter Tryd.func20, Tryd.ntmps20
  go_wp2_with fail
  generalize (w.alloc (.cells (bcells (zeroB 32)) 26)).alloc (.cells (bcells (zeroB 32)) 26) = wA at K1 K2 B1 ⊢
  generalize hg : w.heap.size = g at K1 K2 B1 ⊢
  have HG := hid hg; clear hg
  go_loopw [5] (fun i wr => ∃ (j : Nat) (done : List UInt8), j ≤ 32 ∧ done.length = j ∧ i = .int .i64 (j : Int) ∧ Hid ((readP (l.drop (2 * j))).map (done ++ ·) = readP l) ∧ Hid (Blk wr (g + 1) 26 (bcells (done ++ zeroB (32 - j)))) ∧ Hid (Blk wr g 26 (bcells (zeroB 32))) ∧ Hid (Below g w wr)) (fun i _ => 32 - (intOf i).toNat)
  case atStart => exact ⟨0, [], by omega, rfl, rfl, by show Option.map _ (readP (l.drop 0)) = _; simp, K2, K1, B1⟩
  case round =>
    clear K2 K1 B1
    obtain ⟨j, done, hj, hd', rfl, HR, K2, K1, HB⟩ := hrel
    by_cases hlt : j < 32
    · have hlt' : (j : Int) < 32 := by omega
      have p0 : IntKind.i64.wrap (2 * (j : Int)) = 2 * (j : Int) := IntWalk.i64_in _ (by omega)
      have p1 : IntKind.i64.wrap (2 * (j : Int) + 1) = 2 * (j : Int) + 1 := IntWalk.i64_in _ (by omega)
      have q0 : (0 : Int) ≤ 2 * (j : Int) := by omega
      have q1 : 2 * (j : Int) < 64 := by omega
      have q2 : (0 : Int) ≤ 2 * (j : Int) + 1 := by omega
      have q3 : 2 * (j : Int) + 1 < 64 := by omega
      have r0 : (2 * (j : Int)).toNat = 2 * j := by omega
      have r1 : (2 * (j : Int) + 1).toNat = 2 * j + 1 := by omega
      obtain ⟨x, hx⟩ : ∃ x, l[2 * j]'(by omega) = x := ⟨_, rfl⟩
      obtain ⟨y, hy⟩ : ∃ y, l[2 * j + 1]'(by omega) = y := ⟨_, rfl⟩
      have ex : (strB l)[2 * j]'(by omega) = x := hx
      have ey : (strB l)[2 * j + 1]'(by omega) = y := hy
      have HX := hid hx; have HY := hid hy; clear hx hy
      go_wp2_with fail
      have hcx := digit_calls x.toNat
      have hcy := digit_calls y.toNat
      have hlx := digitN_le x.toNat
      have hly := digitN_le y.toNat
      have hR := HR.out
      rw [List.drop_eq_getElem_cons (l := l) (i := 2 * j) (by omega), List.drop_eq_getElem_cons (l := l) (i := 2 * j + 1) (by omega), HX.out, HY.out, readP_cons, show 2 * j + 1 + 1 = 2 * (j + 1) by omega] at hR
      have HR2 := hid hR; clear hR HR
      generalize hdx : digitN x.toNat = dx at hcx hlx HR2
      generalize hdy : digitN y.toNat = dy at hcy hly HR2
      have HCX := hid hcx; have HCY := hid hcy
      clear hdx hdy hcx hcy
      refine wp_region_class (fun w' => Blk w' (g + 1) _ _ ∧ Blk w' g _ _ ∧ Below g w w') (by kernel_rfl) (by kernel_rfl) ⟨K2.out.drew, K1.out.drew, HB.out.drew⟩ ?_
      intro S _ at_ hS hin
      have HhS := hid hS; have Hin := hid hin; clear hS hin
      repeat (refine wpQuiet_step (fun K hK => ?_); go_simp; refine hK _ ?_; clear hK K)
      refine quiet_call rfl 39 #[.int .u8 (x.toNat : Int)] (fun w => by go_simp) _ (fun z => (HCX.out (at_ z) x.toNat_lt).mono fun e w' ⟨he, hw⟩ => ⟨he, z, hw⟩) ?_
      repeat (refine wpQuiet_step (fun K hK => ?_); go_simp; refine hK _ ?_; clear hK K)
      refine quiet_call rfl 39 #[.int .u8 (y.toNat : Int)] (fun w => by go_simp) _ (fun z => (HCY.out (at_ z) y.toNat_lt).mono fun e w' ⟨he, hw⟩ => ⟨he, z, hw⟩) ?_
      repeat (refine wpQuiet_step (fun K hK => ?_); go_simp; refine hK _ ?_; clear hK K)
      refine wpQuiet_nil ?_
      clear HhS Hin
      rintro w' ⟨k2, k1, b1⟩
      have K2 := hid k2; have K1 := hid k1; have HB := hid b1
      clear k1 k2 b1
      clear HCX HCY HX HY ex ey
      by_cases hd : dx = 16 ∨ dy = 16
      · have HN := HR2.out
        rw [if_pos hd] at HN
        have HNN : Hid (readP l = none) := hid HN.symm
        clear HN HR2
        by_cases hdx : dx = 16
        · subst hdx
          go_wp2_with (refine wpList_store_blk rfl 26 _ _ rfl g _ rfl rfl 26 _ K1.out EC.out rfl (bcells_oneCell _) ?_)
          refine bodyPost_ret (v := .tuple #[.agg (bcells (zeroB 32)), .int .i64 5]) (results_cell_tmp rfl _ _ g 26 _ _ _ rfl rfl (K1.out.setRow _) Tryd.underlying26 EC.out) rfl ⟨by rw [readB, readE, if_pos hl, if_pos hl, HNN.out]; rfl, ?_⟩
          rw [HG.out]
          exact HB.out.trans (below_of_grown (grown_setRow _ _ _) (Nat.le_of_lt K1.out.lt) (fun g' e => by cases e; omega))
        · have hdx' : ((dx : Int) == 16) = false := beq_eq_false_iff_ne.2 (by omega)
          obtain rfl : dy = 16 := by omega
          go_wp2_with (refine wpList_store_blk rfl 26 _ _ rfl g _ rfl rfl 26 _ K1.out EC.out rfl (bcells_oneCell _) ?_)
          refine bodyPost_ret (v := .tuple #[.agg (bcells (zeroB 32)), .int .i64 5]) (results_cell_tmp rfl _ _ g 26 _ _ _ rfl rfl (K1.out.setRow _) Tryd.underlying26 EC.out) rfl ⟨by rw [readB, readE, if_pos hl, if_pos hl, HNN.out]; rfl, ?_⟩
          rw [HG.out]
          exact HB.out.trans (below_of_grown (grown_setRow _ _ _) (Nat.le_of_lt K1.out.lt) (fun g' e => by cases e; omega))
      · have HN := HR2.out
        rw [if_neg hd] at HN
        have HR3 := hid HN
        clear HN HR2
        have hdx' : ((dx : Int) == 16) = false := beq_eq_false_iff_ne.2 (by omega)
        have hdy' : ((dy : Int) == 16) = false := beq_eq_false_iff_ne.2 (by omega)
        have hb := or_hex8 dx dy (by omega) (by omega)
        obtain ⟨z, hzj⟩ : ∃ z : UInt8, (bcells (done ++ zeroB (32 - j)))[j]? = some (.int .u8 (z.toNat : Int)) := ⟨0, by rw [bcells_at (x := 0) (by rw [List.getElem?_append_right (by omega), hd', Nat.sub_self, zeroB, show 32 - j = (31 - j) + 1 by omega, List.replicate_succ]; rfl)]⟩
        have c0 := K2.out.cell j hzj
        have f0 := K2.out.frozen j
        clear hzj
        go_wp2_with fail
        have h := K2.out.set_ j (.int .u8 ((UInt8.ofNat (16 * dx + dy)).toNat : Int))
        rw [read_set done _ j hd' hlt] at h
        have H := hid h; clear h
        have hR4 := HR3.out
        rw [Option.map_map, read_comp] at hR4
        have HR4 := hid hR4; clear hR4 HR3
        go_roundw
        case rel => exact ⟨j + 1, done ++ [UInt8.ofNat (16 * dx + dy)], by omega, by rw [List.length_append, hd']; rfl, by go_num, HR4, H, K1.out.far (by show ¬ g = g + 1; omega) _, HB.out.setCell (p := ⟨g + 1, j, none⟩) (by show g ≤ g + 1; omega) _⟩
        case measure => simp [intOf]; omega
    · obtain rfl : j = 32 := by omega
      have q0 : ¬ ((32 : Nat) : Int) < 32 := by omega
      have hR := HR.out
      rw [List.drop_of_length_le (by omega)] at hR
      have hD : Hid (readP l = some done) := by rw [Hid, ← hR]; simp [readP]
      clear hR HR
      have k2 := K2.out
      rw [show 32 - 32 = 0 from rfl, show zeroB 0 = [] from rfl, List.append_nil] at k2
      have ED : Hid ((Tryd.prog.info? 26).map (·.size) = some (bcells done).size) := by rw [Hid, bcells_size, hd']; exact (zero_of_info info26).2
      have Hsz : Hid ((bcells (zeroB 32)).size = (bcells done).size) := by rw [Hid, bcells_size, bcells_size, hd']; rfl
      have K2 := hid k2; clear k2
      go_wp2_with (first
        | (refine wpList_load_blk rfl 26 _ rfl (g + 1) rfl 26 _ K2.out _ _ Tryd.underlying26 ED.out ?_)
        | (refine wpList_store_blk rfl 26 _ _ rfl g _ rfl rfl 26 _ K1.out ED.out Hsz.out (bcells_oneCell _) ?_))
      refine bodyPost_ret (v := .tuple #[.agg (bcells done), .int .i64 0]) (results_cell_tmp rfl _ _ g 26 _ _ _ rfl rfl (K1.out.setRow _) Tryd.underlying26 ED.out) rfl ⟨by rw [readB, readE, if_pos hl, if_pos hl, hD.out]; rfl, ?_⟩
      rw [HG.out]
      exact HB.out.trans (below_of_grown (grown_setRow _ _ _) (Nat.le_of_lt K1.out.lt) (fun g' e => by cases e; omega))
theorem refRead_calls (l : List UInt8) (w : World) :
    Calls Tryd.prog 20 #[.string (strB l)] w fun e w' => e = .returned (.tuple #[.agg (bcells (readB l)), .int .i64 (readE l)]) ∧ Below w.heap.size w w' := by
  by_cases h : l.length = 64
  · exact refRead_even l w h
  · have e1 : readB l = zeroB 32 := by rw [readB, if_neg h]
    have e2 : readE l = 5 := by rw [readE, if_neg h]
    rw [e1, e2]
    exact refRead_long l w h
end Go.Proofs.YtajojeajibonpaaDoor
