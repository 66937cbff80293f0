/- Contract: the project's Read. -/
import Derived.Test.YtajojeajibonpaaDoorOwnIx
import Derived.Test.YtajojeajibonpaaDoorStr
import Derived.Test.YtajojeajibonpaaDoorCells2
namespace Go.Proofs.YtajojeajibonpaaDoor
open Go.RowKit Crc

theorem run_index_str (l : List UInt8) (i : Int) (k : Nat) (x : UInt8) (hi : i = (k : Int)) (hx : l[k]? = some x) (w : World) : (Instr.index 9 (.string (strB l)) (.int .i64 i)).run Tryd.prog w = .ok (.int .u8 (x.toNat : Int)) w := by
  subst hi
  have hx' : (strB l)[k]? = some x := by
    have hk : k < l.length := (List.getElem?_eq_some_iff.1 hx).1
    have e : l[k] = x := (List.getElem?_eq_some_iff.1 hx).2
    show (if h : k < (strB l).size then some ((strB l)[k]) else none) = _
    rw [dif_pos (show k < (strB l).size from hk)]
    exact congrArg some e
  simp [Instr.index, run_underlying Tryd.underlying9, asIntOf, hx']

theorem own_read_long (l : List UInt8) (w : World) (hl : l.length ≠ 64) :
    Calls Tryd.prog 19 #[.string (strB l)] w fun e w' => e = .returned (.tuple #[.agg (bcells (zeroB 32)), .int .i64 5]) ∧ Below w.heap.size w w' := by
  have hz := (zero_of_info info26).1
  have hsz : (strB l).size = l.length := by simp [strB]; rfl
  have hne : ((l.length : Int) == 64) = false := by rw [beq_eq_false_iff_ne]; omega
  have hne' : ((l.length : Int) != 64) = true := by rw [bne, hne]; rfl
  have K1 := hid ((Blk.new w 26 (bcells (zeroB 32))).alloc (.cells (bcells (zeroB 32)) 26))
  have B1 := hid ((below_new w (.cells (bcells (zeroB 32)) 26)).alloc (by rw [size_new]; omega) (.cells (bcells (zeroB 32)) 26))
  have EC : Hid ((Tryd.prog.info? 26).map (·.size) = some (bcells (zeroB 32)).size) := (zero_of_info info26).2
  go_enter Tryd.func19, Tryd.ntmps19
  go_wp2_with (refine wpList_store_blk rfl 26 _ _ rfl w.heap.size _ rfl rfl 26 _ K1.out EC.out rfl (bcells_oneCell _) ?_)
  refine bodyPost_ret (v := .tuple #[.agg (bcells (zeroB 32)), .int .i64 5]) (results_cell_tmp rfl _ _ w.heap.size 26 _ _ _ rfl rfl (K1.out.setRow _) Tryd.underlying26 EC.out) rfl ⟨rfl, ?_⟩
  exact B1.out.trans (below_of_grown (grown_setRow _ _ _) B1.out.size (fun g' e => by cases e; omega))

theorem done_set (done : List UInt8) (j : Nat) (b : UInt8) (hd : done.length = j) (hj : j < 32) : (bcells (done ++ zeroB (32 - j))).setIfInBounds j (bv b) = bcells ((done ++ [b]) ++ zeroB (32 - (j + 1))) := by
  have hz : zeroB (32 - j) = 0 :: zeroB (32 - (j + 1)) := by rw [zeroB, zeroB, show 32 - j = (32 - (j + 1)) + 1 by omega, List.replicate_succ]
  have : (done ++ zeroB (32 - j)).set j b = (done ++ [b]) ++ zeroB (32 - (j + 1)) := by
    rw [hz, List.set_append_right _ _ (by omega), hd, Nat.sub_self, List.set_cons_zero, List.append_assoc]; rfl
  rw [← this]; simp [bcells, List.map_set]
theorem done_at (done : List UInt8) (j : Nat) (hd : done.length = j) (hj : j < 32) : (bcells (done ++ zeroB (32 - j)))[j]? = some (.int .u8 0) := by
  have : (done ++ zeroB (32 - j))[j]? = some 0 := by
    rw [List.getElem?_append_right (by omega), hd, Nat.sub_self, zeroB, List.getElem?_replicate, if_pos (by omega)]
  rw [bcells, List.getElem?_toArray, List.getElem?_map, this]; rfl

set_option maxHeartbeats 4000000 in
set_option maxRecDepth 100000 in
theorem own_read_even (l : List UInt8) (w : World) (hl : l.length = 64) :
    Calls Tryd.prog 19 #[.string (strB l)] w fun e w' => e = .returned (.tuple #[.agg (bcells (readB l)), .int .i64 (readE l)]) ∧ Below w.heap.size w w' := by
  have hz := (zero_of_info info26).1
  have hsz : (strB l).size = 64 := by rw [← hl]; rfl
  have K1 := hid ((Blk.new w 26 (bcells (zeroB 32))).alloc (.cells (bcells (zeroB 32)) 26))
  have k2 := Blk.new (w.alloc (.cells (bcells (zeroB 32)) 26)) 26 (bcells (zeroB 32))
  rw [size_new] at k2
  have B1 := hid (((Below.refl w.heap.size w).alloc (Nat.le_refl _) (.cells (bcells (zeroB 32)) 26)).alloc (by rw [size_new]; omega) (.cells (bcells (zeroB 32)) 26))
  have K2 := hid k2; clear k2
  have EC : Hid ((Tryd.prog.info? 26).map (·.size) = some (bcells (zeroB 32)).size) := (zero_of_info info26).2
  have HL := hid hl; clear hl
  go_enter Tryd.func19, Tryd.ntmps19
  go_wp2_with fail
  clear hz hsz
  generalize (w.alloc (.cells (bcells (zeroB 32)) 26)).alloc (.cells (bcells (zeroB 32)) 26) = wA at K1 K2 B1 ⊢
  generalize hg : w.heap.size = g at K1 K2 B1 ⊢
  have HG := hid hg; clear hg
  go_loopw [12] (fun i wr => ∃ (j : Nat) (done : List UInt8), j ≤ 32 ∧ i = .int .i64 (j : Int) ∧ Hid (done.length = j) ∧ Hid ((readP (l.drop (2 * j))).map (done ++ ·) = readP l) ∧ Hid (Blk wr (g + 1) 26 (bcells (done ++ zeroB (32 - j)))) ∧ Hid (Blk wr g 26 (bcells (zeroB 32))) ∧ Hid (Below g w wr)) (fun i _ => 32 - (intOf i).toNat)
  case atStart => exact ⟨0, [], by omega, rfl, rfl, by show Option.map _ (readP (l.drop 0)) = _; simp, K2, K1, B1⟩
  case round =>
    clear K2 K1 B1
    obtain ⟨j, done, hj, rfl, HD, HR, K2, K1, HB⟩ := hrel
    by_cases hlt : j < 32
    · have h0 : 2 * j < l.length := by rw [HL.out]; omega
      have h1 : 2 * j + 1 < l.length := by rw [HL.out]; omega
      have ex : l[2 * j]? = some l[2 * j] := List.getElem?_eq_getElem h0
      have ey : l[2 * j + 1]? = some l[2 * j + 1] := List.getElem?_eq_getElem h1
      have hdr : l.drop (2 * j) = l[2 * j] :: l[2 * j + 1] :: l.drop (2 * (j + 1)) := by
        rw [List.drop_eq_getElem_cons h0, List.drop_eq_getElem_cons h1]; rfl
      have hr := HR.out
      rw [hdr, readP_cons] at hr
      generalize l[2 * j] = x at ex hr
      generalize l[2 * j + 1] = y at ey hr
      have i0 := run_index_str l (2 * (j : Int)) (2 * j) x (by omega) ex
      have i1 := run_index_str l (2 * (j : Int) + 1) (2 * j + 1) y (by omega) ey
      have p0 : IntKind.i64.wrap (2 * (j : Int)) = 2 * (j : Int) := IntWalk.i64_in _ (by omega)
      have p1 : IntKind.i64.wrap (2 * (j : Int) + 1) = 2 * (j : Int) + 1 := IntWalk.i64_in _ (by omega)
      have q0 : (j : Int) < 32 := by omega
      have HR' := hid hr
      clear ex ey hdr hr h0 h1 HR
      by_cases hx : digitN x.toNat = 16
      · --DEV
        have hix : hexI x = -1 := by rw [hexI, if_pos hx]
        have hnone : readP l = none := by rw [← HR'.out, if_pos (.inl hx)]; rfl
        have HN : Hid (readB l = zeroB 32 ∧ readE l = 5) := by rw [Hid, readB, readE, if_pos HL.out, if_pos HL.out, hnone]; exact ⟨rfl, rfl⟩
        have e1 := ix_calls x
        have hy : True := trivial
        rw [hix] at e1
        clear hx hix hnone hy
        go_wp2_with fail
        refine (e1 _).mono ?_
        rintro e w' ⟨rfl, rfl⟩
        clear e1
        go_wp2_with fail
        refine (ix_calls y _).mono ?_
        rintro e w' ⟨rfl, rfl⟩
        generalize hexI y = hy
        have hz := (zero_of_info info26).1
        go_wp2_with (refine wpList_store_blk rfl 26 _ _ rfl g _ rfl rfl 26 _ K1.out EC.out rfl (bcells_oneCell _) ?_)
        refine bodyPost_ret (v := .tuple #[.agg (bcells (zeroB 32)), .int .i64 5]) (results_cell_tmp rfl _ _ g 26 _ _ _ rfl rfl (K1.out.setRow _) Tryd.underlying26 EC.out) rfl ⟨by rw [HN.out.1, HN.out.2], ?_⟩
        rw [HG.out]
        exact HB.out.trans (below_of_grown (grown_setRow _ _ _) (Nat.le_of_lt K1.out.lt) (fun g' e => by cases e; omega))
        --VED
      · by_cases hy : digitN y.toNat = 16
        · --DEV
          have hix : hexI x = (digitN x.toNat : Int) := by rw [hexI, if_neg hx]
          have hiy : hexI y = -1 := by rw [hexI, if_pos hy]
          have hnone : readP l = none := by rw [← HR'.out, if_pos (.inr hy)]; rfl
          have HN : Hid (readB l = zeroB 32 ∧ readE l = 5) := by rw [Hid, readB, readE, if_pos HL.out, if_pos HL.out, hnone]; exact ⟨rfl, rfl⟩
          have e1 := ix_calls x; have e2 := ix_calls y
          rw [hix] at e1
          rw [hiy] at e2
          generalize digitN x.toNat = a at e1
          clear hx hix hnone hy hiy
          have a0 : ¬ ((a : Int) < 0) := by omega
          go_wp2_with fail
          refine (e1 _).mono ?_
          rintro e w' ⟨rfl, rfl⟩
          clear e1
          go_wp2_with fail
          refine (e2 _).mono ?_
          rintro e w' ⟨rfl, rfl⟩
          clear e2
          have hz := (zero_of_info info26).1
          go_wp2_with (refine wpList_store_blk rfl 26 _ _ rfl g _ rfl rfl 26 _ K1.out EC.out rfl (bcells_oneCell _) ?_)
          refine bodyPost_ret (v := .tuple #[.agg (bcells (zeroB 32)), .int .i64 5]) (results_cell_tmp rfl _ _ g 26 _ _ _ rfl rfl (K1.out.setRow _) Tryd.underlying26 EC.out) rfl ⟨by rw [HN.out.1, HN.out.2], ?_⟩
          rw [HG.out]
          exact HB.out.trans (below_of_grown (grown_setRow _ _ _) (Nat.le_of_lt K1.out.lt) (fun g' e => by cases e; omega))
          --VED
        · have hix : hexI x = (digitN x.toNat : Int) := by rw [hexI, if_neg hx]
          have hiy : hexI y = (digitN y.toNat : Int) := by rw [hexI, if_neg hy]
          have hr := HR'.out
          rw [if_neg (by intro h; rcases h with h | h; exact hx h; exact hy h)] at hr
          have e1 := ix_calls x; have e2 := ix_calls y
          rw [hix] at e1
          rw [hiy] at e2
          have ha : digitN x.toNat < 16 := by have := digitN_le x.toNat; omega
          have hb : digitN y.toNat < 16 := by have := digitN_le y.toNat; omega
          generalize digitN x.toNat = a at e1 ha hr
          generalize digitN y.toNat = b at e2 hb hr
          have ho := or_hex a b ha hb
          rw [Int.natCast_add, Int.natCast_mul] at ho
          clear hx hix hy hiy HR'
          have HRR := hid hr; clear hr
          have a0 : ¬ ((a : Int) < 0) := by omega
          have b0 : ¬ ((b : Int) < 0) := by omega
          have hab : (16 : Int) * (a : Int) + (b : Int) = (((UInt8.ofNat (16 * a + b)).toNat : Nat) : Int) := by rw [UInt8.toNat_ofNat']; omega
          have c2 := K2.out.cell j (done_at done j HD.out hlt)
          have f2 := K2.out.frozen j
          have h2 := K2.out.set_ j (bv (UInt8.ofNat (16 * a + b)))
          rw [done_set done j _ HD.out hlt] at h2
          generalize UInt8.ofNat (16 * a + b) = z at h2 hab HRR
          have H2 := hid h2; have HAB := hid hab; clear h2 hab
          have p3 : (0 : Int) ≤ (j : Int) := by omega
          have a1 : (a : Int) < 16 := by omega
          go_wp2_with fail
          refine (e1 _).mono ?_
          rintro e w' ⟨rfl, rfl⟩
          clear e1
          go_wp2_with fail
          refine (e2 _).mono ?_
          rintro e w' ⟨rfl, rfl⟩
          clear e2
          go_wp2_with fail
          rw [HAB.out]
          go_roundw
          case rel =>
            refine ⟨j + 1, done ++ [z], by omega, by go_num, by show (done ++ [z]).length = j + 1; rw [List.length_append, HD.out]; rfl, ?_, H2, K1.out.far (by show ¬ g = g + 1; omega) _, HB.out.setCell (p := ⟨g + 1, j, none⟩) (by show g ≤ g + 1; omega) _⟩
            rw [Hid, ← HRR.out, Option.map_map]
            congr 1
            funext m
            simp
          case measure => simp [intOf]; omega
    · obtain rfl : j = 32 := by omega
      have q0 : ¬ ((32 : Nat) : Int) < 32 := by omega
      have hr := HR.out
      rw [List.drop_of_length_le (by rw [HL.out]; exact Nat.le_refl _)] at hr
      have hr2 : readP l = some done := by rw [← hr]; show some (done ++ []) = _; rw [List.append_nil]
      have HR2 : Hid (readB l = done ∧ readE l = 0) := by rw [Hid, readB, readE, if_pos HL.out, if_pos HL.out, hr2]; exact ⟨rfl, rfl⟩
      have k2 := K2.out
      rw [show done ++ zeroB (32 - 32) = done from List.append_nil done] at k2
      have EC2 : Hid ((Tryd.prog.info? 26).map (·.size) = some (bcells done).size) := by rw [Hid, bcells_size, HD.out]; exact (zero_of_info info26).2
      have Hsz : Hid ((bcells (zeroB 32)).size = (bcells done).size) := by rw [Hid, bcells_size, bcells_size, HD.out]; rfl
      clear hr hr2 HR
      go_wp2_with (first
        | (refine wpList_load_blk rfl 26 _ rfl (g + 1) rfl 26 _ k2 _ _ Tryd.underlying26 EC2.out ?_)
        | (refine wpList_store_blk rfl 26 _ _ rfl g _ rfl rfl 26 _ K1.out EC2.out Hsz.out (bcells_oneCell _) ?_))
      refine bodyPost_ret (v := .tuple #[.agg (bcells done), .int .i64 0]) (results_cell_tmp rfl _ _ g 26 _ _ _ rfl rfl (K1.out.setRow _) Tryd.underlying26 EC2.out) rfl ⟨by rw [HR2.out.1, HR2.out.2], ?_⟩
      rw [HG.out]
      exact HB.out.trans (below_of_grown (grown_setRow _ _ _) (Nat.le_of_lt K1.out.lt) (fun g' e => by cases e; omega))

theorem own_read_calls (l : List UInt8) (w : World) :
    Calls Tryd.prog 19 #[.string (strB l)] w fun e w' => e = .returned (.tuple #[.agg (bcells (readB l)), .int .i64 (readE l)]) ∧ Below w.heap.size w w' := by
  by_cases h : l.length = 64
  · exact own_read_even l w h
  · have e1 : readB l = zeroB 32 := by rw [readB, if_neg h]
    have e2 : readE l = 5 := by rw [readE, if_neg h]
    rw [e1, e2]
    exact own_read_long l w h
end Go.Proofs.YtajojeajibonpaaDoor
