/- Contract: the reference's Sum. -/
import Derived.Test.YtajojeajibonpaaDoorShaBlock
import Derived.Test.YtajojeajibonpaaDoorKit0
import Derived.Test.YtajojeajibonpaaDoorShaBytes
import Derived.StillTailTactics
namespace Go.Proofs.YtajojeajibonpaaDoor
open Go.RowKit Crc
attribute [local go_sem] n_low

/-- the length of a slice in a slot: for a loop's measure -/
def lenOf : Value → Nat | .slice _ n _ => n | _ => 0
theorem wpStill_load_blk {P : Program} {ops : Array Oper} {rest : List Oper} {o : Oper} {a : Act} {w : World} {Q : Act → Prop}
    (hg : o.guard = none) (t : TypeId) (x : Operand) (ho : o.op = .load t x) (g : Nat) (hx : a.eval x = .pointer (some ⟨g, 0, none⟩)) (t' : TypeId) (cs : Array Value) (hb : Blk w g t' cs)
    (n : Nat) (e : TypeId) (hu : P.underlying t = some (.array n e)) (hi : (P.info? t).map (·.size) = some cs.size)
    (h : wpStill P ops w Q rest (a.put o.dst (.agg cs))) : wpStill P ops w Q (o :: rest) a := by
  refine wpStill_step (fun K hK => ?_)
  have hw : Region.wanted o (yielded ops a.tmps) = true := by simp [Region.wanted, hg]
  rw [if_pos hw]
  have hr : (execOp a.eval o).run P w = .ok (.value (.agg cs)) w := by
    unfold execOp
    simp only [ho, hx, Instr.loadAt, Instr.sureAddr, Sem.run_bind, Sem.run_pure, Result.andThen_ok, run_loadVar_row w g t' t cs (0, 0) _ hb hu rfl hi]
  unfold Oper.still
  rw [hr, Oper.stillUpon_value]
  exact hK _ h

set_option maxHeartbeats 4000000 in
set_option maxRecDepth 100000 in
theorem refSum_calls2 (B n c : Nat) (A : Option Addr) (bs : List UInt8) (w : World) (hs : SB w B A n bs) (hn : n ≤ 1048576) :
    Calls Tryd.prog 15 #[.slice A n c] w fun e w' => e = .returned (.agg (bcells (sha bs))) ∧ Below w.heap.size w w' := by
  have hz := (zero_of_info info26).1
  have hk2 := Blk.new w 26 (bcells (zeroB 32))
  have hb0 := below_new w (.cells (bcells (zeroB 32)) 26)
  have hz1 := size_new w (.cells (bcells (zeroB 32)) 26)
  have K2 := hid hk2; have B0 := hid hb0; have Z1 := hid hz1
  clear hk2 hb0 hz1
  go_enter Tryd.func15, Tryd.ntmps15
  have ho0 := Own.lit (w.alloc (.cells (bcells (zeroB 32)) 26)) 5 (w.heap.size + 1) [] #[] 0 rfl rfl (by rw [size_new]; omega) (by omega)
  rw [size_new] at ho0
  have hb1 := hid ((below_new w (.cells (bcells (zeroB 32)) 26)).alloc (by rw [size_new]; omega) (.cells #[] 5))
  have k1 := hid ((Blk.new w 26 (bcells (zeroB 32))).alloc (.cells #[] 5))
  have HO0 := hid ho0; clear ho0
  go_wp2_with (at_builtin; refine Held.go ?_)
  clear hz K2 B0 Z1
  generalize (w.alloc (.cells (bcells (zeroB 32)) 26)).alloc (.cells #[] 5) = w1 at HO0 hb1 k1 ⊢
  refine wpList_append_bytes _ rfl _ _ _ rfl 5 Tryd.underlying22 info5' (w.heap.size + 1) _ 0 [] rfl HO0.out B A n c bs rfl (hs.keep hb1.out) (by omega) (Nat.le_of_lt (HO0.out.block _ rfl).2 |> fun _ => k1.out.lt) ?_
  intro v2 w2 o2 g2 _
  have K2 := hid (k1.out.grown g2 (fun e => by have := (HO0.out.block _ e).1; omega))
  have B2 := hid (hb1.out.trans (below_of_grown g2 hb1.out.size (fun g e => by have := (HO0.out.block g e).1; omega)))
  rw [Nat.zero_add, List.nil_append] at o2
  have O2 := hid o2
  clear g2 o2 HO0 hb1 k1
  go_wp2_with (at_builtin; refine Held.go ?_)
  have ho3 := Own.lit w2 5 w2.heap.size [128] #[.int .u8 128] 1 rfl rfl (Nat.le_refl _) (by omega)
  have hb3 := below_new w2 (.cells #[.int .u8 128] 5)
  generalize w2.alloc (.cells #[.int .u8 128] 5) = w3 at ho3 hb3 ⊢
  obtain ⟨A3, c3, e3, _, hs3, _⟩ := ho3.sb
  rw [e3]
  have o3 := O2.out.keep hb3
  refine wpList_append_bytes _ rfl _ _ _ rfl _ Tryd.underlying22 info5' (w.heap.size + 1) _ n bs rfl o3 _ A3 1 c3 [128] rfl hs3 (by omega) (Nat.le_trans K2.out.lt hb3.size) ?_
  intro v4 w4 o4 g4 _
  have K4 := hid ((K2.out.keep hb3).grown g4 (fun e => by have := (o3.block _ e).1; omega))
  have B4 := hid ((B2.out.trans (hb3.mono B2.out.size)).trans (below_of_grown g4 (Nat.le_trans B2.out.size hb3.size) (fun g e => by have := (o3.block g e).1; omega)))
  have O4 := hid o4
  clear o4 g4 o3 ho3 hb3 e3 hs3 K2 B2 O2
  obtain ⟨A4, c4, rfl, _, _, _⟩ := O4.out.sb
  go_wp2_with fail
  go_loopw [3] (fun v wr => ∃ (z : Nat) (A' : Option Addr) (c' : Nat), z ≤ padZ n ∧ v = .slice A' (n + 1 + z) c' ∧ Hid (Own wr (w.heap.size + 1) 5 (.slice A' (n + 1 + z) c') (n + 1 + z) (bs ++ [128] ++ zeroB z)) ∧ Hid (Blk wr w.heap.size 26 (bcells (zeroB 32))) ∧ Hid (Below w.heap.size w wr)) (fun v _ => (n + 1 + padZ n) - lenOf v)
  case atStart => exact ⟨0, A4, c4, by omega, rfl, by simp only [zeroB, List.replicate_zero, List.append_nil]; exact O4, K4, B4⟩
  case round =>
    clear K4 B4 O4
    obtain ⟨z, A', c', hz, rfl, HO, HK, HB⟩ := hrel
    have hz64 := padZ_lt n
    by_cases hlt : z < padZ n
    · have hne : (((n : Int) + 1 + (z : Int) + 8) % 64 == 0) = false := by
        rw [beq_eq_false_iff_ne]; have := padZ_go hlt; omega
      have hne' : (((n : Int) + 1 + (z : Int) + 8) % 64 != 0) = true := by rw [bne, hne]; rfl
      go_wp2_with (at_builtin; refine Held.go ?_)
      clear hne hne'
      have ho3 := Own.lit wr 5 wr.heap.size [0] #[.int .u8 0] 1 rfl rfl (Nat.le_refl _) (by omega)
      have hb3 := below_new wr (.cells #[.int .u8 0] 5)
      generalize wr.alloc (.cells #[.int .u8 0] 5) = w5 at ho3 hb3 ⊢
      obtain ⟨A3, c3, e3, _, hs3, _⟩ := ho3.sb
      rw [e3]
      have o3 := HO.out.keep hb3
      refine wpList_append_bytes _ rfl _ _ _ rfl _ Tryd.underlying22 info5' (w.heap.size + 1) _ (n + 1 + z) _ rfl o3 _ A3 1 c3 [0] rfl hs3 (by omega) (Nat.le_trans HK.out.lt hb3.size) ?_
      intro v6 w6 o6 g6 _
      have K6 := hid ((HK.out.keep hb3).grown g6 (fun e => by have := (o3.block _ e).1; omega))
      have B6 := hid ((HB.out.trans (hb3.mono HB.out.size)).trans (below_of_grown g6 (Nat.le_trans HB.out.size hb3.size) (fun g e => by have := (o3.block g e).1; omega)))
      rw [List.append_assoc, show zeroB z ++ [0] = zeroB (z + 1) by rw [zeroB, zeroB, List.replicate_succ']] at o6
      have O6 := hid o6
      clear o6 g6 o3 ho3 hb3 e3 hs3 HK HB HO
      obtain ⟨A6, c6, rfl, _, _, _⟩ := O6.out.sb
      go_wp2_with fail
      go_roundw
      case rel => exact ⟨z + 1, A6, c6, by omega, rfl, O6, K6, B6⟩
      case measure => simp [lenOf]; omega
    · obtain rfl : z = padZ n := by omega
      have hne : (((n : Int) + 1 + (padZ n : Int) + 8) % 64 == 0) = true := by
        rw [beq_iff_eq]; have := padZ_stop n; omega
      have hne' : (((n : Int) + 1 + (padZ n : Int) + 8) % 64 != 0) = false := by rw [bne, hne]; rfl
      go_wp2_with fail
      clear hne hne' hlt hz
      have HD0 : Hid ((bs ++ [128] ++ zeroB (padZ n)) ++ bitBytes n 8 = padded bs) := by
        have hl := hs.1
        show _ = _
        rw [padded, hl]; rfl
      go_loopw [3, 5] (fun v i wr => ∃ (j : Nat) (A' : Option Addr) (c' : Nat) (done : List UInt8), j ≤ 8 ∧ v = .slice A' (n + 1 + padZ n + (8 - j)) c' ∧ i = .int .i64 ((j : Int) - 1) ∧ Hid (done ++ bitBytes n j = padded bs) ∧ Hid (Own wr (w.heap.size + 1) 5 (.slice A' (n + 1 + padZ n + (8 - j)) c') (n + 1 + padZ n + (8 - j)) done) ∧ Hid (Blk wr w.heap.size 26 (bcells (zeroB 32))) ∧ Hid (Below w.heap.size w wr)) (fun _ i _ => (intOf i + 1).toNat)
      case atStart => exact ⟨8, A', c', _, by omega, rfl, rfl, HD0, HO, HK, HB⟩
      case round =>
        clear HO HK HB HD0
        obtain ⟨j, A', c', done, hj, rfl, rfl, HD, HO, HK, HB⟩ := hrel
        by_cases hlt : 0 < j
        · obtain ⟨i, rfl⟩ : ∃ i, j = i + 1 := ⟨j - 1, by omega⟩
          rw [show (((i + 1 : Nat) : Int) - 1) = (i : Int) by omega]
          have p0 : (0 : Int) ≤ (i : Int) := by omega
          have r0 : (8 * (i : Int)).toNat = 8 * i := by omega
          have p1 : (0 : Int) ≤ 8 * (i : Int) := by omega
          have p2 : ¬ (8 * (i : Int) < 0) := by omega
          go_wp2_with (at_builtin; refine Held.go ?_)
          rw [n_byte]
          have eb : done ++ (UInt8.ofNat (8 * n / 2 ^ (8 * i)) :: bitBytes n i) = padded bs := HD.out
          generalize UInt8.ofNat (8 * n / 2 ^ (8 * i)) = b at eb ⊢
          have HD' : Hid ((done ++ [b]) ++ bitBytes n i = padded bs) := by rw [List.append_assoc]; exact eb
          clear p0 r0 p1 p2 HD eb
          have ho := HO.out
          rw [show 8 - (i + 1) = 7 - i by omega] at ho
          have ho3 := Own.lit wr 5 wr.heap.size [b] #[.int .u8 (b.toNat : Int)] 1 rfl rfl (Nat.le_refl _) (by omega)
          have hb3 := below_new wr (.cells #[.int .u8 (b.toNat : Int)] 5)
          generalize wr.alloc (.cells #[.int .u8 (b.toNat : Int)] 5) = w5 at ho3 hb3 ⊢
          obtain ⟨A5, c5, e5, _, hs5, _⟩ := ho3.sb
          rw [e5]
          have o3 := ho.keep hb3
          refine wpList_append_bytes _ rfl _ _ _ rfl _ Tryd.underlying22 info5' (w.heap.size + 1) _ (n + 1 + padZ n + (7 - i)) _ rfl o3 _ A5 1 c5 [b] rfl hs5 (by omega) (Nat.le_trans HK.out.lt hb3.size) ?_
          intro v6 w6 o6 g6 _
          have K6 := hid ((HK.out.keep hb3).grown g6 (fun e => by have := (o3.block _ e).1; omega))
          have B6 := hid ((HB.out.trans (hb3.mono HB.out.size)).trans (below_of_grown g6 (Nat.le_trans HB.out.size hb3.size) (fun g e => by have := (o3.block g e).1; omega)))
          rw [show n + 1 + padZ n + (7 - i) + 1 = n + 1 + padZ n + (8 - i) by omega] at o6
          have O6 := hid o6
          clear o6 g6 o3 ho3 hb3 e5 hs5 HK HB HO ho
          obtain ⟨A6, c6, rfl, _, _, _⟩ := O6.out.sb
          go_wp2_with fail
          go_roundw
          case rel => exact ⟨i, A6, c6, done ++ [b], by omega, rfl, by go_num, HD', O6, K6, B6⟩
          case measure => simp [intOf]
        · obtain rfl : j = 0 := by omega
          rw [show (((0 : Nat) : Int) - 1) = -1 by omega]
          have hdone : done = padded bs := by have := HD.out; rwa [bitBytes, List.append_nil] at this
          subst hdone
          obtain ⟨M, hM⟩ := padded_blocks n
          rw [show n + 1 + padZ n + (8 - 0) = 64 * M by omega] at HO ⊢
          have HM := hid hM; have hMs : 64 * M ≤ 1048576 + 128 := by omega
          clear hM HD
          have k6 := Blk.new wr 41 (rcells (stL st0))
          have K6 := hid k6
          have hb6 := below_new wr (.cells (rcells (stL st0)) 41)
          have HO6 := hid (HO.out.keep hb6)
          have l6 : w.heap.size < wr.heap.size := HK.out.lt
          have HK6 := hid (HK.out.keep hb6)
          have HB6 := hid (HB.out.trans (hb6.mono HB.out.size))
          have L6 := hid HO.out.block
          clear k6 hb6 HO HK HB
          have he : wr.alloc (.cells #[.int .u32 1779033703, .int .u32 3144134277, .int .u32 1013904242, .int .u32 2773480762, .int .u32 1359893119, .int .u32 2600822924, .int .u32 528734635, .int .u32 1541459225] 41) = wr.alloc (.cells (rcells (stL st0)) 41) := rfl
          go_wp2_with fail
          generalize wr.alloc (.cells (rcells (stL st0)) 41) = w7 at K6 HO6 HK6 HB6 he ⊢
          generalize wr.heap.size = g6 at K6 l6 L6 ⊢
          obtain ⟨A7, c7, e7, hc7, _, _⟩ := HO6.out.sb
          go_loopw [7] (fun i wr => ∃ k : Nat, k ≤ M ∧ i = .int .i64 ((64 * k : Nat) : Int) ∧ Hid (Blk wr g6 41 (rcells (stL (runBlocks (padded bs) k)))) ∧ Hid (Own wr (w.heap.size + 1) 5 (.slice A' (64 * M) c') (64 * M) (padded bs)) ∧ Hid (Blk wr w.heap.size 26 (bcells (zeroB 32))) ∧ Hid (Below w.heap.size w wr)) (fun i _ => (64 * M) - (intOf i).toNat)
          case atStart => exact ⟨0, by omega, rfl, K6, HO6, HK6, HB6⟩
          case round =>
            clear K6 HO6 HK6 HB6 he
            obtain ⟨k, hk, rfl, K6, HO, HK, HB⟩ := hrel
            by_cases hlt : k < M
            · generalize hst : runBlocks (padded bs) k = st at K6
              have HST := hid hst; clear hst
              have hlt1 : (64 * (k : Int)) < 64 * (M : Int) := by omega
              have hlt2 : (64 * (k : Int)) + 64 ≤ 64 * (M : Int) := by omega
              go_wp2_with fail
              refine wp_region_still_tail 6 (by kernel_rfl) (by kernel_rfl) ?_
              simp only [List.take_succ_cons, List.take_zero, List.drop_succ_cons, List.drop_zero]
              refine wpStill_load_blk rfl _ _ rfl g6 rfl 41 _ K6.out 8 40 rfl rfl ?_
              have ho := HO.out
              obtain ⟨A9, c9, e9, hc9, sb9, _⟩ := ho.sb
              cases e9
              have q0 : (0 : Int) ≤ 64 * (k : Int) := by omega
              have q1 : 64 * (k : Int) ≤ 64 * (k : Int) + 64 := by omega
              have q2 : 64 * (k : Int) + 64 ≤ (c' : Int) := by omega
              have q3 : (64 * (k : Int)).toNat = 64 * k := by omega
              have q4 : (64 * (k : Int) + 64).toNat = 64 * k + 64 := by omega
              have q5 : 64 * k + 64 - 64 * k = 64 := by omega
              have qw : IntKind.i64.wrap (64 * (k : Int) + 64) = 64 * (k : Int) + 64 := IntWalk.i64_in _ (by omega)
              have sd := (sb9.drop (k := 64 * k) (by omega) hc9).take 64 (by omega)
              generalize hA2 : (if c' = 64 * k then A' else A'.map (·.add (64 * k))) = A2 at sd
              go_simp
              repeat still_step
              refine wpStill_nil ?_
              clear hA2
              go_wp2_with fail
              refine (block_calls st _ (c' - 64 * k) A2 _ _ sd.drew).mono ?_
              rintro e w8 ⟨rfl, b8⟩
              have hst1 : runBlocks (padded bs) (k + 1) = blockR st (List.take 64 (List.drop (64 * k) (padded bs))) := by rw [runBlocks, HST.out]
              rw [← hst1]
              have e8 : (stL (runBlocks (padded bs) (k + 1))).length = 8 := rfl

              generalize hlC : stL (runBlocks (padded bs) (k + 1)) = lC at e8 ⊢
              have HST2 := hid hlC; clear hlC
              have EC : Hid ((Tryd.prog.info? 41).map (·.size) = some (rcells lC).size) := by rw [Hid, rcells_size, e8]; exact (zero_of_info info56).2
              have Hsz : Hid ((rcells (stL st)).size = (rcells lC).size) := by rw [Hid, rcells_size, rcells_size, e8]; rfl
              have O8 := hid (HO.out.drew.keep b8)
              have hK8 := HK.out.drew.keep b8
              have B8 := HB.out.drew.trans (b8.mono HB.out.size)
              clear hst1 e8 sd sb9 q0 q1 q2 q3 q4 q5 hlt1 hlt2
              have K8 := hid (K6.out.drew.keep b8)
              go_wp2_with (refine wpList_store_blk rfl 41 _ _ rfl g6 _ rfl rfl 41 _ K8.out EC.out Hsz.out (rcells_oneCell _) ?_)
              have gs := grown_setRow w8 g6 (rcells lC)
              have K9 : Hid (Blk (w8.setRow g6 (rcells lC)) g6 41 (rcells (stL (runBlocks (padded bs) (k + 1))))) := by rw [HST2.out]; exact K8.out.setRow (rcells lC)
              have O9 := hid (O8.out.kept gs (Or.inr (fun e => by have := L6.out _ e; omega)))
              have hK9 := hid (hK8.grown gs (fun e => by cases e; omega))
              have B9 := hid (B8.trans (below_of_grown gs B8.size (fun g e => by cases e; omega)))
              go_roundw
              case rel => exact ⟨k + 1, by omega, by go_num, K9, O9, hK9, B9⟩
              case measure => simp [intOf]; omega
            · obtain rfl : k = M := by omega
              have h4 : (padded bs).length / 64 = k := by
                have h1 := hs.1; have h2 := HM.out; rw [padded_length, h1]; omega
              have hsh : sha bs = stBytes (runBlocks (padded bs) k) := by rw [sha, h4]
              have HSH := hid hsh; clear hsh h4
              have kA := Blk.new wr 26 (bcells (zeroB 32))
              have KA := hid kA
              have hbA := below_new wr (.cells (bcells (zeroB 32)) 26)
              have lA : w.heap.size < wr.heap.size := HK.out.lt
              have lB : g6 < wr.heap.size := K6.out.lt
              have K6A := hid (K6.out.keep hbA)
              have HKA := hid (HK.out.keep hbA)
              have HBA := hid (HB.out.trans (hbA.mono HB.out.size))
              clear kA hbA K6 HK HB HO
              have he : wr.alloc (.cells #[.int .u8 0, .int .u8 0, .int .u8 0, .int .u8 0, .int .u8 0, .int .u8 0, .int .u8 0, .int .u8 0, .int .u8 0, .int .u8 0, .int .u8 0, .int .u8 0, .int .u8 0, .int .u8 0, .int .u8 0, .int .u8 0, .int .u8 0, .int .u8 0, .int .u8 0, .int .u8 0, .int .u8 0, .int .u8 0, .int .u8 0, .int .u8 0, .int .u8 0, .int .u8 0, .int .u8 0, .int .u8 0, .int .u8 0, .int .u8 0, .int .u8 0, .int .u8 0] 26) = wr.alloc (.cells (bcells (zeroB 32)) 26) := rfl
              go_wp2_with fail
              generalize wr.alloc (.cells (bcells (zeroB 32)) 26) = wA at KA K6A HKA HBA he ⊢
              generalize wr.heap.size = gA at KA lA lB ⊢
              go_loopw [9] (fun i wr => ∃ j : Nat, j ≤ 32 ∧ i = .int .i64 (j : Int) ∧ Hid (Blk wr gA 26 (bcells (outOf (sha bs) j))) ∧ Hid (Blk wr g6 41 (rcells (stL (runBlocks (padded bs) k)))) ∧ Hid (Blk wr w.heap.size 26 (bcells (zeroB 32))) ∧ Hid (Below w.heap.size w wr)) (fun i _ => 32 - (intOf i).toNat)
              case atStart => exact ⟨0, by omega, rfl, KA, K6A, HKA, HBA⟩
              case round =>
                clear KA K6A HKA HBA he
                obtain ⟨j, hj, rfl, KA, K6, HK, HB⟩ := hrel
                by_cases hlt : j < 32
                · have hl := (congrArg List.length HSH.out).trans (stBytes_length _)
                  have hb := stBytes_at (runBlocks (padded bs) k) j hlt
                  rw [← HSH.out] at hb
                  have c6 := K6.out.cell (j / 4) (rcells_at (by32_get (l := stL (runBlocks (padded bs) k)) (i := j / 4) (by show _ < 8; omega)))
                  generalize by32 (stL (runBlocks (padded bs) k)) (j / 4) = x at c6 hb
                  have cA := KA.out.cell j (outOf_at _ j hl hlt)
                  have fA := KA.out.frozen j
                  have HBb := hid hb; have HL := hid hl; clear hb hl
                  have m0 : (j : Int) / 4 < 8 := by omega
                  have m1 : (0 : Int) ≤ (j : Int) / 4 := by omega
                  have m2 : ((j : Int) / 4).toNat = j / 4 := by omega
                  have hlt' : (j : Int) < 32 := by omega
                  have p0 : (0 : Int) ≤ 24 - 8 * ((j : Int) % 4) := by omega
                  have p1 : IntKind.i64.wrap (24 - 8 * ((j : Int) % 4)) = 24 - 8 * ((j : Int) % 4) := IntWalk.i64_in _ (by omega)
                  have p2 : IntKind.i64.wrap (8 * ((j : Int) % 4)) = 8 * ((j : Int) % 4) := IntWalk.i64_in _ (by omega)
                  have p3 : (24 - 8 * ((j : Int) % 4)).toNat = 24 - 8 * (j % 4) := by omega
                  go_wp2_with fail
                  rw [n_shrk, n_low]
                  have h := KA.out.set_ j (bv (low8 (sr (24 - 8 * (j % 4)) x)))
                  rw [outOf_set _ j _ HL.out hlt HBb.out] at h
                  have H := hid h; clear h
                  go_roundw
                  case rel => exact ⟨j + 1, by omega, by go_num, H, K6.out.far (by show ¬ g6 = gA; omega) _, HK.out.far (by show ¬ w.heap.size = gA; omega) _, HB.out.setCell (p := ⟨gA, j, none⟩) (by show w.heap.size ≤ gA; omega) _⟩
                  case measure => simp [intOf]; omega
                · obtain rfl : j = 32 := by omega
                  have hl := (congrArg List.length HSH.out).trans (stBytes_length _)
                  have hfull : outOf (sha bs) 32 = sha bs := by rw [outOf, List.take_of_length_le (by omega)]; exact List.append_nil _
                  have kA := KA.out
                  rw [hfull] at kA
                  have kR := HK.out
                  have Hsz : Hid ((bcells (zeroB 32)).size = (bcells (sha bs)).size) := by rw [Hid, bcells_size, bcells_size, hl]; rfl
                  have EC : Hid ((Tryd.prog.info? 26).map (·.size) = some (bcells (sha bs)).size) := by rw [Hid, bcells_size, hl]; exact (zero_of_info info26).2
                  generalize hC : sha bs = lC at kA Hsz EC ⊢
                  have HCe := hid hC; clear hC
                  go_wp2_with (first
                    | (refine wpList_load_blk rfl 26 _ rfl gA rfl 26 _ kA _ _ Tryd.underlying26 EC.out ?_)
                    | (refine wpList_store_blk rfl 26 _ _ rfl w.heap.size _ rfl rfl 26 _ kR EC.out Hsz.out (bcells_oneCell _) ?_))
                  refine bodyPost_ret (v := .agg (bcells lC)) (results_cell_row rfl _ _ w.heap.size 26 _ (0, 0) _ rfl (kR.setRow _) Tryd.underlying26 rfl EC.out) rfl ⟨by rw [HCe.out], ?_⟩
                  exact HB.out.trans (below_of_grown (grown_setRow wr w.heap.size _) HB.out.size (fun g' e => by cases e; omega))
end Go.Proofs.YtajojeajibonpaaDoor
