/- Contract of the law BlobHolds' holds. Written by tools/mkholds.py. -/
import Derived.Test.YtoogaapjdlhpbaaDoorBlHoldM
import Derived.Test.YtoogaapjdlhpbaaDoorBlApart
import Derived.Test.YtoogaapjdlhpbaaDoorBlLists
import Derived.Test.YtoogaapjdlhpbaaDoorBlSto
namespace Go.Proofs.YtoogaapjdlhpbaaDoor
open Go.RowKit Crc

theorem run_store_all {P : Program} {o : Oper} {a : Act} {w : World} {t : TypeId} {x y : Operand} {g : Nat} {cs old : Array Value} (ho : o.op = .store t x y) (hx : a.eval x = .pointer (some ⟨g, 0, none⟩)) (hy : a.eval y = .agg cs)
    (hb : Blk w g t old) (hi : (P.info? t).map (·.size) = some cs.size) (hold : old.size = cs.size) (h1 : cs.all (·.oneCell') = true) : (execOp a.eval o).run P w = .ok .skip (w.setRow g cs) := by
  unfold execOp
  simp only [ho, hx, hy, Instr.storeAt, Instr.sureAddr, Sem.run_bind, Sem.run_pure, Result.andThen_ok, run_storeVar_row w g t t old cs hb hi hold h1]
/-- where a digest is laid in a block of its own -/
structure HoS (w1 : World) (d : List UInt8) (f : Nat → Bool) (gh : Nat → Nat) (W : World) : Prop where
  below : Below w1.heap.size w1 W
  na : f 10 = true → w1.heap.size ≤ gh 10 ∧ Blk W (gh 10) 32 (if f 11 = true then bcells d else bcells (zeroB 32))
  ord : f 11 = true → f 10 = true
section
variable {w1 W W' : World} {d : List UInt8} {f : Nat → Bool} {gh : Nat → Nat}
theorem HoS.start : HoS w1 d (fun j => decide (13 ≤ j)) (fun _ => 0) w1.drew := ⟨(Below.refl _ _).drew, fun h => absurd h (by decide), fun h => absurd h (by decide)⟩
theorem HoS.step (h : HoS w1 d f gh W) (hb : Below W.heap.size W W') (i k : Nat) (h10 : 10 ≠ i) (h11 : 11 ≠ i) : HoS w1 d (upd f i) (updN gh i k) W' :=
  ⟨h.below.trans (hb.mono h.below.size), fun e => by rw [upd_ne h10] at e; rw [upd_ne h11, updN_ne h10]; exact ⟨(h.na e).1, (h.na e).2.keep hb⟩, fun e => by rw [upd_ne h11] at e; rw [upd_ne h10]; exact h.ord e⟩
theorem HoS.new (h : HoS w1 d f gh W) (hf : f 10 = false) : HoS w1 d (upd f 10) (updN gh 10 W.heap.size) (W.alloc (.cells (bcells (zeroB 32)) 32)) :=
  ⟨h.below.trans ((below_new W _).mono h.below.size), fun _ => by
    have h11 : f 11 = false := by
      cases e : f 11 with
      | false => rfl
      | true => have := h.ord e; rw [hf] at this; cases this
    rw [upd_ne (by decide), updN_eq, h11, if_neg (by decide)]
    exact ⟨h.below.size, Blk.new W _ _⟩, fun e => by rw [upd_ne (by decide)] at e; have := h.ord e; rw [hf] at this; cases this⟩
theorem HoS.put (h : HoS w1 d f gh W) (h10 : f 10 = true) : HoS w1 d (upd f 11) (updN gh 11 0) (W.setRow (gh 10) (bcells d)) :=
  ⟨h.below.trans ((below_of_grown (grown_setRow W (gh 10) (bcells d)) h.below.size (fun g e => by cases e; exact (h.na h10).1))), fun _ => by
    rw [upd_eq, if_pos rfl, updN_ne (by decide)]
    exact ⟨(h.na h10).1, (h.na h10).2.setRow _⟩, fun _ => by rw [upd_ne (by decide)]; exact h10⟩
end
def hold4Val (s wd bl off n c i cx : Nat) (Ax : Option Addr) (x d : List UInt8) : Nat → Nat → Value
  | 0, _ => .slice (some ⟨bl, off, none⟩) n c
  | 1, _ => .int .i64 (i : Int)
  | 2, _ => .pointer (some ⟨bl, off + i, none⟩)
  | 3, _ => .slice Ax x.length cx
  | 4, _ => .pointer (some ⟨s, 0, none⟩)
  | 5, _ => .int .i64 (wd : Int)
  | 6, _ => .tuple #[.agg (bcells d), .int .i64 0]
  | 7, _ => .tuple #[.agg (bcells d), .int .i64 0]
  | 8, _ => .agg (bcells d)
  | 9, _ => .int .i64 0
  | 10, k => .pointer (some ⟨k, 0, none⟩)
  | 12, _ => .int .i64 0
  | _, _ => undef
def hold16Yes (gI0 : Nat) (n2 : Nat) (c2 : Nat) (j : Nat) (j0 : Nat) (cx : Nat) (Ax : Option Addr) (x : List UInt8) (y : List UInt8) (y0 : List UInt8) : Nat → Unit → Value
  | 0, _ => .bool true
  | 1, _ => .bool false
  | 2, _ => .bool false
  | 3, _ => .bool true
  | 4, _ => .bool false
  | 5, _ => .bool false
  | 6, _ => .bool false
  | 7, _ => .int .i64 (x.length : Int)
  | 8, _ => .slice Ax x.length cx
  | 9, _ => .int .i64 (x.length : Int)
  | 10, _ => .bool false
  | 11, _ => .bool false
  | 12, _ => .bool false
  | 13, _ => .int .i64 0
  | 14, _ => .bool false
  | 15, _ => .bool false
  | 16, _ => .bool false
  | 17, _ => .agg (bcells y)
  | 18, _ => .slice (some ⟨gI0, 0, none⟩) n2 c2
  | 19, _ => .int .i64 (j : Int)
  | 20, _ => .pointer (some ⟨gI0, j * 32, none⟩)
  | 21, _ => .agg (bcells y)
  | 22, _ => .bool false
  | 23, _ => .bool false
  | 24, _ => .bool false
  | 25, _ => .int .i64 (j : Int)
  | 26, _ => .bool true
  | 27, _ => .bool true
  | 28, _ => .slice (some ⟨gI0, 0, none⟩) n2 c2
  | 29, _ => .int .i64 (j : Int)
  | 30, _ => .int .i64 (j0 : Int)
  | 31, _ => .pointer (some ⟨gI0, j0 * 32, none⟩)
  | 32, _ => .agg (bcells y0)
  | 33, _ => .slice (some ⟨gI0, 0, none⟩) n2 c2
  | 34, _ => .int .i64 (j : Int)
  | 35, _ => .pointer (some ⟨gI0, j * 32, none⟩)
  | 36, _ => .agg (bcells y)
  | 37, _ => .int .i64 (cmpL y0 y)
  | 38, _ => .bool false
  | 39, _ => .bool false
  | 40, _ => .bool false
  | _, _ => undef
def hold16No (gI0 : Nat) (n2 : Nat) (c2 : Nat) (j : Nat) (cx : Nat) (Ax : Option Addr) (x : List UInt8) (y : List UInt8) : Nat → Unit → Value
  | 0, _ => .bool true
  | 1, _ => .bool false
  | 2, _ => .bool false
  | 3, _ => .bool true
  | 4, _ => .bool false
  | 5, _ => .bool false
  | 6, _ => .bool false
  | 7, _ => .int .i64 (x.length : Int)
  | 8, _ => .slice Ax x.length cx
  | 9, _ => .int .i64 (x.length : Int)
  | 10, _ => .bool false
  | 11, _ => .bool false
  | 12, _ => .bool false
  | 13, _ => .int .i64 0
  | 14, _ => .bool false
  | 15, _ => .bool false
  | 16, _ => .bool false
  | 17, _ => .agg (bcells y)
  | 18, _ => .slice (some ⟨gI0, 0, none⟩) n2 c2
  | 19, _ => .int .i64 (j : Int)
  | 20, _ => .pointer (some ⟨gI0, j * 32, none⟩)
  | 21, _ => .agg (bcells y)
  | 22, _ => .bool false
  | 23, _ => .bool false
  | 24, _ => .bool false
  | 25, _ => .int .i64 (j : Int)
  | 26, _ => .bool false
  | 27, _ => .bool false
  | 28, _ => undef
  | 29, _ => undef
  | 30, _ => undef
  | 31, _ => undef
  | 32, _ => undef
  | 33, _ => undef
  | 34, _ => undef
  | 35, _ => undef
  | 36, _ => undef
  | 37, _ => undef
  | 38, _ => undef
  | 39, _ => .bool false
  | 40, _ => .bool false
  | _, _ => undef
/-- a row of the law's own, of truths -/
def KeptB (w : World) (kb : Nat) (K : List Bool) : Prop := Blk w kb 4 (K.map Value.bool).toArray
set_option maxRecDepth 100000 in
set_option maxHeartbeats 8000000 in
theorem holds_calls {w : World} {F : List Nat} {s m k : Nat} {b : BS} {f0 : List UInt8 → Option Nat} (hs : StB w F s m k b f0) (hk : k ≤ 100000) (A : Option Addr) (c : Nat) (l : List (List UInt8)) (hL : SLB w w.heap.size A l) (n : Nat) (hn : l.length = n) (hn3 : n ≤ 30) (h40 : ∀ x ∈ l, x.length ≤ 40)
    (kb ck : Nat) (K : List Bool) (hKn : K.length = n) (hK : KeptB w kb K) (hinv : ∀ p ∈ b.l, p.1 = digB p.2 b.width) (hkept : ∀ (i : Nat) x, l[i]? = some x → K[i]? = some true → lookB b.l (digB x b.width) = some x) (hG : Glob w) :
    Calls Tryd.prog 36 #[.pointer (some ⟨s, 0, none⟩), .slice A n c, .slice (some ⟨kb, 0, none⟩) n ck] w fun e w' => e = .returned (.bool true) ∧ Below w.heap.size w w' := by
  have HZ := hid ((zero_of_info info26).1)
  have HS := hid hs; have HL := hid hL; have HNL := hid hn; have H40 := hid h40; have HKN := hid hKn; have HK := hid hK; have HI := hid hinv; have HKE := hid hkept; have HG := hid hG
  clear hs hL hn h40 hKn hK hinv hkept hG
  go_enter Tryd.func36, Tryd.ntmps36
  go_wp2_with fail
  go_loopw [7] (fun v7 wr => ∃ i : Nat, v7 = .int .i64 (i : Int) ∧ i ≤ n ∧ Hid (Below w.heap.size w wr)) (fun v7 _ => n - (intOf v7).toNat)
  case atStart => exact ⟨0, rfl, Nat.zero_le _, hid (Below.refl _ _)⟩
  case round =>
    obtain ⟨i, rfl, hi, HB⟩ := hrel
    by_cases hlt : i < n
    · have hlt' : (i : Int) < (n : Int) := by omega
      obtain ⟨bl, off, Ax, cx, x, hA, hbl, hxi, hcx, hsx, hcxx, -⟩ := HL.out.at_ (k := i) (by rw [HNL.out]; exact hlt)
      subst hA
      have hxl := H40.out x (List.mem_of_getElem? hxi)
      obtain ⟨w1, hw1⟩ : ∃ w1, w1 = wr := ⟨wr, rfl⟩
      subst hw1
      obtain ⟨wd, hwd⟩ : ∃ wd, b.width = wd := ⟨_, rfl⟩
      have HCX0 := hid hcx; have HSX0 := hid hsx
      have HCX := hid ((HB.out.cell (p := ⟨bl, off + i, none⟩) hbl).trans hcx)
      have HSX := hid (hsx.keepB HB.out)
      have HS1 := hid (HS.out.keep HB.out)
      have HWD := hid (fun W (hb : Below w1.heap.size w1 W) => width_calls (HS1.out.keep hb))
      have HOF := hid (fun W (hb : Below w1.heap.size w1 W) => own_of_calls w.heap.size x.length cx Ax x (b.width : Int) W (hsx.keepB (HB.out.trans (hb.mono HB.out.size))) hcxx (HG.out.keep (HB.out.trans (hb.mono HB.out.size))) (by omega))
      rw [show cutE (b.width : Int) = 0 from by rw [cutE, if_neg (by have := HS.out.ok.w1; have := HS.out.ok.w2; omega)], show cutB (sha x) (b.width : Int) = digB x b.width from rfl] at HOF
      have HDL := hid (digB_length x b.width)
      generalize hdd : digB x b.width = d at HOF HDL
      have HDD := hid hdd
      rw [hwd] at HWD HOF
      have HLT := hid (⟨hlt', hlt⟩ : (i : Int) < (n : Int) ∧ i < n)
      have HSZ := hid (show (Tryd.prog.info? 32).map (·.size) = some (bcells d).size from by rw [bcells_size, HDL.out]; kernel_rfl)
      have HSZ3 := hid (show (bcells (zeroB 32)).size = (bcells d).size from by rw [bcells_size, bcells_size, HDL.out]; rfl)
      clear hcx hsx hdd
      go_wp2_with fail
      refine wp_region_invG 147 0 (hold4Val s wd bl off n c i cx Ax x d) (HoS w1 d) (by kernel_rfl) (by kernel_rfl) (by exact Nat.le_refl 147) ?_ ?_ ?_
      · exact HoS.start
      · intro i o f gh a W hi hf hdep hsame hcl hval hS
        rcases i with _ | _ | _ | _ | _ | _ | _ | _ | _ | _ | _ | _ | _ | i
        all_goals simp only [List.getElem?_cons_succ, List.getElem?_cons_zero, List.getElem?_nil, Option.some.injEq, reduceCtorEq] at hi
        all_goals subst hi
        · have E1 : a.tmps[1]? = some (.slice (some ⟨bl, off, none⟩) n c) := (same_of hsame 1 (by rfl)).trans rfl
          refine g_plain rfl ?_
          exact does_value (w' := W) (v := .slice (some ⟨bl, off, none⟩) n c) (by go_simp) ⟨0, .inr rfl, hS.step (Below.refl _ _) 0 0 (by decide) (by decide)⟩
        · have E7 : a.tmps[7]? = some (.int .i64 (i : Int)) := (same_of hsame 7 (by rfl)).trans rfl
          refine g_plain rfl ?_
          exact does_value (w' := W) (v := .int .i64 (i : Int)) (by go_simp) ⟨0, .inr rfl, hS.step (Below.refl _ _) 1 0 (by decide) (by decide)⟩
        · have E28 := hval 0 _ 28 rfl rfl (dep_of hdep 0 (by rfl))
          have E29 := hval 1 _ 29 rfl rfl (dep_of hdep 1 (by rfl))
          unfold hold4Val at E28 E29
          have hlt1 := HLT.out.1; have hlt2 := HLT.out.2
          refine g_plain rfl ?_
          exact does_value (w' := W) (v := .pointer (some ⟨bl, off + i, none⟩)) (by go_simp) ⟨0, .inr rfl, hS.step (Below.refl _ _) 2 0 (by decide) (by decide)⟩
        · have E30 := hval 2 _ 30 rfl rfl (dep_of hdep 2 (by rfl))
          unfold hold4Val at E30
          have hce := cell_keep HCX.out hS.below
          refine g_plain rfl ?_
          exact does_value (w' := W) (v := .slice Ax x.length cx) (by go_simp) ⟨0, .inr rfl, hS.step (Below.refl _ _) 3 0 (by decide) (by decide)⟩
        · have E0 : a.tmps[0]? = some (.pointer (some ⟨s, 0, none⟩)) := (same_of hsame 0 (by rfl)).trans rfl
          refine g_plain rfl ?_
          exact does_value (w' := W) (v := .pointer (some ⟨s, 0, none⟩)) (by go_simp) ⟨0, .inr rfl, hS.step (Below.refl _ _) 4 0 (by decide) (by decide)⟩
        · have E32 := hval 4 _ 32 rfl rfl (dep_of hdep 4 (by rfl))
          unfold hold4Val at E32
          refine g_plain rfl ?_
          refine does_call 25 #[.pointer (some ⟨s, 0, none⟩)] (by go_simp) ((HWD.out W hS.below).mono ?_)
          rintro _ _ ⟨rfl, rfl⟩
          exact ⟨_, rfl, 0, .inr rfl, hS.step (Below.refl _ _) 5 0 (by decide) (by decide)⟩
        · have E31 := hval 3 _ 31 rfl rfl (dep_of hdep 3 (by rfl))
          have E33 := hval 5 _ 33 rfl rfl (dep_of hdep 5 (by rfl))
          unfold hold4Val at E31 E33
          refine g_plain rfl ?_
          refine does_call 35 #[.slice Ax x.length cx, .int .i64 (wd : Int)] (by go_simp) ((HOF.out W hS.below).mono ?_)
          rintro _ W' ⟨rfl, hb⟩
          exact ⟨_, rfl, 0, .inr rfl, hS.step hb 6 0 (by decide) (by decide)⟩
        · have E34 := hval 6 _ 34 rfl rfl (dep_of hdep 6 (by rfl))
          unfold hold4Val at E34
          refine g_plain rfl ?_
          exact does_value (w' := W) (v := .tuple #[.agg (bcells d), .int .i64 0]) (by go_simp) ⟨0, .inr rfl, hS.step (Below.refl _ _) 7 0 (by decide) (by decide)⟩
        · have E27 := hval 7 _ 27 rfl rfl (dep_of hdep 7 (by rfl))
          unfold hold4Val at E27
          refine g_plain rfl ?_
          exact does_value (w' := W) (v := .agg (bcells d)) (by go_simp) ⟨0, .inr rfl, hS.step (Below.refl _ _) 8 0 (by decide) (by decide)⟩
        · have E27 := hval 7 _ 27 rfl rfl (dep_of hdep 7 (by rfl))
          unfold hold4Val at E27
          refine g_plain rfl ?_
          exact does_value (w' := W) (v := .int .i64 0) (by go_simp) ⟨0, .inr rfl, hS.step (Below.refl _ _) 9 0 (by decide) (by decide)⟩
        · have hz := HZ.out
          refine g_plain rfl ?_
          exact does_value (w' := W.alloc (.cells (bcells (zeroB 32)) 32)) (v := .pointer (some ⟨W.heap.size, 0, none⟩)) (by go_simp) ⟨W.heap.size, .inr rfl, hS.new hf⟩
        · have E8 := hval 10 _ 8 rfl rfl (dep_of hdep 10 (by rfl))
          have E35 := hval 8 _ 35 rfl rfl (dep_of hdep 8 (by rfl))
          unfold hold4Val at E8 E35
          have h10 := dep_of hdep 10 (by rfl)
          have kb := (hS.na h10).2
          rw [hf, if_neg (by decide)] at kb
          refine g_plain rfl ?_
          exact does_skip (w' := W.setRow (gh 10) (bcells d)) (run_store_all rfl (by rw [eval_getD, E8]; rfl) (by rw [eval_getD, E35]; rfl) kb HSZ.out HSZ3.out (by rw [← Array.all_toList]; exact bcells_oneCell d)) ⟨0, .inl rfl, hS.put h10⟩
        · have E36 := hval 9 _ 36 rfl rfl (dep_of hdep 9 (by rfl))
          unfold hold4Val at E36
          refine g_plain rfl ?_
          exact does_value (w' := W) (v := .int .i64 0) (by go_simp) ⟨0, .inr rfl, hS.step (Below.refl _ _) 12 0 (by decide) (by decide)⟩
      · intro gh w2 hS
        obtain ⟨-, kbk⟩ := hS.na rfl
        rw [if_pos rfl] at kbk
        have HKD := hid kbk
        have HB2 := hid (HB.out.trans (hS.below.mono HB.out.size))
        simp only [putAll, hold4Val, Nat.reduceAdd, Nat.zero_add, Act.put, List.setIfInBounds_toArray, List.set_cons_zero, List.set_cons_succ]
        generalize gh 10 = o at HKD ⊢
        have HS2 := hid (HS1.out.keep hS.below)
        clear hS HWD HOF kbk HS1 HCX HSX
        have HGe := hid (get_calls HS2.out d HDL.out)
        go_wp2_with (refine wpList_load_blk rfl 32 _ rfl o rfl 32 _ HKD.out _ _ Tryd.underlying32 HSZ.out ?_)
        refine HGe.out.mono ?_
        rintro _ w5 ⟨v, rfl, ho, b5⟩
        have HB5 := hid (HB2.out.trans (b5.mono HB2.out.size))
        have HO5 := hid ho
        have hkc : w5.cell? ⟨kb, i, none⟩ = some (.bool (K.getD i false)) := ((HK.out.keep HB5.out).cell i (by simp [List.getD, HKN.out, hlt]))
        have HKI := hid (show K[i]? = some (K.getD i false) from by simp [List.getD, HKN.out, hlt])
        clear b5 ho HGe HS2 HKD
        cases hki : K.getD i false with
        | false =>
          rw [hki] at hkc
          clear hki
          go_wp2_with fail
          go_roundw
          case rel => exact ⟨i + 1, by go_num, by omega, HB5⟩
          case measure => simp [intOf]; omega
        | true =>
          rw [hki] at hkc
          have hlk : lookB b.l d = some x := by
            have := HKE.out i x hxi (by rw [HKI.out, hki])
            rwa [HDD.out] at this
          rw [hlk] at HO5 ⊢
          have ho : Own w5 w2.heap.size 5 v x.length x := HO5.out
          obtain ⟨Av, cv, rfl, hcv, hsv, -⟩ := ho.sb
          have hce := (HB5.out.cell (p := ⟨bl, off + i, none⟩) hbl).trans HCX0.out
          have HSame := hid (sameBytes_calls w5.heap.size x.length cv w.heap.size x.length cx Av Ax x x w5 hsv (HSX0.out.keepB HB5.out))
          rw [beq_self_eq_true] at HSame
          clear ho HO5 hki hlk hsv
          dsimp only [Option.isSome]
          go_wp2_with fail
          refine HSame.out.mono ?_
          rintro _ _ ⟨rfl, rfl⟩
          clear HSame
          go_wp2_with fail
          go_roundw
          case rel => exact ⟨i + 1, by go_num, by omega, HB5⟩
          case measure => simp [intOf]; omega
    · obtain rfl : i = n := by omega
      have HI1 := hid (ids_calls (HS.out.keep HB.out) hk)
      go_wp2_with fail
      refine HI1.out.mono ?_
      rintro _ w2 ⟨gI0, c2, ids, rfl, k1, k2, k3, k5⟩
      have HB2 := hid (HB.out.trans (k5.mono HB.out.size))
      have HR2 := hid k1; have HSt := hid k2; have HMem := hid k3
      have HTot := hid (sumI_total HS.out.ok k1.l32 (nodup_of_strict k2) k3)
      obtain ⟨n2, hn2⟩ : ∃ n2, ids.length = n2 := ⟨_, rfl⟩
      have HN2 := hid hn2
      rw [hn2]
      have hcap : n2 ≤ 9223372036854775807 := by
        obtain ⟨_, _, _, h2, h3, _⟩ := k1
        simp only [maxLen] at h3
        omega
      clear k1 k2 k3 k5 hn2 HI1 HB
      go_wp2_with fail
      go_loopw [13, 14] (fun v13 v14 wr => ∃ j : Nat, v14 = .int .i64 (j : Int) ∧ v13 = .int .i64 (sumI b.l (ids.take j) : Int) ∧ j ≤ n2 ∧ Hid (Below w2.heap.size w2 wr)) (fun _ v14 _ => n2 - (intOf v14).toNat)
      case atStart => exact ⟨0, rfl, by rfl, Nat.zero_le _, hid (Below.refl _ _)⟩
      case round =>
        obtain ⟨j, rfl, rfl, hj, HBj⟩ := hrel
        by_cases hlt2 : j < n2
        · have hlt2' : (j : Int) < (n2 : Int) := by omega
          obtain ⟨y, hy⟩ : ∃ y, ids[j]? = some y := ⟨_, List.getElem?_eq_getElem (by rw [HN2.out]; exact hlt2)⟩
          have hym : y ∈ ids := List.mem_of_getElem? hy
          have hyl := HR2.out.l32 y hym
          obtain ⟨x, hx⟩ := Option.isSome_iff_exists.1 ((HMem.out y hyl).1 hym)
          have hxm := lookB_mem hx
          have hdig : digB x b.width = y := (HI.out (y, x) hxm).symm
          have hx4 : x.length ≤ 4096 := HS.out.ok.lens (y, x) hxm
          have HSn := hid (sumI_snoc b.l ids j y hy)
          have hsum : sumI b.l (ids.take (j + 1)) ≤ 67108864 := Nat.le_trans (sumI_take_le b.l ids (j + 1)) (by rw [HTot.out]; exact Nat.le_trans HS.out.ok.used HS.out.ok.r)
          rw [hx] at HSn
          have HSn2 := hid (show sumI b.l (ids.take (j + 1)) = sumI b.l (ids.take j) + x.length from HSn.out)
          obtain ⟨pre, post, hby, hpy, -, -⟩ := HR2.out.get hy
          have HBy2 := hid hby
          have HPy := hid (show pre.length = j * 32 by omega)
          have HSP := hid (show (Tryd.prog.info? 32).map (·.size) = some (y.map bv).length from by rw [List.length_map, hyl]; kernel_rfl)
          have HSZ := hid (show (Tryd.prog.info? 32).map (·.size) = some (bcells y).size from by rw [bcells_size, hyl]; kernel_rfl)
          have HZ3 := hid (show (bcells (zeroB 32)).size = (bcells y).size from by rw [bcells_size, bcells_size, hyl]; rfl)
          have HBj0 := hid (HB2.out.trans (HBj.out.mono HB2.out.size))
          have HBy := hid (HBy2.out.keep HBj.out)
          have HGe := hid (get_calls (HS.out.keep HBj0.out) y hyl)
          rw [hx] at HGe
          have HYI := hid hy
          have HYL := hid hyl; have HDg := hid hdig; have HX := hid hx
          generalize hSj : sumI b.l (ids.take j) = Sj at HSn2 ⊢
          clear hby hpy hym hyl hxm hdig hx HSn hSj hy
          go_wp2_with (refine wpList_load_part rfl 32 _ rfl gI0 (j * 32) rfl HBy.out HPy.out Tryd.underlying32 rfl HSP.out ?_)
          refine HGe.out.mono ?_
          rintro _ w4 ⟨v, rfl, ho, b4⟩
          have ho : Own w4 _ 5 v x.length x := ho
          obtain ⟨Ax, cx, rfl, hcx, hsx, -⟩ := ho.sb
          have HB4 := hid (HBj.out.trans (b4.mono HBj.out.size))
          have HB40 := hid (HB2.out.trans (HB4.out.mono HB2.out.size))
          have HBy := hid (HBy2.out.keep HB4.out)
          have HSX := hid hsx
          have HSi := hid (size_calls (HS.out.keep HB40.out) y HYL.out)
          rw [HX.out] at HSi
          have HSi := hid (show Calls Tryd.prog 30 #[.pointer (some ⟨s, 0, none⟩), .agg (bcells y)] w4 fun e w' => e = .returned (.tuple #[.int .i64 (x.length : Int), .bool true]) ∧ Below w4.heap.size w4 w' from HSi.out)
          clear b4 ho hsx HGe
          dsimp only [Option.isSome]
          go_wp2_with (refine wpList_load_part rfl 32 _ rfl gI0 (j * 32) rfl HBy.out HPy.out Tryd.underlying32 rfl HSP.out ?_)
          refine HSi.out.mono ?_
          rintro _ w5 ⟨rfl, b5⟩
          have HB5 := hid (HB4.out.trans (b5.mono HB4.out.size))
          have HB50 := hid (HB2.out.trans (HB5.out.mono HB2.out.size))
          have HSX5 := hid (HSX.out.keep b5)
          have HWd := hid (width_calls (HS.out.keep HB50.out))
          clear b5 HSi HBy HSX
          go_wp2_with fail
          refine HWd.out.mono ?_
          rintro _ _ ⟨rfl, rfl⟩
          have HOf := hid (own_of_calls w4.heap.size x.length cx Ax x (b.width : Int) w5 HSX5.out hcx (HG.out.keep HB50.out) (by omega))
          rw [show cutE (b.width : Int) = 0 from by rw [cutE, if_neg (by have := HS.out.ok.w1; have := HS.out.ok.w2; omega)], show cutB (sha x) (b.width : Int) = digB x b.width from rfl, HDg.out] at HOf
          clear HWd
          go_wp2_with fail
          refine HOf.out.mono ?_
          rintro _ w6 ⟨rfl, b6⟩
          have HB6 := hid (HB5.out.trans (b6.mono HB5.out.size))
          obtain ⟨q1, q2⟩ := new_set w6 32 (bcells (zeroB 32)) (bcells y)
          have K3 := hid (Blk.new w6 32 (bcells (zeroB 32)))
          have HKD := hid q2; have HB7 := hid (HB6.out.trans (q1.mono HB6.out.size))
          have hz := HZ.out
          clear b6 q1 q2 HOf HSX5
          go_wp2_with (refine wpList_store_blk rfl 32 _ _ rfl w6.heap.size _ rfl rfl 32 _ K3.out HSZ.out HZ3.out (bcells_oneCell _) ?_)
          clear hz K3
          generalize (w6.alloc (.cells (bcells (zeroB 32)) 32)).setRow w6.heap.size (bcells y) = w7 at HKD HB7 ⊢
          generalize w6.heap.size = o at HKD ⊢
          have HBy := hid (HBy2.out.keep HB7.out)
          have HLJ := hid (⟨hlt2', hlt2⟩ : (j : Int) < (n2 : Int) ∧ j < n2)
          have HEQ := hid (show ∀ W, (Op.equalIn 10000 32 (.agg (bcells y)) (.agg (bcells y))).run Tryd.prog W = .ok true W from fun W => by
            have := run_equal_arr (P := Tryd.prog) 32 5 32 Tryd.underlying32 Tryd.underlying5 (by kernel_rfl) y y HYL.out HYL.out W
            rw [beq_self_eq_true] at this
            exact this)
          have HW1 := hid (show IntKind.i64.wrap ((Sj : Int) + (x.length : Int)) = ((sumI b.l (ids.take (j + 1)) : Nat) : Int) from by rw [HSn2.out] at hsum ⊢; rw [IntWalk.i64_in _ (by omega)]; omega)
          by_cases hj0 : j = 0
          · have HJ0 := hid (⟨by omega, by omega⟩ : ¬ (0 : Int) < (j : Int) ∧ ¬ 0 < j)
            clear hj0
            go_wp2_with fail
            refine wp_region_invG 147 () (hold16No gI0 n2 c2 j cx Ax x y) (fun _ _ W => Below w7.heap.size w7 W) (by kernel_rfl) (by kernel_rfl) (by exact Nat.le_refl 147) ?_ ?_ ?_
            · exact (Below.refl _ _).drew
            · intro i o f gh a W hi hf hdep hsame hcl hval hS
              rcases i with _ | _ | _ | _ | _ | _ | _ | _ | _ | _ | _ | _ | _ | _ | _ | _ | _ | _ | _ | _ | _ | _ | _ | _ | _ | _ | _ | _ | _ | _ | _ | _ | _ | _ | _ | _ | _ | _ | _ | _ | _ | i
              all_goals simp only [List.getElem?_cons_succ, List.getElem?_cons_zero, List.getElem?_nil, Option.some.injEq, reduceCtorEq] at hi
              all_goals subst hi
              · have E16 : a.tmps[16]? = some (.bool true) := (same_of hsame 16 (by rfl)).trans rfl
                refine g_plain rfl ?_
                exact does_value (w' := W) (v := .bool true) (by go_simp) ⟨(), .inr rfl, hS⟩
              · have E93 := hval 0 _ 93 rfl rfl (dep_of hdep 0 (by rfl))
                unfold hold16No at E93
                refine g_plain rfl ?_
                exact does_value (w' := W) (v := .bool false) (by go_simp) ⟨(), .inr rfl, hS⟩
              · have E94 := hval 1 _ 94 rfl rfl (dep_of hdep 1 (by rfl))
                unfold hold16No at E94
                refine g_plain rfl ?_
                exact does_value (w' := W) (v := .bool false) (by go_simp) ⟨(), .inr rfl, hS⟩
              · have EG := hval 2 _ 95 rfl rfl (dep_of hdep 2 (by rfl))
                have E18 : a.tmps[18]? = some (.bool true) := (same_of hsame 18 (by rfl)).trans rfl
                unfold hold16No at EG
                refine g_want rfl rfl rfl EG ?_
                exact does_value (w' := W) (v := .bool true) (by go_simp) ⟨(), .inr rfl, hS⟩
              · have EG := hval 2 _ 95 rfl rfl (dep_of hdep 2 (by rfl))
                have E96 := hval 3 _ 96 rfl rfl (dep_of hdep 3 (by rfl))
                unfold hold16No at EG E96
                refine g_want rfl rfl rfl EG ?_
                exact does_value (w' := W) (v := .bool false) (by go_simp) ⟨(), .inr rfl, hS⟩
              · have E95 := hval 2 _ 95 rfl rfl (dep_of hdep 2 (by rfl))
                have E97 := hval 4 _ 97 rfl rfl (dep_of hdep 4 (by rfl))
                unfold hold16No at E95 E97
                refine g_plain rfl ?_
                exact does_value (w' := W) (v := .bool false) (by go_simp) ⟨(), .inr rfl, hS⟩
              · have E98 := hval 5 _ 98 rfl rfl (dep_of hdep 5 (by rfl))
                unfold hold16No at E98
                refine g_plain rfl ?_
                exact does_value (w' := W) (v := .bool false) (by go_simp) ⟨(), .inr rfl, hS⟩
              · have EG := hval 6 _ 99 rfl rfl (dep_of hdep 6 (by rfl))
                have E17 : a.tmps[17]? = some (.int .i64 (x.length : Int)) := (same_of hsame 17 (by rfl)).trans rfl
                unfold hold16No at EG
                refine g_want rfl rfl rfl EG ?_
                exact does_value (w' := W) (v := .int .i64 (x.length : Int)) (by go_simp) ⟨(), .inr rfl, hS⟩
              · have EG := hval 6 _ 99 rfl rfl (dep_of hdep 6 (by rfl))
                have E15 : a.tmps[15]? = some (.slice Ax x.length cx) := (same_of hsame 15 (by rfl)).trans rfl
                unfold hold16No at EG
                refine g_want rfl rfl rfl EG ?_
                exact does_value (w' := W) (v := .slice Ax x.length cx) (by go_simp) ⟨(), .inr rfl, hS⟩
              · have EG := hval 6 _ 99 rfl rfl (dep_of hdep 6 (by rfl))
                have E101 := hval 8 _ 101 rfl rfl (dep_of hdep 8 (by rfl))
                unfold hold16No at EG E101
                refine g_want rfl rfl rfl EG ?_
                exact does_value (w' := W) (v := .int .i64 (x.length : Int)) (by go_simp) ⟨(), .inr rfl, hS⟩
              · have EG := hval 6 _ 99 rfl rfl (dep_of hdep 6 (by rfl))
                have E100 := hval 7 _ 100 rfl rfl (dep_of hdep 7 (by rfl))
                have E102 := hval 9 _ 102 rfl rfl (dep_of hdep 9 (by rfl))
                unfold hold16No at EG E100 E102
                refine g_want rfl rfl rfl EG ?_
                exact does_value (w' := W) (v := .bool false) (by go_simp) ⟨(), .inr rfl, hS⟩
              · have E99 := hval 6 _ 99 rfl rfl (dep_of hdep 6 (by rfl))
                have E103 := hval 10 _ 103 rfl rfl (dep_of hdep 10 (by rfl))
                unfold hold16No at E99 E103
                refine g_plain rfl ?_
                exact does_value (w' := W) (v := .bool false) (by go_simp) ⟨(), .inr rfl, hS⟩
              · have E104 := hval 11 _ 104 rfl rfl (dep_of hdep 11 (by rfl))
                unfold hold16No at E104
                refine g_plain rfl ?_
                exact does_value (w' := W) (v := .bool false) (by go_simp) ⟨(), .inr rfl, hS⟩
              · have EG := hval 12 _ 105 rfl rfl (dep_of hdep 12 (by rfl))
                have E20 : a.tmps[20]? = some (.int .i64 0) := (same_of hsame 20 (by rfl)).trans rfl
                unfold hold16No at EG
                refine g_want rfl rfl rfl EG ?_
                exact does_value (w' := W) (v := .int .i64 0) (by go_simp) ⟨(), .inr rfl, hS⟩
              · have EG := hval 12 _ 105 rfl rfl (dep_of hdep 12 (by rfl))
                have E106 := hval 13 _ 106 rfl rfl (dep_of hdep 13 (by rfl))
                unfold hold16No at EG E106
                refine g_want rfl rfl rfl EG ?_
                exact does_value (w' := W) (v := .bool false) (by go_simp) ⟨(), .inr rfl, hS⟩
              · have E105 := hval 12 _ 105 rfl rfl (dep_of hdep 12 (by rfl))
                have E107 := hval 14 _ 107 rfl rfl (dep_of hdep 14 (by rfl))
                unfold hold16No at E105 E107
                refine g_plain rfl ?_
                exact does_value (w' := W) (v := .bool false) (by go_simp) ⟨(), .inr rfl, hS⟩
              · have E108 := hval 15 _ 108 rfl rfl (dep_of hdep 15 (by rfl))
                unfold hold16No at E108
                refine g_plain rfl ?_
                exact does_value (w' := W) (v := .bool false) (by go_simp) ⟨(), .inr rfl, hS⟩
              · have EG := hval 16 _ 109 rfl rfl (dep_of hdep 16 (by rfl))
                have E19 : a.tmps[19]? = some (.pointer (some ⟨o, 0, none⟩)) := (same_of hsame 19 (by rfl)).trans rfl
                unfold hold16No at EG
                refine g_want rfl rfl rfl EG ?_
                exact does_load _ _ rfl o (by rw [eval_getD, E19]; rfl) _ (HKD.out.keep hS) _ Tryd.underlying32 rfl HSZ.out ⟨(), .inr rfl, hS⟩
              · have EG := hval 16 _ 109 rfl rfl (dep_of hdep 16 (by rfl))
                have E12 : a.tmps[12]? = some (.slice (some ⟨gI0, 0, none⟩) n2 c2) := (same_of hsame 12 (by rfl)).trans rfl
                unfold hold16No at EG
                refine g_want rfl rfl rfl EG ?_
                exact does_value (w' := W) (v := .slice (some ⟨gI0, 0, none⟩) n2 c2) (by go_simp) ⟨(), .inr rfl, hS⟩
              · have EG := hval 16 _ 109 rfl rfl (dep_of hdep 16 (by rfl))
                have E14 : a.tmps[14]? = some (.int .i64 (j : Int)) := (same_of hsame 14 (by rfl)).trans rfl
                unfold hold16No at EG
                refine g_want rfl rfl rfl EG ?_
                exact does_value (w' := W) (v := .int .i64 (j : Int)) (by go_simp) ⟨(), .inr rfl, hS⟩
              · have EG := hval 16 _ 109 rfl rfl (dep_of hdep 16 (by rfl))
                have E111 := hval 18 _ 111 rfl rfl (dep_of hdep 18 (by rfl))
                have E112 := hval 19 _ 112 rfl rfl (dep_of hdep 19 (by rfl))
                unfold hold16No at EG E111 E112
                have hlt1 := HLJ.out.1; have hlt2 := HLJ.out.2
                refine g_want rfl rfl rfl EG ?_
                exact does_value (w' := W) (v := .pointer (some ⟨gI0, j * 32, none⟩)) (by go_simp) ⟨(), .inr rfl, hS⟩
              · have EG := hval 16 _ 109 rfl rfl (dep_of hdep 16 (by rfl))
                have E113 := hval 20 _ 113 rfl rfl (dep_of hdep 20 (by rfl))
                unfold hold16No at EG E113
                refine g_want rfl rfl rfl EG ?_
                exact does_load_part _ _ rfl gI0 (j * 32) (by rw [eval_getD, E113]; rfl) (HBy.out.keep hS) HPy.out Tryd.underlying32 rfl (by rw [List.length_map, HYL.out]; kernel_rfl) ⟨(), .inr rfl, hS⟩
              · have EG := hval 16 _ 109 rfl rfl (dep_of hdep 16 (by rfl))
                have E110 := hval 17 _ 110 rfl rfl (dep_of hdep 17 (by rfl))
                have E114 := hval 21 _ 114 rfl rfl (dep_of hdep 21 (by rfl))
                unfold hold16No at EG E110 E114
                have heq := HEQ.out W
                refine g_want rfl rfl rfl EG ?_
                exact does_value (w' := W) (v := .bool false) (by go_simp) ⟨(), .inr rfl, hS⟩
              · have E109 := hval 16 _ 109 rfl rfl (dep_of hdep 16 (by rfl))
                have E115 := hval 22 _ 115 rfl rfl (dep_of hdep 22 (by rfl))
                unfold hold16No at E109 E115
                refine g_plain rfl ?_
                exact does_value (w' := W) (v := .bool false) (by go_simp) ⟨(), .inr rfl, hS⟩
              · have E116 := hval 23 _ 116 rfl rfl (dep_of hdep 23 (by rfl))
                unfold hold16No at E116
                refine g_plain rfl ?_
                exact does_value (w' := W) (v := .bool false) (by go_simp) ⟨(), .inr rfl, hS⟩
              · have EG := hval 24 _ 117 rfl rfl (dep_of hdep 24 (by rfl))
                have E14 : a.tmps[14]? = some (.int .i64 (j : Int)) := (same_of hsame 14 (by rfl)).trans rfl
                unfold hold16No at EG
                refine g_want rfl rfl rfl EG ?_
                exact does_value (w' := W) (v := .int .i64 (j : Int)) (by go_simp) ⟨(), .inr rfl, hS⟩
              · have EG := hval 24 _ 117 rfl rfl (dep_of hdep 24 (by rfl))
                have E118 := hval 25 _ 118 rfl rfl (dep_of hdep 25 (by rfl))
                unfold hold16No at EG E118
                have hj0 := HJ0.out.1; have hj1 := HJ0.out.2
                refine g_want rfl rfl rfl EG ?_
                exact does_value (w' := W) (v := .bool false) (by go_simp) ⟨(), .inr rfl, hS⟩
              · have EG := hval 24 _ 117 rfl rfl (dep_of hdep 24 (by rfl))
                have E119 := hval 26 _ 119 rfl rfl (dep_of hdep 26 (by rfl))
                unfold hold16No at EG E119
                refine g_want rfl rfl rfl EG ?_
                exact does_value (w' := W) (v := .bool false) (by go_simp) ⟨(), .inr rfl, hS⟩
              · have EG := hval 27 _ 120 rfl rfl (dep_of hdep 27 (by rfl))
                unfold hold16No at EG
                exact g_skip rfl rfl rfl EG rfl ⟨(), .inr rfl, hS⟩
              · have EG := hval 27 _ 120 rfl rfl (dep_of hdep 27 (by rfl))
                unfold hold16No at EG
                exact g_skip rfl rfl rfl EG rfl ⟨(), .inr rfl, hS⟩
              · have EG := hval 27 _ 120 rfl rfl (dep_of hdep 27 (by rfl))
                unfold hold16No at EG
                exact g_skip rfl rfl rfl EG rfl ⟨(), .inr rfl, hS⟩
              · have EG := hval 27 _ 120 rfl rfl (dep_of hdep 27 (by rfl))
                unfold hold16No at EG
                exact g_skip rfl rfl rfl EG rfl ⟨(), .inr rfl, hS⟩
              · have EG := hval 27 _ 120 rfl rfl (dep_of hdep 27 (by rfl))
                unfold hold16No at EG
                exact g_skip rfl rfl rfl EG rfl ⟨(), .inr rfl, hS⟩
              · have EG := hval 27 _ 120 rfl rfl (dep_of hdep 27 (by rfl))
                unfold hold16No at EG
                exact g_skip rfl rfl rfl EG rfl ⟨(), .inr rfl, hS⟩
              · have EG := hval 27 _ 120 rfl rfl (dep_of hdep 27 (by rfl))
                unfold hold16No at EG
                exact g_skip rfl rfl rfl EG rfl ⟨(), .inr rfl, hS⟩
              · have EG := hval 27 _ 120 rfl rfl (dep_of hdep 27 (by rfl))
                unfold hold16No at EG
                exact g_skip rfl rfl rfl EG rfl ⟨(), .inr rfl, hS⟩
              · have EG := hval 27 _ 120 rfl rfl (dep_of hdep 27 (by rfl))
                unfold hold16No at EG
                exact g_skip rfl rfl rfl EG rfl ⟨(), .inr rfl, hS⟩
              · have EG := hval 27 _ 120 rfl rfl (dep_of hdep 27 (by rfl))
                unfold hold16No at EG
                exact g_skip rfl rfl rfl EG rfl ⟨(), .inr rfl, hS⟩
              · have EG := hval 27 _ 120 rfl rfl (dep_of hdep 27 (by rfl))
                unfold hold16No at EG
                exact g_skip rfl rfl rfl EG rfl ⟨(), .inr rfl, hS⟩
              · have EG := hval 24 _ 117 rfl rfl (dep_of hdep 24 (by rfl))
                have E120 := hval 27 _ 120 rfl rfl (dep_of hdep 27 (by rfl))
                unfold hold16No at EG E120
                refine g_want rfl rfl rfl EG ?_
                exact does_value (w' := W) (v := .bool false) (by go_simp) ⟨(), .inr rfl, hS⟩
              · have E117 := hval 24 _ 117 rfl rfl (dep_of hdep 24 (by rfl))
                have E132 := hval 39 _ 132 rfl rfl (dep_of hdep 39 (by rfl))
                unfold hold16No at E117 E132
                refine g_plain rfl ?_
                exact does_value (w' := W) (v := .bool false) (by go_simp) ⟨(), .inr rfl, hS⟩
            · intro gh w8 hS
              have HB8 := hid (HB7.out.trans (hS.mono HB7.out.size))
              simp only [putAll, hold16No, Nat.reduceAdd, Nat.zero_add, Act.put, List.setIfInBounds_toArray, List.set_cons_zero, List.set_cons_succ]
              clear hS HBy HKD HEQ HB7
              have hw1 := HW1.out
              go_wp2_with fail
              go_roundw
              case rel => exact ⟨j + 1, by go_num, rfl, by omega, HB8⟩
              case measure => simp [intOf]; omega
          · have HJ0 := hid (⟨by omega, by omega⟩ : (0 : Int) < (j : Int) ∧ 0 < j)
            obtain ⟨j0, hjj⟩ : ∃ j0, j = j0 + 1 := ⟨j - 1, by omega⟩
            obtain ⟨y0, hy0⟩ : ∃ y0, ids[j0]? = some y0 := ⟨_, List.getElem?_eq_getElem (by rw [HN2.out]; omega)⟩
            obtain ⟨pre0, post0, hby0, hpy0, hyl0, -⟩ := HR2.out.get hy0
            have HYL0 := hid hyl0
            have HBy0 := hid (hby0.keep HB7.out)
            have HPy0 := hid (show pre0.length = j0 * 32 by omega)
            have HLJ0 := hid (⟨by omega, by omega⟩ : (j0 : Int) < (n2 : Int) ∧ j0 < n2)
            have HW0 := hid (show IntKind.i64.wrap ((j : Int) - 1) = (j0 : Int) from by rw [IntWalk.i64_in _ (by omega)]; omega)
            have HCM := hid (fun W => own_compare_calls y0 y W hyl0 HYL.out)
            have HCL := hid (show ¬ (0 : Int) ≤ cmpL y0 y from by
              have h1 := HYI.out
              obtain ⟨h2, e2⟩ := List.getElem?_eq_some_iff.1 h1
              obtain ⟨h3, e3⟩ := List.getElem?_eq_some_iff.1 hy0
              have := List.pairwise_iff_getElem.1 HSt.out j0 j h3 h2 (by omega)
              rw [e2, e3] at this
              omega)
            clear hj0 hjj hy0 hby0 hpy0 hyl0
            go_wp2_with fail
            refine wp_region_invG 147 () (hold16Yes gI0 n2 c2 j j0 cx Ax x y y0) (fun _ _ W => Below w7.heap.size w7 W) (by kernel_rfl) (by kernel_rfl) (by exact Nat.le_refl 147) ?_ ?_ ?_
            · exact (Below.refl _ _).drew
            · intro i o f gh a W hi hf hdep hsame hcl hval hS
              rcases i with _ | _ | _ | _ | _ | _ | _ | _ | _ | _ | _ | _ | _ | _ | _ | _ | _ | _ | _ | _ | _ | _ | _ | _ | _ | _ | _ | _ | _ | _ | _ | _ | _ | _ | _ | _ | _ | _ | _ | _ | _ | i
              all_goals simp only [List.getElem?_cons_succ, List.getElem?_cons_zero, List.getElem?_nil, Option.some.injEq, reduceCtorEq] at hi
              all_goals subst hi
              · have E16 : a.tmps[16]? = some (.bool true) := (same_of hsame 16 (by rfl)).trans rfl
                refine g_plain rfl ?_
                exact does_value (w' := W) (v := .bool true) (by go_simp) ⟨(), .inr rfl, hS⟩
              · have E93 := hval 0 _ 93 rfl rfl (dep_of hdep 0 (by rfl))
                unfold hold16Yes at E93
                refine g_plain rfl ?_
                exact does_value (w' := W) (v := .bool false) (by go_simp) ⟨(), .inr rfl, hS⟩
              · have E94 := hval 1 _ 94 rfl rfl (dep_of hdep 1 (by rfl))
                unfold hold16Yes at E94
                refine g_plain rfl ?_
                exact does_value (w' := W) (v := .bool false) (by go_simp) ⟨(), .inr rfl, hS⟩
              · have EG := hval 2 _ 95 rfl rfl (dep_of hdep 2 (by rfl))
                have E18 : a.tmps[18]? = some (.bool true) := (same_of hsame 18 (by rfl)).trans rfl
                unfold hold16Yes at EG
                refine g_want rfl rfl rfl EG ?_
                exact does_value (w' := W) (v := .bool true) (by go_simp) ⟨(), .inr rfl, hS⟩
              · have EG := hval 2 _ 95 rfl rfl (dep_of hdep 2 (by rfl))
                have E96 := hval 3 _ 96 rfl rfl (dep_of hdep 3 (by rfl))
                unfold hold16Yes at EG E96
                refine g_want rfl rfl rfl EG ?_
                exact does_value (w' := W) (v := .bool false) (by go_simp) ⟨(), .inr rfl, hS⟩
              · have E95 := hval 2 _ 95 rfl rfl (dep_of hdep 2 (by rfl))
                have E97 := hval 4 _ 97 rfl rfl (dep_of hdep 4 (by rfl))
                unfold hold16Yes at E95 E97
                refine g_plain rfl ?_
                exact does_value (w' := W) (v := .bool false) (by go_simp) ⟨(), .inr rfl, hS⟩
              · have E98 := hval 5 _ 98 rfl rfl (dep_of hdep 5 (by rfl))
                unfold hold16Yes at E98
                refine g_plain rfl ?_
                exact does_value (w' := W) (v := .bool false) (by go_simp) ⟨(), .inr rfl, hS⟩
              · have EG := hval 6 _ 99 rfl rfl (dep_of hdep 6 (by rfl))
                have E17 : a.tmps[17]? = some (.int .i64 (x.length : Int)) := (same_of hsame 17 (by rfl)).trans rfl
                unfold hold16Yes at EG
                refine g_want rfl rfl rfl EG ?_
                exact does_value (w' := W) (v := .int .i64 (x.length : Int)) (by go_simp) ⟨(), .inr rfl, hS⟩
              · have EG := hval 6 _ 99 rfl rfl (dep_of hdep 6 (by rfl))
                have E15 : a.tmps[15]? = some (.slice Ax x.length cx) := (same_of hsame 15 (by rfl)).trans rfl
                unfold hold16Yes at EG
                refine g_want rfl rfl rfl EG ?_
                exact does_value (w' := W) (v := .slice Ax x.length cx) (by go_simp) ⟨(), .inr rfl, hS⟩
              · have EG := hval 6 _ 99 rfl rfl (dep_of hdep 6 (by rfl))
                have E101 := hval 8 _ 101 rfl rfl (dep_of hdep 8 (by rfl))
                unfold hold16Yes at EG E101
                refine g_want rfl rfl rfl EG ?_
                exact does_value (w' := W) (v := .int .i64 (x.length : Int)) (by go_simp) ⟨(), .inr rfl, hS⟩
              · have EG := hval 6 _ 99 rfl rfl (dep_of hdep 6 (by rfl))
                have E100 := hval 7 _ 100 rfl rfl (dep_of hdep 7 (by rfl))
                have E102 := hval 9 _ 102 rfl rfl (dep_of hdep 9 (by rfl))
                unfold hold16Yes at EG E100 E102
                refine g_want rfl rfl rfl EG ?_
                exact does_value (w' := W) (v := .bool false) (by go_simp) ⟨(), .inr rfl, hS⟩
              · have E99 := hval 6 _ 99 rfl rfl (dep_of hdep 6 (by rfl))
                have E103 := hval 10 _ 103 rfl rfl (dep_of hdep 10 (by rfl))
                unfold hold16Yes at E99 E103
                refine g_plain rfl ?_
                exact does_value (w' := W) (v := .bool false) (by go_simp) ⟨(), .inr rfl, hS⟩
              · have E104 := hval 11 _ 104 rfl rfl (dep_of hdep 11 (by rfl))
                unfold hold16Yes at E104
                refine g_plain rfl ?_
                exact does_value (w' := W) (v := .bool false) (by go_simp) ⟨(), .inr rfl, hS⟩
              · have EG := hval 12 _ 105 rfl rfl (dep_of hdep 12 (by rfl))
                have E20 : a.tmps[20]? = some (.int .i64 0) := (same_of hsame 20 (by rfl)).trans rfl
                unfold hold16Yes at EG
                refine g_want rfl rfl rfl EG ?_
                exact does_value (w' := W) (v := .int .i64 0) (by go_simp) ⟨(), .inr rfl, hS⟩
              · have EG := hval 12 _ 105 rfl rfl (dep_of hdep 12 (by rfl))
                have E106 := hval 13 _ 106 rfl rfl (dep_of hdep 13 (by rfl))
                unfold hold16Yes at EG E106
                refine g_want rfl rfl rfl EG ?_
                exact does_value (w' := W) (v := .bool false) (by go_simp) ⟨(), .inr rfl, hS⟩
              · have E105 := hval 12 _ 105 rfl rfl (dep_of hdep 12 (by rfl))
                have E107 := hval 14 _ 107 rfl rfl (dep_of hdep 14 (by rfl))
                unfold hold16Yes at E105 E107
                refine g_plain rfl ?_
                exact does_value (w' := W) (v := .bool false) (by go_simp) ⟨(), .inr rfl, hS⟩
              · have E108 := hval 15 _ 108 rfl rfl (dep_of hdep 15 (by rfl))
                unfold hold16Yes at E108
                refine g_plain rfl ?_
                exact does_value (w' := W) (v := .bool false) (by go_simp) ⟨(), .inr rfl, hS⟩
              · have EG := hval 16 _ 109 rfl rfl (dep_of hdep 16 (by rfl))
                have E19 : a.tmps[19]? = some (.pointer (some ⟨o, 0, none⟩)) := (same_of hsame 19 (by rfl)).trans rfl
                unfold hold16Yes at EG
                refine g_want rfl rfl rfl EG ?_
                exact does_load _ _ rfl o (by rw [eval_getD, E19]; rfl) _ (HKD.out.keep hS) _ Tryd.underlying32 rfl HSZ.out ⟨(), .inr rfl, hS⟩
              · have EG := hval 16 _ 109 rfl rfl (dep_of hdep 16 (by rfl))
                have E12 : a.tmps[12]? = some (.slice (some ⟨gI0, 0, none⟩) n2 c2) := (same_of hsame 12 (by rfl)).trans rfl
                unfold hold16Yes at EG
                refine g_want rfl rfl rfl EG ?_
                exact does_value (w' := W) (v := .slice (some ⟨gI0, 0, none⟩) n2 c2) (by go_simp) ⟨(), .inr rfl, hS⟩
              · have EG := hval 16 _ 109 rfl rfl (dep_of hdep 16 (by rfl))
                have E14 : a.tmps[14]? = some (.int .i64 (j : Int)) := (same_of hsame 14 (by rfl)).trans rfl
                unfold hold16Yes at EG
                refine g_want rfl rfl rfl EG ?_
                exact does_value (w' := W) (v := .int .i64 (j : Int)) (by go_simp) ⟨(), .inr rfl, hS⟩
              · have EG := hval 16 _ 109 rfl rfl (dep_of hdep 16 (by rfl))
                have E111 := hval 18 _ 111 rfl rfl (dep_of hdep 18 (by rfl))
                have E112 := hval 19 _ 112 rfl rfl (dep_of hdep 19 (by rfl))
                unfold hold16Yes at EG E111 E112
                have hlt1 := HLJ.out.1; have hlt2 := HLJ.out.2
                refine g_want rfl rfl rfl EG ?_
                exact does_value (w' := W) (v := .pointer (some ⟨gI0, j * 32, none⟩)) (by go_simp) ⟨(), .inr rfl, hS⟩
              · have EG := hval 16 _ 109 rfl rfl (dep_of hdep 16 (by rfl))
                have E113 := hval 20 _ 113 rfl rfl (dep_of hdep 20 (by rfl))
                unfold hold16Yes at EG E113
                refine g_want rfl rfl rfl EG ?_
                exact does_load_part _ _ rfl gI0 (j * 32) (by rw [eval_getD, E113]; rfl) (HBy.out.keep hS) HPy.out Tryd.underlying32 rfl (by rw [List.length_map, HYL.out]; kernel_rfl) ⟨(), .inr rfl, hS⟩
              · have EG := hval 16 _ 109 rfl rfl (dep_of hdep 16 (by rfl))
                have E110 := hval 17 _ 110 rfl rfl (dep_of hdep 17 (by rfl))
                have E114 := hval 21 _ 114 rfl rfl (dep_of hdep 21 (by rfl))
                unfold hold16Yes at EG E110 E114
                have heq := HEQ.out W
                refine g_want rfl rfl rfl EG ?_
                exact does_value (w' := W) (v := .bool false) (by go_simp) ⟨(), .inr rfl, hS⟩
              · have E109 := hval 16 _ 109 rfl rfl (dep_of hdep 16 (by rfl))
                have E115 := hval 22 _ 115 rfl rfl (dep_of hdep 22 (by rfl))
                unfold hold16Yes at E109 E115
                refine g_plain rfl ?_
                exact does_value (w' := W) (v := .bool false) (by go_simp) ⟨(), .inr rfl, hS⟩
              · have E116 := hval 23 _ 116 rfl rfl (dep_of hdep 23 (by rfl))
                unfold hold16Yes at E116
                refine g_plain rfl ?_
                exact does_value (w' := W) (v := .bool false) (by go_simp) ⟨(), .inr rfl, hS⟩
              · have EG := hval 24 _ 117 rfl rfl (dep_of hdep 24 (by rfl))
                have E14 : a.tmps[14]? = some (.int .i64 (j : Int)) := (same_of hsame 14 (by rfl)).trans rfl
                unfold hold16Yes at EG
                refine g_want rfl rfl rfl EG ?_
                exact does_value (w' := W) (v := .int .i64 (j : Int)) (by go_simp) ⟨(), .inr rfl, hS⟩
              · have EG := hval 24 _ 117 rfl rfl (dep_of hdep 24 (by rfl))
                have E118 := hval 25 _ 118 rfl rfl (dep_of hdep 25 (by rfl))
                unfold hold16Yes at EG E118
                have hj0 := HJ0.out.1; have hj1 := HJ0.out.2
                refine g_want rfl rfl rfl EG ?_
                exact does_value (w' := W) (v := .bool true) (by go_simp) ⟨(), .inr rfl, hS⟩
              · have EG := hval 24 _ 117 rfl rfl (dep_of hdep 24 (by rfl))
                have E119 := hval 26 _ 119 rfl rfl (dep_of hdep 26 (by rfl))
                unfold hold16Yes at EG E119
                refine g_want rfl rfl rfl EG ?_
                exact does_value (w' := W) (v := .bool true) (by go_simp) ⟨(), .inr rfl, hS⟩
              · have EG := hval 27 _ 120 rfl rfl (dep_of hdep 27 (by rfl))
                have E12 : a.tmps[12]? = some (.slice (some ⟨gI0, 0, none⟩) n2 c2) := (same_of hsame 12 (by rfl)).trans rfl
                unfold hold16Yes at EG
                refine g_want rfl rfl rfl EG ?_
                exact does_value (w' := W) (v := .slice (some ⟨gI0, 0, none⟩) n2 c2) (by go_simp) ⟨(), .inr rfl, hS⟩
              · have EG := hval 27 _ 120 rfl rfl (dep_of hdep 27 (by rfl))
                have E14 : a.tmps[14]? = some (.int .i64 (j : Int)) := (same_of hsame 14 (by rfl)).trans rfl
                unfold hold16Yes at EG
                refine g_want rfl rfl rfl EG ?_
                exact does_value (w' := W) (v := .int .i64 (j : Int)) (by go_simp) ⟨(), .inr rfl, hS⟩
              · have EG := hval 27 _ 120 rfl rfl (dep_of hdep 27 (by rfl))
                have E122 := hval 29 _ 122 rfl rfl (dep_of hdep 29 (by rfl))
                unfold hold16Yes at EG E122
                have hw0 := HW0.out
                refine g_want rfl rfl rfl EG ?_
                exact does_value (w' := W) (v := .int .i64 (j0 : Int)) (by go_simp) ⟨(), .inr rfl, hS⟩
              · have EG := hval 27 _ 120 rfl rfl (dep_of hdep 27 (by rfl))
                have E121 := hval 28 _ 121 rfl rfl (dep_of hdep 28 (by rfl))
                have E123 := hval 30 _ 123 rfl rfl (dep_of hdep 30 (by rfl))
                unfold hold16Yes at EG E121 E123
                have hlt1 := HLJ0.out.1; have hlt2 := HLJ0.out.2
                refine g_want rfl rfl rfl EG ?_
                exact does_value (w' := W) (v := .pointer (some ⟨gI0, j0 * 32, none⟩)) (by go_simp) ⟨(), .inr rfl, hS⟩
              · have EG := hval 27 _ 120 rfl rfl (dep_of hdep 27 (by rfl))
                have E124 := hval 31 _ 124 rfl rfl (dep_of hdep 31 (by rfl))
                unfold hold16Yes at EG E124
                refine g_want rfl rfl rfl EG ?_
                exact does_load_part _ _ rfl gI0 (j0 * 32) (by rw [eval_getD, E124]; rfl) (HBy0.out.keep hS) HPy0.out Tryd.underlying32 rfl (by rw [List.length_map, HYL0.out]; kernel_rfl) ⟨(), .inr rfl, hS⟩
              · have EG := hval 27 _ 120 rfl rfl (dep_of hdep 27 (by rfl))
                have E12 : a.tmps[12]? = some (.slice (some ⟨gI0, 0, none⟩) n2 c2) := (same_of hsame 12 (by rfl)).trans rfl
                unfold hold16Yes at EG
                refine g_want rfl rfl rfl EG ?_
                exact does_value (w' := W) (v := .slice (some ⟨gI0, 0, none⟩) n2 c2) (by go_simp) ⟨(), .inr rfl, hS⟩
              · have EG := hval 27 _ 120 rfl rfl (dep_of hdep 27 (by rfl))
                have E14 : a.tmps[14]? = some (.int .i64 (j : Int)) := (same_of hsame 14 (by rfl)).trans rfl
                unfold hold16Yes at EG
                refine g_want rfl rfl rfl EG ?_
                exact does_value (w' := W) (v := .int .i64 (j : Int)) (by go_simp) ⟨(), .inr rfl, hS⟩
              · have EG := hval 27 _ 120 rfl rfl (dep_of hdep 27 (by rfl))
                have E126 := hval 33 _ 126 rfl rfl (dep_of hdep 33 (by rfl))
                have E127 := hval 34 _ 127 rfl rfl (dep_of hdep 34 (by rfl))
                unfold hold16Yes at EG E126 E127
                have hlt1 := HLJ.out.1; have hlt2 := HLJ.out.2
                refine g_want rfl rfl rfl EG ?_
                exact does_value (w' := W) (v := .pointer (some ⟨gI0, j * 32, none⟩)) (by go_simp) ⟨(), .inr rfl, hS⟩
              · have EG := hval 27 _ 120 rfl rfl (dep_of hdep 27 (by rfl))
                have E128 := hval 35 _ 128 rfl rfl (dep_of hdep 35 (by rfl))
                unfold hold16Yes at EG E128
                refine g_want rfl rfl rfl EG ?_
                exact does_load_part _ _ rfl gI0 (j * 32) (by rw [eval_getD, E128]; rfl) (HBy.out.keep hS) HPy.out Tryd.underlying32 rfl (by rw [List.length_map, HYL.out]; kernel_rfl) ⟨(), .inr rfl, hS⟩
              · have EG := hval 27 _ 120 rfl rfl (dep_of hdep 27 (by rfl))
                have E125 := hval 32 _ 125 rfl rfl (dep_of hdep 32 (by rfl))
                have E129 := hval 36 _ 129 rfl rfl (dep_of hdep 36 (by rfl))
                unfold hold16Yes at EG E125 E129
                refine g_want rfl rfl rfl EG ?_
                refine does_call 53 #[.agg (bcells y0), .agg (bcells y)] (by go_simp) ((HCM.out W).mono ?_)
                rintro _ W' ⟨rfl, hb⟩
                exact ⟨_, rfl, (), .inr rfl, hS.trans (hb.mono hS.size)⟩
              · have EG := hval 27 _ 120 rfl rfl (dep_of hdep 27 (by rfl))
                have E130 := hval 37 _ 130 rfl rfl (dep_of hdep 37 (by rfl))
                unfold hold16Yes at EG E130
                have hcm := HCL.out
                refine g_want rfl rfl rfl EG ?_
                exact does_value (w' := W) (v := .bool false) (by go_simp) ⟨(), .inr rfl, hS⟩
              · have EG := hval 24 _ 117 rfl rfl (dep_of hdep 24 (by rfl))
                have E120 := hval 27 _ 120 rfl rfl (dep_of hdep 27 (by rfl))
                have E131 := hval 38 _ 131 rfl rfl (dep_of hdep 38 (by rfl))
                unfold hold16Yes at EG E120 E131
                refine g_want rfl rfl rfl EG ?_
                exact does_value (w' := W) (v := .bool false) (by go_simp) ⟨(), .inr rfl, hS⟩
              · have E117 := hval 24 _ 117 rfl rfl (dep_of hdep 24 (by rfl))
                have E132 := hval 39 _ 132 rfl rfl (dep_of hdep 39 (by rfl))
                unfold hold16Yes at E117 E132
                refine g_plain rfl ?_
                exact does_value (w' := W) (v := .bool false) (by go_simp) ⟨(), .inr rfl, hS⟩
            · intro gh w8 hS
              have HB8 := hid (HB7.out.trans (hS.mono HB7.out.size))
              simp only [putAll, hold16Yes, Nat.reduceAdd, Nat.zero_add, Act.put, List.setIfInBounds_toArray, List.set_cons_zero, List.set_cons_succ]
              clear hS HBy HKD HEQ HB7
              have hw1 := HW1.out
              go_wp2_with fail
              go_roundw
              case rel => exact ⟨j + 1, by go_num, rfl, by omega, HB8⟩
              case measure => simp [intOf]; omega
        · obtain rfl : j = n2 := by omega
          have HBj0 := hid (HB2.out.trans (HBj.out.mono HB2.out.size))
          have HU := hid (used_calls (HS.out.keep HBj0.out))
          have HRo := hid (room_calls (HS.out.keep HBj0.out))
          have hur : (usedB b.l : Int) ≤ (b.room : Int) := by have := HS.out.ok.used; omega
          have hur2 := HS.out.ok.used
          rw [show sumI b.l (ids.take j) = usedB b.l from by rw [List.take_of_length_le (by rw [HN2.out]; exact Nat.le_refl _)]; exact HTot.out]
          go_wp2_with fail
          refine HU.out.mono ?_
          rintro _ _ ⟨rfl, rfl⟩
          go_wp2_with fail
          refine HRo.out.mono ?_
          rintro _ _ ⟨rfl, rfl⟩
          go_wp2_with fail
          go_ret
          exact ⟨rfl, HBj0.out⟩
end Go.Proofs.YtoogaapjdlhpbaaDoor
/- Numbers in a row; the kit's Pick. -/
namespace Go.Proofs.YtoogaapjdlhpbaaDoor
open Go.RowKit

/-- In the world w the n cells from A on hold the numbers zs. -/
def SI (w : World) (A : Option Addr) (n : Nat) (zs : List Int) : Prop :=
  zs.length = n ∧ (0 < n → ∃ b off, A = some ⟨b, off, none⟩ ∧ ∀ j z, zs[j]? = some z → w.cell? ⟨b, off + j, none⟩ = some (.int .i64 z))
theorem SI.keep {w w' : World} {A : Option Addr} {n : Nat} {zs : List Int} (h : SI w A n zs) (hb : Below w.heap.size w w') : SI w' A n zs :=
  ⟨h.1, fun hn => by
    obtain ⟨b, off, e, hc⟩ := h.2 hn
    exact ⟨b, off, e, fun j x hj => (hb.cell (p := ⟨b, off + j, none⟩) (lt_of_cell (hc j x hj))).trans (hc j x hj)⟩⟩
theorem SI.at_ {w : World} {A : Option Addr} {n : Nat} {zs : List Int} (h : SI w A n zs) {k : Nat} (hk : k < n) : ∃ b off z, A = some ⟨b, off, none⟩ ∧ zs[k]? = some z ∧ w.cell? ⟨b, off + k, none⟩ = some (.int .i64 z) := by
  obtain ⟨b, off, e, hc⟩ := h.2 (by omega)
  have hl : k < zs.length := by have := h.1; omega
  exact ⟨b, off, zs[k], e, List.getElem?_eq_getElem hl, hc k _ (List.getElem?_eq_getElem hl)⟩
theorem tmod_low (x n : Int) (h : 0 < n) (hx : x.tmod n < 0) : x.tmod n + n = x % n := by
  have h1 := Int.tmod_eq_emod (a := x) (b := n)
  have h2 := Int.emod_nonneg x (show n ≠ 0 by omega)
  have h3 := Int.emod_lt_of_pos x h
  rw [h1] at hx ⊢
  split at hx
  · omega
  · have : (n.natAbs : Int) = n := by omega
    rename_i hh
    rw [if_neg hh, this]; omega
theorem tmod_high (x n : Int) (h : 0 < n) (hx : ¬ x.tmod n < 0) : x.tmod n = x % n := by
  have h1 := Int.tmod_eq_emod (a := x) (b := n)
  have h2 := Int.emod_nonneg x (show n ≠ 0 by omega)
  have h3 := Int.emod_lt_of_pos x h
  rw [h1] at hx ⊢
  split at hx
  · rename_i hh; rw [if_pos hh]; omega
  · rename_i hh
    have : (n.natAbs : Int) = n := by omega
    rw [this] at hx; omega

theorem pick_calls (x n : Int) (w : World) (h3 : 0 < n) (h4 : n ≤ 1099511627776) :
    Calls Tryd.prog 34 #[.int .i64 x, .int .i64 n] w fun e w' => e = .returned (.int .i64 (x % n)) ∧ w = w' := by
  by_cases hx : x.tmod n < 0
  · go_enter Tryd.func34, Tryd.ntmps34
    go_wp2_with fail
    go_ret
    refine ⟨ret_int ?_, rfl⟩
    have h2 := Int.emod_nonneg x (show n ≠ 0 by omega)
    have h5 := Int.emod_lt_of_pos x h3
    rw [tmod_low x n h3 hx]
    exact IntWalk.wrap64_in _ (by omega)
  · go_enter Tryd.func34, Tryd.ntmps34
    go_wp2_with fail
    go_ret
    exact ⟨ret_int (tmod_high x n h3 (by omega)), rfl⟩

end Go.Proofs.YtoogaapjdlhpbaaDoor
/- BlobHolds: what the law keeps, step by step. -/
namespace Go.Proofs.YtoogaapjdlhpbaaDoor
open Go.RowKit Crc

/-- what is known of a store and of the law's truths beside it -/
structure HoldM (b : BS) (wd : Nat) (l : List (List UInt8)) (K : List Bool) (i : Nat) : Prop where
  bw : b.width = wd
  dig : ∀ p ∈ b.l, p.1 = digB p.2 wd
  kn : K.length = l.length
  kept : ∀ (q : Nat) x, l[q]? = some x → K[q]? = some true → lookB b.l (digB x wd) = some x
  late : ∀ q, i ≤ q → K[q]? ≠ some true
section
variable {b : BS} {wd i : Nat} {l : List (List UInt8)} {K : List Bool}
/-- what Put answers to bytes under their own digest -/
theorem put_cases (hb : b.width = wd) (x : List UInt8) (hx : x.length ≤ 4096) : (putI b (digB x wd) x = true ∧ putE b (digB x wd) x = 0 ∧ lookB b.l (digB x wd) = none ∧ putB b (digB x wd) x = { b with l := b.l ++ [(digB x wd, x)] }) ∨
    (putI b (digB x wd) x = false ∧ putE b (digB x wd) x = 0 ∧ lookB b.l (digB x wd) = some x ∧ putB b (digB x wd) x = b) ∨ (putI b (digB x wd) x = false ∧ (putE b (digB x wd) x = 9 ∨ putE b (digB x wd) x = 10) ∧ putB b (digB x wd) x = b) := by
  have hf := putE_form b (digB x wd) x hx (by rw [hb])
  cases hl : lookB b.l (digB x wd) with
  | none =>
    rw [hl] at hf
    simp only at hf
    by_cases hr : (x.length : Int) ≤ (b.room : Int) - (usedB b.l : Int)
    · rw [if_pos (decide_eq_true hr)] at hf
      exact .inl ⟨by unfold putI; exact decide_eq_true ⟨hf, hl⟩, hf, rfl, by unfold putB; rw [if_pos ⟨hf, hl⟩]⟩
    · rw [if_neg (by simpa using hr)] at hf
      have hn : ¬ (putE b (digB x wd) x = 0 ∧ lookB b.l (digB x wd) = none) := fun h => by rw [hf] at h; exact absurd h.1 (by decide)
      exact .inr (.inr ⟨by unfold putI; exact decide_eq_false hn, .inr hf, by unfold putB; rw [if_neg hn]⟩)
  | some y =>
    rw [hl] at hf
    simp only at hf
    have hn : ¬ (putE b (digB x wd) x = 0 ∧ lookB b.l (digB x wd) = none) := fun h => by rw [hl] at h; cases h.2
    by_cases e : y = x
    · subst e
      rw [if_pos (beq_self_eq_true y)] at hf
      exact .inr (.inl ⟨by unfold putI; exact decide_eq_false hn, hf, rfl, by unfold putB; rw [if_neg hn]⟩)
    · rw [if_neg (by simpa using e)] at hf
      exact .inr (.inr ⟨by unfold putI; exact decide_eq_false hn, .inl hf, by unfold putB; rw [if_neg hn]⟩)
theorem get_set_ne {K : List Bool} {i q : Nat} {v : Bool} (h : q ≠ i) : (K.set i v)[q]? = K[q]? := by rw [List.getElem?_set, if_neg (Ne.symm h)]
theorem HoldM.put (h : HoldM b wd l K i) (x : List UInt8) (hx : l[i]? = some x) (hx4 : x.length ≤ 4096) : HoldM (putB b (digB x wd) x) wd l (K.set i (decide (putE b (digB x wd) x = 0))) (i + 1) := by
  have hil : i < K.length := by rw [h.kn]; exact (List.getElem?_eq_some_iff.1 hx).1
  have hkn : (K.set i (decide (putE b (digB x wd) x = 0))).length = l.length := by rw [List.length_set]; exact h.kn
  have late : ∀ q, i + 1 ≤ q → (K.set i (decide (putE b (digB x wd) x = 0)))[q]? ≠ some true := fun q hq => by rw [get_set_ne (by omega)]; exact h.late q (by omega)
  have hself : (K.set i (decide (putE b (digB x wd) x = 0)))[i]? = some (decide (putE b (digB x wd) x = 0)) := by simp [hil]
  rcases put_cases h.bw x hx4 with ⟨_, p2, p3, p4⟩ | ⟨_, p2, p3, p4⟩ | ⟨_, p2, p4⟩
  · rw [p4]
    refine ⟨h.bw, fun p hp => ?_, hkn, fun q z hz hk => ?_, late⟩
    · rcases List.mem_append.1 hp with hp | hp
      · exact h.dig p hp
      · rw [List.mem_singleton.1 hp]
    · show lookB (b.l ++ [(digB x wd, x)]) (digB z wd) = some z
      rw [lookB_append _ p3]
      by_cases e : q = i
      · subst e
        rw [hx] at hz
        cases hz
        rw [if_pos rfl]
      · rw [get_set_ne e] at hk
        have := h.kept q z hz hk
        rw [if_neg (fun e2 => by rw [e2, p3] at this; cases this)]
        exact this
  · rw [p4]
    refine ⟨h.bw, h.dig, hkn, fun q z hz hk => ?_, late⟩
    by_cases e : q = i
    · subst e
      rw [hx] at hz
      cases hz
      exact p3
    · rw [get_set_ne e] at hk
      exact h.kept q z hz hk
  · rw [p4]
    refine ⟨h.bw, h.dig, hkn, fun q z hz hk => ?_, late⟩
    by_cases e : q = i
    · subst e
      rw [hself] at hk
      have : putE b (digB x wd) x = 0 := by simpa using hk
      rcases p2 with p2 | p2 <;> rw [p2] at this <;> cases this
    · rw [get_set_ne e] at hk
      exact h.kept q z hz hk
/-- the truths behind a drop: those of the first m places are put right -/
def dropK (l : List (List UInt8)) (wd : Nat) (d : List UInt8) (m : Nat) (K : List Bool) : List Bool := (List.range K.length).map fun q => K.getD q false && (decide (m ≤ q) || !(digB (l.getD q []) wd == d))
theorem dropK_get {d : List UInt8} {m q : Nat} (h : q < K.length) : (dropK l wd d m K)[q]? = some (K.getD q false && (decide (m ≤ q) || !(digB (l.getD q []) wd == d))) := by
  unfold dropK
  simp [h]
theorem dropK_zero (d : List UInt8) : dropK l wd d 0 K = K := by
  refine List.ext_getElem? fun q => ?_
  by_cases h : q < K.length
  · rw [dropK_get h]
    simp [List.getD, h]
  · rw [List.getElem?_eq_none (by simp [dropK]; omega), List.getElem?_eq_none (by omega)]
theorem dropK_length (d : List UInt8) (m : Nat) : (dropK l wd d m K).length = K.length := by simp [dropK]
theorem dropK_next {d x : List UInt8} {m : Nat} (hm : m < K.length) (hx : l[m]? = some x) : dropK l wd d (m + 1) K = (dropK l wd d m K).set m (K.getD m false && !(digB x wd == d)) := by
  refine List.ext_getElem? fun q => ?_
  have hlx : l.getD m [] = x := by rw [List.getD_eq_getElem?_getD, hx]; rfl
  by_cases h : q < K.length
  · rw [dropK_get h]
    by_cases e : q = m
    · subst e
      rw [List.getElem?_set, if_pos rfl, if_pos (by rw [dropK_length]; exact h), hlx]
      have : decide (q + 1 ≤ q) = false := decide_eq_false (by omega)
      rw [this, Bool.false_or]
    · rw [get_set_ne e, dropK_get h]
      have : decide (m + 1 ≤ q) = decide (m ≤ q) := by
        by_cases h2 : m + 1 ≤ q
        · rw [decide_eq_true h2, decide_eq_true (by omega)]
        · rw [decide_eq_false h2, decide_eq_false (by omega)]
      rw [this]
  · rw [List.getElem?_eq_none (by rw [dropK_length]; omega), List.getElem?_eq_none (by rw [List.length_set, dropK_length]; omega)]
theorem HoldM.drop (h : HoldM b wd l K i) (d : List UInt8) : HoldM (dropB b d) wd l (dropK l wd d i K) i := by
  refine ⟨h.bw, fun p hp => h.dig p (List.mem_filter.1 hp).1, by rw [dropK_length]; exact h.kn, fun q x hx hk => ?_, fun q hq hk => ?_⟩
  · have hql : q < K.length := by rw [h.kn]; exact (List.getElem?_eq_some_iff.1 hx).1
    rw [dropK_get hql] at hk
    have hlx : l.getD q [] = x := by rw [List.getD_eq_getElem?_getD, hx]; rfl
    rw [hlx] at hk
    have hk2 : (K.getD q false && (decide (i ≤ q) || !(digB x wd == d))) = true := by simpa using hk
    rw [Bool.and_eq_true] at hk2
    have hkq : K[q]? = some true := by
      have := hk2.1
      rw [List.getD_eq_getElem?_getD, List.getElem?_eq_getElem hql] at this
      rw [List.getElem?_eq_getElem hql]
      simpa using this
    show lookB (b.l.filter (fun p => !(p.1 == d))) (digB x wd) = some x
    rw [lookB_filter]
    have hne : digB x wd ≠ d := fun e => by
      have h2 := hk2.2
      rw [e, beq_self_eq_true] at h2
      have h3 : decide (i ≤ q) = true := by simpa using h2
      exact h.late q (of_decide_eq_true h3) hkq
    rw [if_neg hne]
    exact h.kept q x hx hkq
  · by_cases hql : q < K.length
    · rw [dropK_get hql] at hk
      have hk2 : (K.getD q false && (decide (i ≤ q) || !(digB (l.getD q []) wd == d))) = true := by simpa using hk
      rw [Bool.and_eq_true] at hk2
      refine h.late q hq ?_
      have := hk2.1
      rw [List.getD_eq_getElem?_getD, List.getElem?_eq_getElem hql] at this
      rw [List.getElem?_eq_getElem hql]
      simpa using this
    · rw [List.getElem?_eq_none (by rw [dropK_length]; omega)] at hk
      cases hk
end
end Go.Proofs.YtoogaapjdlhpbaaDoor
