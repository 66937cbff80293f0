/- Contracts of the reference of clouds: first, same, has. Written by tools/mkcl.py. -/
import Derived.Test.YthjflgnoeenenaaClRfB
namespace Go.Proofs.Ythjflgnoeenenaa
open Go Go.RowKit Cl

/-- a cloud that came in -/
def cdv (A : Option Addr) (n c : Nat) (B : Option Addr) (m c2 : Nat) : Value := .agg #[.slice A n c, .slice B m c2]
set_option maxHeartbeats 1000000 in
theorem rFirst_calls (n c m c2 : Nat) (A B : Option Addr) (v : List Int) (r : Int) (w : World) (h : NI w A n v) (hn : n ≤ 1000000) :
    Calls Try.prog 45 #[cdv A n c B m c2, .int .i64 r] w fun e w' => e = .returned (.int .i64 (frs v r)) ∧ Below w.heap.size w w' := by
  have hb1 := below_new w (.cells #[.slice A n c, .slice B m c2] 25)
  have hk := Blk.new w 25 #[.slice A n c, .slice B m c2]
  have HB := hid hb1
  have HN := hid (h.keep hb1)
  have hl := h.1
  have HL := hid hl
  have d0 := hk.cell 0 rfl
  clear hb1 h hk hl
  obtain ⟨z, hz⟩ : ∃ z, frs v r = z := ⟨_, rfl⟩
  rw [hz]
  have HZ := hid hz
  clear hz
  show Calls Try.prog 45 #[.agg #[.slice A n c, .slice B m c2], .int .i64 r] w _
  by_cases h1 : r < 1
  · have HE := hid (show (0 : Int) = z from by rw [← HZ.out, frs_low h1])
    go_enter Try.func45, Try.ntmps45
    go_wp2_with fail
    go_ret
    exact ⟨ret_int HE.out, HB.out⟩
  · by_cases h2 : (n : Int) < r
    · have HE := hid (show (0 : Int) = z from by rw [← HZ.out, frs_far (by rw [HL.out]; exact h2)])
      go_enter Try.func45, Try.ntmps45
      go_wp2_with fail
      go_ret
      exact ⟨ret_int HE.out, HB.out⟩
    · obtain ⟨k, rfl⟩ : ∃ k : Nat, r = (k : Int) + 1 := ⟨(r - 1).toNat, by omega⟩
      have hk2 : k < n := by omega
      obtain ⟨b, off, y, rfl, hy, hc⟩ := HN.out.at_ hk2
      have hs : IntKind.i64.wrap ((k : Int) + 1 - 1) = (k : Int) := by rw [IntWalk.i64_in _ (by omega)]; omega
      have HE := hid (show y = z from by rw [← HZ.out, frs_nat, List.getD_eq_getElem?_getD, hy]; rfl)
      have hk' : (k : Int) < (n : Int) := by omega
      clear hy HN
      go_enter Try.func45, Try.ntmps45
      go_wp2_with fail
      go_ret
      exact ⟨ret_int HE.out, HB.out⟩
theorem below_drewN {B : Nat} {a w : World} (h : Below B a w) (n : Nat) : Below B a (w.drewN n) := ⟨h.os, h.tape, h.output, h.size, h.block⟩
theorem two_clouds (w : World) (cs ds : Array Value) : ∃ w2, w2 = (w.alloc (.cells cs 25)).alloc (.cells ds 25) ∧ Blk w2 w.heap.size 25 cs ∧ Blk w2 (w.heap.size + 1) 25 ds ∧ Below w.heap.size w w2 := by
  have s1 := size_new w (.cells cs 25)
  have b1 := below_new w (.cells cs 25)
  have b2 := below_new (w.alloc (.cells cs 25)) (.cells ds 25)
  have k1 := Blk.new w 25 cs
  have k2 := Blk.new (w.alloc (.cells cs 25)) 25 ds
  rw [s1] at k2
  exact ⟨_, rfl, k1.keep b2, k2, b1.trans (b2.mono b1.size)⟩
theorem take_ne {α : Type} {a b : List α} {k : Nat} {x y : α} (hx : a[k]? = some x) (hy : b[k]? = some y) (h : x ≠ y) : a ≠ b := fun e => by
  rw [e, hy] at hx
  exact h (Option.some.inj hx).symm
theorem take_more {α : Type} {a b : List α} {k : Nat} {x : α} (hx : a[k]? = some x) (hy : b[k]? = some x) (h : a.take k = b.take k) : a.take (k + 1) = b.take (k + 1) := by rw [List.take_add_one, List.take_add_one, hx, hy, h]
theorem take_end {α : Type} {a b : List α} {k : Nat} (hx : a.length = k) (hy : b.length = k) (h : a.take k = b.take k) : a = b := by
  rw [List.take_of_length_le (by omega), List.take_of_length_le (by omega)] at h
  exact h
set_option maxRecDepth 20000 in
set_option maxHeartbeats 2000000 in
theorem rSame_calls (n c m e n2 c2 m2 e2 : Nat) (A B A2 B2 : Option Addr) (v v2 : List Int) (ds ds2 : List Dt) (w : World) (h1 : NI w A n v) (h2 : ND w B m ds) (h3 : NI w A2 n2 v2) (h4 : ND w B2 m2 ds2) (hn : n ≤ 1000000) (hm : m ≤ 1000000) (hn2 : n2 ≤ 1000000) (hm2 : m2 ≤ 1000000) :
    Calls Try.prog 47 #[cdv A n c B m e, cdv A2 n2 c2 B2 m2 e2] w fun x w' => x = .returned (.bool (decide ((v, ds) = (v2, ds2)))) ∧ Below w.heap.size w w' := by
  obtain ⟨w1, hw1, k1, k2, hb⟩ := two_clouds w #[.slice A n c, .slice B m e] #[.slice A2 n2 c2, .slice B2 m2 e2]
  obtain ⟨p, hp⟩ : ∃ p, w.heap.size = p := ⟨_, rfl⟩
  obtain ⟨p2, hp2⟩ : ∃ p2, w.heap.size + 1 = p2 := ⟨_, rfl⟩
  rw [hp] at k1
  rw [hp2] at k2
  have HW1 := hid hw1; have HB := hid hb; have HPP := hid hp; have HPP2 := hid hp2
  have H1 := hid (h1.keep hb); have H2 := hid (h2.keep hb); have H3 := hid (h3.keep hb); have H4 := hid (h4.keep hb)
  have L1 := hid h1.1; have L2 := hid h2.1; have L3 := hid h3.1; have L4 := hid h4.1
  have K1 := hid k1; have K2 := hid k2
  obtain ⟨Z, hZ⟩ : ∃ Z, decide ((v, ds) = (v2, ds2)) = Z := ⟨_, rfl⟩
  rw [hZ]
  have HF := hid (show v ≠ v2 ∨ ds ≠ ds2 → false = Z from fun h => by
    rw [← hZ]; symm; rw [decide_eq_false_iff_not]
    intro q; injection q with q1 q2
    rcases h with h | h
    · exact h q1
    · exact h q2)
  have HT := hid (show v = v2 → ds = ds2 → true = Z from fun q1 q2 => by rw [← hZ, q1, q2]; simp)
  have c0 := k1.cell 0 rfl; have c1 := k1.cell 1 rfl; have c3 := k2.cell 0 rfl; have c4 := k2.cell 1 rfl
  clear h1 h2 h3 h4 hw1 hb hp hp2 k1 k2 hZ
  show Calls Try.prog 47 #[.agg #[.slice A n c, .slice B m e], .agg #[.slice A2 n2 c2, .slice B2 m2 e2]] w _
  by_cases hnn : n = n2
  · by_cases hmm : m = m2
    · subst hnn hmm
      go_enter Try.func47, Try.ntmps47
      go_wp2_with fail
      rw [← HW1.out, HPP2.out, HPP.out]
      go_wp2_with fail
      clear c0 c1 c3 c4
      go_loopw [5] (fun i wr => ∃ k : Nat, k ≤ n ∧ i = .int .i64 (k : Int) ∧ Hid (v.take k = v2.take k) ∧ Hid (Below w1.heap.size w1 wr)) (fun i _ => n - (intOf i).toNat)
      case atStart => exact ⟨0, Nat.zero_le _, rfl, hid rfl, hid (Below.refl _ _)⟩
      case round =>
        obtain ⟨k, hk, rfl, HQ, HW⟩ := hrel
        have c0 := (K1.out.keep HW.out).cell 0 rfl; have c1 := (K1.out.keep HW.out).cell 1 rfl; have c3 := (K2.out.keep HW.out).cell 0 rfl; have c4 := (K2.out.keep HW.out).cell 1 rfl
        by_cases hlt : k < n
        · have hlt' : (k : Int) < (n : Int) := by omega
          obtain ⟨b1, o1, x, rfl, hx, hc1⟩ := (H1.out.keep HW.out).at_ hlt
          obtain ⟨b2, o2, y, rfl, hy, hc2⟩ := (H3.out.keep HW.out).at_ hlt
          have HX := hid hx; have HY := hid hy
          clear hx hy
          by_cases hxy : x = y
          · subst hxy
            have HQ2 := hid (take_more HX.out HY.out HQ.out)
            go_wp2_with fail
            go_quiet (fail)
            have HW2 := hid (below_drewN HW.out nq)
            go_wp2_with fail
            go_roundw
            case rel => exact ⟨k + 1, hlt, by go_num, HQ2, HW2⟩
            case measure => simp [intOf]; omega
          · have HE := hid (HF.out (.inl (take_ne HX.out HY.out hxy)))
            go_wp2_with fail
            go_quiet (fail)
            have HW2 := hid (HB.out.trans ((below_drewN HW.out nq).mono HB.out.size))
            go_wp2_with fail
            go_ret
            exact ⟨ret_bool HE.out, HW2.out⟩
        · obtain rfl : k = n := by omega
          have HV := hid (take_end L1.out L3.out HQ.out)
          clear HQ
          go_wp2_with fail
          clear c0 c1 c3 c4
          go_loopw [6] (fun i wr => ∃ k : Nat, k ≤ m ∧ i = .int .i64 (k : Int) ∧ Hid (ds.take k = ds2.take k) ∧ Hid (Below w1.heap.size w1 wr)) (fun i _ => m - (intOf i).toNat)
          case atStart => exact ⟨0, Nat.zero_le _, rfl, hid rfl, HW⟩
          case round =>
            rename_i wr2 _
            clear HW
            obtain ⟨j, hj, rfl, HQ, HW⟩ := hrel
            have c0 := (K1.out.keep HW.out).cell 0 rfl; have c1 := (K1.out.keep HW.out).cell 1 rfl; have c3 := (K2.out.keep HW.out).cell 0 rfl; have c4 := (K2.out.keep HW.out).cell 1 rfl
            by_cases hlt : j < m
            · have hlt' : (j : Int) < (m : Int) := by omega
              obtain ⟨b1, o1, x, rfl, hx, hc1, hc2⟩ := (H2.out.keep HW.out).at_ hlt
              obtain ⟨b2, o2, y, rfl, hy, hc3, hc4⟩ := (H4.out.keep HW.out).at_ hlt
              have HX := hid hx; have HY := hid hy
              clear hx hy
              by_cases hxy : x = y
              · subst hxy
                have HQ2 := hid (take_more HX.out HY.out HQ.out)
                go_wp2_with fail
                go_quiet (fail)
                have HW2 := hid (below_drewN HW.out nq)
                go_wp2_with fail
                go_roundw
                case rel => exact ⟨j + 1, hlt, by go_num, HQ2, HW2⟩
                case measure => simp [intOf]; omega
              · have HE := hid (HF.out (.inr (take_ne HX.out HY.out hxy)))
                have hxy2 : ¬ x.1 = y.1 ∨ (x.1 = y.1 ∧ ¬ x.2 = y.2) := by
                  by_cases h : x.1 = y.1
                  · exact .inr ⟨h, fun h2 => hxy (Prod.ext h h2)⟩
                  · exact .inl h
                clear hxy
                rcases hxy2 with h | ⟨h, h2⟩
                all_goals
                  go_wp2_with fail
                  go_quiet (fail)
                  have HW2 := hid (HB.out.trans ((below_drewN HW.out nq).mono HB.out.size))
                  go_wp2_with fail
                  go_ret
                  exact ⟨ret_bool HE.out, HW2.out⟩
            · obtain rfl : j = m := by omega
              have HE := hid (HT.out HV.out (take_end L2.out L4.out HQ.out))
              have HW2 := hid (HB.out.trans (HW.out.mono HB.out.size))
              go_wp2_with fail
              go_ret
              exact ⟨ret_bool HE.out, HW2.out⟩
    · have HE := hid (HF.out (.inr fun h => hmm (by rw [← L2.out, ← L4.out, h])))
      have hq : ((m : Int) == (m2 : Int)) = false := by simp; omega
      have hq2 : ((m : Int) != (m2 : Int)) = true := by simp; omega
      subst hnn
      go_enter Try.func47, Try.ntmps47
      go_wp2_with fail
      rw [← HW1.out]
      go_wp2_with fail
      go_ret
      exact ⟨ret_bool HE.out, HB.out⟩
  · have HE := hid (HF.out (.inl fun h => hnn (by rw [← L1.out, ← L3.out, h])))
    have hq : ((n : Int) == (n2 : Int)) = false := by simp; omega
    have hq2 : ((n : Int) != (n2 : Int)) = true := by simp; omega
    go_enter Try.func47, Try.ntmps47
    go_wp2_with fail
    rw [← HW1.out]
    go_wp2_with fail
    go_ret
    exact ⟨ret_bool HE.out, HB.out⟩
theorem run_load_cloud {W : World} {g : Nat} {cs : Array Value} (hl : cs.size = 2) (h : Blk W g 25 cs) : (loadVar 25 ⟨g, 0, none⟩).run Try.prog W = .ok (.agg cs) W :=
  run_loadVar_row W g 25 25 _ (0, 0) _ h Try.underlying25 rfl (by rw [hl]; kernel_rfl)
theorem does_load_cloud {o : Oper} {a : Act} {w : World} {T : Value → World → Prop} (x : Operand) (ho : o.op = .load 25 x) (g : Nat) {cs : Array Value} (hl : cs.size = 2) (hx : a.eval x = .pointer (some ⟨g, 0, none⟩)) (hb : Blk w g 25 cs) (h : T (.agg cs) w) : OpDoes Try.prog o a w T := fun K Q hK => by
  unfold Oper.wp execOp
  simp only [ho, hx, Instr.loadAt, Instr.sureAddr, Sem.run_bind, Sem.run_pure, Result.andThen_ok, run_load_cloud hl hb]
  exact hK _ _ h
def hasR (c : Cd) (d : Dt) : Bool := decide ((1 ≤ d.2 ∧ d.2 ≤ frs c.1 d.1) ∨ d ∈ c.2)
theorem hasR_is {c : Cd} (h : OKC c) (d : Dt) : hasR c d = decide (isC c d) := by
  rw [Bool.eq_iff_iff, hasR, decide_eq_true_iff, decide_eq_true_iff]
  unfold isC isIn
  constructor
  · rintro (⟨h1, h2⟩ | h1)
    · exact ⟨h1, .inl h2⟩
    · exact ⟨(h.rg.2.2 d h1).2.2.1, .inr h1⟩
  · rintro ⟨h1, h2 | h2⟩
    · exact .inl ⟨h1, h2⟩
    · exact .inr h2
theorem not_in_take {ds : List Dt} {k : Nat} {x d : Dt} (hx : ds[k]? = some x) (h : d ∉ ds.take k) (hn : ¬ x = d) : d ∉ ds.take (k + 1) := by
  rw [List.take_add_one, hx]
  simp only [Option.toList_some, List.mem_append, List.mem_singleton, not_or]
  exact ⟨h, fun e => hn e.symm⟩
theorem two_mixed (w : World) (cs ds : Array Value) : ∃ w2, w2 = (w.alloc (.cells cs 25)).alloc (.cells ds 27) ∧ Blk w2 w.heap.size 25 cs ∧ Blk w2 (w.heap.size + 1) 27 ds ∧ Below w.heap.size w w2 := by
  have s1 := size_new w (.cells cs 25)
  have b1 := below_new w (.cells cs 25)
  have b2 := below_new (w.alloc (.cells cs 25)) (.cells ds 27)
  have k1 := Blk.new w 25 cs
  have k2 := Blk.new (w.alloc (.cells cs 25)) 27 ds
  rw [s1] at k2
  exact ⟨_, rfl, k1.keep b2, k2, b1.trans (b2.mono b1.size)⟩
def vHaA (A : Option Addr) (n : Nat) (c : Nat) (q : Bool) (B : Option Addr) (m : Nat) (e : Nat) (R : Int) (N : Int) (z : Int) (p2 : Nat) : Nat → Unit → Value
  | 0, _ => .pointer (some ⟨p2, 1, none⟩)
  | 1, _ => .int .i64 N
  | 2, _ => .bool true
  | 3, _ => .bool true
  | 4, _ => .pointer (some ⟨p2, 1, none⟩)
  | 5, _ => .int .i64 N
  | 6, _ => .agg #[.slice A n c, .slice B m e]
  | 7, _ => .pointer (some ⟨p2, 0, none⟩)
  | 8, _ => .int .i64 R
  | 9, _ => .int .i64 z
  | 10, _ => .bool q
  | 11, _ => .bool q
  | _, _ => undef
def vHaB (N : Int) (p2 : Nat) : Nat → Unit → Value
  | 0, _ => .pointer (some ⟨p2, 1, none⟩)
  | 1, _ => .int .i64 N
  | 2, _ => .bool false
  | 3, _ => .bool false
  | 4, _ => undef
  | 5, _ => undef
  | 6, _ => undef
  | 7, _ => undef
  | 8, _ => undef
  | 9, _ => undef
  | 10, _ => undef
  | 11, _ => .bool false
  | _, _ => undef
set_option maxRecDepth 20000 in
set_option maxHeartbeats 2000000 in
theorem rHas_calls (n c m e : Nat) (A B : Option Addr) (v : List Int) (ds : List Dt) (d : Dt) (w : World) (h1 : NI w A n v) (h2 : ND w B m ds) (hn : n ≤ 1000000) (hm : m ≤ 1000000) :
    Calls Try.prog 51 #[cdv A n c B m e, dvv d] w fun x w' => x = .returned (.bool (hasR (v, ds) d)) ∧ Below w.heap.size w w' := by
  obtain ⟨R, N⟩ := d
  obtain ⟨w1, hw1, k1, k2, hb⟩ := two_mixed w #[.slice A n c, .slice B m e] #[.int .i64 R, .int .i64 N]
  obtain ⟨p, hp⟩ : ∃ p, w.heap.size = p := ⟨_, rfl⟩
  obtain ⟨p2, hp2⟩ : ∃ p2, w.heap.size + 1 = p2 := ⟨_, rfl⟩
  rw [hp] at k1
  rw [hp2] at k2
  have HW1 := hid hw1; have HB := hid hb; have HPP := hid hp; have HPP2 := hid hp2
  have H1 := hid (h1.keep hb); have H2 := hid (h2.keep hb)
  have L2 := hid h2.1
  have K1 := hid k1; have K2 := hid k2
  obtain ⟨Z, hZ⟩ : ∃ Z, hasR (v, ds) (R, N) = Z := ⟨_, rfl⟩
  rw [hZ]
  have HT1 := hid (show 1 ≤ N → N ≤ frs v R → true = Z from fun a b => by rw [← hZ]; symm; exact decide_eq_true (.inl ⟨a, b⟩))
  have HT2 := hid (show (R, N) ∈ ds → true = Z from fun a => by rw [← hZ]; symm; exact decide_eq_true (.inr a))
  have HF := hid (show ¬ (1 ≤ N ∧ N ≤ frs v R) → (R, N) ∉ ds → false = Z from fun a b => by rw [← hZ]; symm; exact decide_eq_false (fun h => h.elim a b))
  have HC := hid (fun W (hb : Below w1.heap.size w1 W) => rFirst_calls n c m e A B v R W ((h1.keep (hid (‹Below w.heap.size w w1›)).out).keep hb) hn)
  obtain ⟨z, hz⟩ : ∃ z, frs v R = z := ⟨_, rfl⟩
  rw [hz] at HT1 HF HC
  have c0 := k1.cell 0 rfl; have c1 := k1.cell 1 rfl; have c3 := k2.cell 0 rfl; have c4 := k2.cell 1 rfl
  clear h1 h2 hw1 hb hp hp2 k1 k2 hZ hz
  show Calls Try.prog 51 #[.agg #[.slice A n c, .slice B m e], .agg #[.int .i64 R, .int .i64 N]] w _
  obtain ⟨q, hq⟩ : ∃ q, decide (N ≤ z) = q := ⟨_, rfl⟩
  have HQ := hid hq
  by_cases hN : 1 ≤ N
  · go_enter Try.func51, Try.ntmps51
    go_wp2_with fail
    rw [← HW1.out, HPP2.out, HPP.out]
    refine wp_region_invG 32 () (vHaA A n c q B m e R N z p2) (fun _ _ W => Below w1.heap.size w1 W) (by kernel_rfl) (by kernel_rfl) (by exact Nat.le_refl 32) ?_ ?_ ?_
    · exact (Below.refl _ _).drew
    · intro i o f gh a W hi hf hdep hsame hcl hval hS
      rcases i with _ | _ | _ | _ | _ | _ | _ | _ | _ | _ | _ | _ | i
      all_goals simp only [List.getElem?_cons_succ, List.getElem?_cons_zero, List.getElem?_nil, Option.some.injEq, reduceCtorEq] at hi
      all_goals subst hi
      · have E3 : a.tmps[3]? = some (.pointer (some ⟨p2, 0, none⟩)) := (same_of hsame 3 (by rfl)).trans rfl
        refine g_plain rfl ?_
        exact does_value (w' := W) (v := .pointer (some ⟨p2, 1, none⟩)) (by go_simp) ⟨(), .inr rfl, hS⟩
      · have E6 := hval 0 _ 6 rfl rfl (dep_of hdep 0 (by rfl))
        unfold vHaA at E6
        have kp := K2.out.keep hS
        have c0 := kp.cell 0 rfl
        have c1 := kp.cell 1 rfl
        refine g_plain rfl ?_
        exact does_value (w' := W) (v := .int .i64 N) (by go_simp) ⟨(), .inr rfl, hS⟩
      · have E7 := hval 1 _ 7 rfl rfl (dep_of hdep 1 (by rfl))
        unfold vHaA at E7
        refine g_plain rfl ?_
        exact does_value (w' := W) (v := .bool true) (by go_simp) ⟨(), .inr rfl, hS⟩
      · have E8 := hval 2 _ 8 rfl rfl (dep_of hdep 2 (by rfl))
        unfold vHaA at E8
        refine g_plain rfl ?_
        exact does_value (w' := W) (v := .bool true) (by go_simp) ⟨(), .inr rfl, hS⟩
      · have EG := hval 3 _ 9 rfl rfl (dep_of hdep 3 (by rfl))
        have E3 : a.tmps[3]? = some (.pointer (some ⟨p2, 0, none⟩)) := (same_of hsame 3 (by rfl)).trans rfl
        unfold vHaA at EG
        refine g_want rfl rfl rfl EG ?_
        exact does_value (w' := W) (v := .pointer (some ⟨p2, 1, none⟩)) (by go_simp) ⟨(), .inr rfl, hS⟩
      · have EG := hval 3 _ 9 rfl rfl (dep_of hdep 3 (by rfl))
        have E10 := hval 4 _ 10 rfl rfl (dep_of hdep 4 (by rfl))
        unfold vHaA at EG E10
        have kp := K2.out.keep hS
        have c0 := kp.cell 0 rfl
        have c1 := kp.cell 1 rfl
        refine g_want rfl rfl rfl EG ?_
        exact does_value (w' := W) (v := .int .i64 N) (by go_simp) ⟨(), .inr rfl, hS⟩
      · have EG := hval 3 _ 9 rfl rfl (dep_of hdep 3 (by rfl))
        have E2 : a.tmps[2]? = some (.pointer (some ⟨p, 0, none⟩)) := (same_of hsame 2 (by rfl)).trans rfl
        unfold vHaA at EG
        refine g_want rfl rfl rfl EG ?_
        exact does_load_cloud _ rfl p rfl (by rw [eval_getD, E2]; rfl) (K1.out.keep hS) ⟨(), .inr rfl, hS⟩
      · have EG := hval 3 _ 9 rfl rfl (dep_of hdep 3 (by rfl))
        have E3 : a.tmps[3]? = some (.pointer (some ⟨p2, 0, none⟩)) := (same_of hsame 3 (by rfl)).trans rfl
        unfold vHaA at EG
        refine g_want rfl rfl rfl EG ?_
        exact does_value (w' := W) (v := .pointer (some ⟨p2, 0, none⟩)) (by go_simp) ⟨(), .inr rfl, hS⟩
      · have EG := hval 3 _ 9 rfl rfl (dep_of hdep 3 (by rfl))
        have E13 := hval 7 _ 13 rfl rfl (dep_of hdep 7 (by rfl))
        unfold vHaA at EG E13
        have kp := K2.out.keep hS
        have c0 := kp.cell 0 rfl
        have c1 := kp.cell 1 rfl
        refine g_want rfl rfl rfl EG ?_
        exact does_value (w' := W) (v := .int .i64 R) (by go_simp) ⟨(), .inr rfl, hS⟩
      · have EG := hval 3 _ 9 rfl rfl (dep_of hdep 3 (by rfl))
        have E12 := hval 6 _ 12 rfl rfl (dep_of hdep 6 (by rfl))
        have E14 := hval 8 _ 14 rfl rfl (dep_of hdep 8 (by rfl))
        unfold vHaA at EG E12 E14
        refine g_want rfl rfl rfl EG ?_
        refine does_call 45 #[.agg #[.slice A n c, .slice B m e], .int .i64 R] (by go_simp) ((HC.out W hS).mono ?_)
        rintro e w' ⟨rfl, hb⟩
        exact ⟨.int .i64 z, rfl, (), .inr rfl, hS.trans (hb.mono hS.size)⟩
      · have EG := hval 3 _ 9 rfl rfl (dep_of hdep 3 (by rfl))
        have E11 := hval 5 _ 11 rfl rfl (dep_of hdep 5 (by rfl))
        have E15 := hval 9 _ 15 rfl rfl (dep_of hdep 9 (by rfl))
        unfold vHaA at EG E11 E15
        refine g_want rfl rfl rfl EG ?_
        exact does_value (w' := W) (v := .bool q) (by go_simp) ⟨(), .inr rfl, hS⟩
      · have E9 := hval 3 _ 9 rfl rfl (dep_of hdep 3 (by rfl))
        have E16 := hval 10 _ 16 rfl rfl (dep_of hdep 10 (by rfl))
        unfold vHaA at E9 E16
        refine g_plain rfl ?_
        exact does_value (w' := W) (v := .bool q) (by go_simp) ⟨(), .inr rfl, hS⟩
    · intro gh W hS
      have HS := hid hS
      clear hS
      simp only [putAll, vHaA, Nat.reduceAdd, Nat.zero_add, Act.put, List.setIfInBounds_toArray, List.set_cons_zero, List.set_cons_succ]
      clear c0 c1 c3 c4
      cases q with
      | true =>
        have HE := hid (HT1.out hN (of_decide_eq_true HQ.out))
        have HW2 := hid (HB.out.trans (HS.out.mono HB.out.size))
        go_wp2_with fail
        go_ret
        exact ⟨ret_bool HE.out, HW2.out⟩
      | false =>
        have HF2 := hid (HF.out (fun h => absurd h.2 (of_decide_eq_false HQ.out)))
        clear hN
        go_wp2_with fail
        go_loopw [5] (fun i wr => ∃ k : Nat, k ≤ m ∧ i = .int .i64 (k : Int) ∧ Hid ((R, N) ∉ ds.take k) ∧ Hid (Below w1.heap.size w1 wr)) (fun i _ => m - (intOf i).toNat)
        case atStart => exact ⟨0, Nat.zero_le _, rfl, hid (by simp), HS⟩
        case round =>
          clear HS
          obtain ⟨k, hk, rfl, HI, HW⟩ := hrel
          have c0 := (K1.out.keep HW.out).cell 0 rfl; have c1 := (K1.out.keep HW.out).cell 1 rfl; have c3 := (K2.out.keep HW.out).cell 0 rfl; have c4 := (K2.out.keep HW.out).cell 1 rfl
          by_cases hlt : k < m
          · have hlt' : (k : Int) < (m : Int) := by omega
            obtain ⟨b1, o1, x, rfl, hx, hc1, hc2⟩ := (H2.out.keep HW.out).at_ hlt
            have HX := hid hx
            clear hx
            by_cases hxy : x = (R, N)
            · have HE := hid (HT2.out (by rw [← hxy]; exact List.mem_of_getElem? HX.out))
              have e1 : x.1 = R := by rw [hxy]
              have e2 : x.2 = N := by rw [hxy]
              rw [e1] at hc1
              rw [e2] at hc2
              clear hxy e1 e2
              go_wp2_with fail
              go_quiet (fail)
              have HW2 := hid (HB.out.trans ((below_drewN HW.out nq).mono HB.out.size))
              go_wp2_with fail
              go_ret
              exact ⟨ret_bool HE.out, HW2.out⟩
            · have HI2 := hid (not_in_take HX.out HI.out hxy)
              have hxy2 : ¬ x.1 = R ∨ (x.1 = R ∧ ¬ x.2 = N) := by
                by_cases h : x.1 = R
                · exact .inr ⟨h, fun h2 => hxy (Prod.ext h h2)⟩
                · exact .inl h
              clear hxy
              rcases hxy2 with h | ⟨h, h2⟩
              all_goals
                go_wp2_with fail
                go_quiet (fail)
                have HW2 := hid (below_drewN HW.out nq)
                go_wp2_with fail
                go_roundw
                case rel => exact ⟨k + 1, hlt, by go_num, HI2, HW2⟩
                case measure => simp [intOf]; omega
          · obtain rfl : k = m := by omega
            have HE := hid (HF2.out (by have h := HI.out; rw [List.take_of_length_le (by rw [L2.out]; exact Nat.le_refl _)] at h; exact h))
            have HW2 := hid (HB.out.trans (HW.out.mono HB.out.size))
            go_wp2_with fail
            go_ret
            exact ⟨ret_bool HE.out, HW2.out⟩
  · have HF2 := hid (HF.out (fun h => absurd h.1 hN))
    go_enter Try.func51, Try.ntmps51
    go_wp2_with fail
    rw [← HW1.out, HPP2.out, HPP.out]
    refine wp_region_invG 32 () (vHaB N p2) (fun _ _ W => Below w1.heap.size w1 W) (by kernel_rfl) (by kernel_rfl) (by exact Nat.le_refl 32) ?_ ?_ ?_
    · exact (Below.refl _ _).drew
    · intro i o f gh a W hi hf hdep hsame hcl hval hS
      rcases i with _ | _ | _ | _ | _ | _ | _ | _ | _ | _ | _ | _ | i
      all_goals simp only [List.getElem?_cons_succ, List.getElem?_cons_zero, List.getElem?_nil, Option.some.injEq, reduceCtorEq] at hi
      all_goals subst hi
      · have E3 : a.tmps[3]? = some (.pointer (some ⟨p2, 0, none⟩)) := (same_of hsame 3 (by rfl)).trans rfl
        refine g_plain rfl ?_
        exact does_value (w' := W) (v := .pointer (some ⟨p2, 1, none⟩)) (by go_simp) ⟨(), .inr rfl, hS⟩
      · have E6 := hval 0 _ 6 rfl rfl (dep_of hdep 0 (by rfl))
        unfold vHaB at E6
        have kp := K2.out.keep hS
        have c0 := kp.cell 0 rfl
        have c1 := kp.cell 1 rfl
        refine g_plain rfl ?_
        exact does_value (w' := W) (v := .int .i64 N) (by go_simp) ⟨(), .inr rfl, hS⟩
      · have E7 := hval 1 _ 7 rfl rfl (dep_of hdep 1 (by rfl))
        unfold vHaB at E7
        refine g_plain rfl ?_
        exact does_value (w' := W) (v := .bool false) (by go_simp) ⟨(), .inr rfl, hS⟩
      · have E8 := hval 2 _ 8 rfl rfl (dep_of hdep 2 (by rfl))
        unfold vHaB at E8
        refine g_plain rfl ?_
        exact does_value (w' := W) (v := .bool false) (by go_simp) ⟨(), .inr rfl, hS⟩
      · have EG := hval 3 _ 9 rfl rfl (dep_of hdep 3 (by rfl))
        unfold vHaB at EG
        exact g_skip rfl rfl rfl EG rfl ⟨(), .inr rfl, hS⟩
      · have EG := hval 3 _ 9 rfl rfl (dep_of hdep 3 (by rfl))
        unfold vHaB at EG
        exact g_skip rfl rfl rfl EG rfl ⟨(), .inr rfl, hS⟩
      · have EG := hval 3 _ 9 rfl rfl (dep_of hdep 3 (by rfl))
        unfold vHaB at EG
        exact g_skip rfl rfl rfl EG rfl ⟨(), .inr rfl, hS⟩
      · have EG := hval 3 _ 9 rfl rfl (dep_of hdep 3 (by rfl))
        unfold vHaB at EG
        exact g_skip rfl rfl rfl EG rfl ⟨(), .inr rfl, hS⟩
      · have EG := hval 3 _ 9 rfl rfl (dep_of hdep 3 (by rfl))
        unfold vHaB at EG
        exact g_skip rfl rfl rfl EG rfl ⟨(), .inr rfl, hS⟩
      · have EG := hval 3 _ 9 rfl rfl (dep_of hdep 3 (by rfl))
        unfold vHaB at EG
        exact g_skip rfl rfl rfl EG rfl ⟨(), .inr rfl, hS⟩
      · have EG := hval 3 _ 9 rfl rfl (dep_of hdep 3 (by rfl))
        unfold vHaB at EG
        exact g_skip rfl rfl rfl EG rfl ⟨(), .inr rfl, hS⟩
      · have E9 := hval 3 _ 9 rfl rfl (dep_of hdep 3 (by rfl))
        have E16 := hval 10 _ 16 rfl rfl (dep_of hdep 10 (by rfl))
        unfold vHaB at E9 E16
        refine g_plain rfl ?_
        exact does_value (w' := W) (v := .bool false) (by go_simp) ⟨(), .inr rfl, hS⟩
    · intro gh W hS
      have HS := hid hS
      clear hS
      simp only [putAll, vHaB, Nat.reduceAdd, Nat.zero_add, Act.put, List.setIfInBounds_toArray, List.set_cons_zero, List.set_cons_succ]
      clear c0 c1 c3 c4 hN
      go_wp2_with fail
      go_loopw [5] (fun i wr => ∃ k : Nat, k ≤ m ∧ i = .int .i64 (k : Int) ∧ Hid ((R, N) ∉ ds.take k) ∧ Hid (Below w1.heap.size w1 wr)) (fun i _ => m - (intOf i).toNat)
      case atStart => exact ⟨0, Nat.zero_le _, rfl, hid (by simp), HS⟩
      case round =>
        clear HS
        obtain ⟨k, hk, rfl, HI, HW⟩ := hrel
        have c0 := (K1.out.keep HW.out).cell 0 rfl; have c1 := (K1.out.keep HW.out).cell 1 rfl; have c3 := (K2.out.keep HW.out).cell 0 rfl; have c4 := (K2.out.keep HW.out).cell 1 rfl
        by_cases hlt : k < m
        · have hlt' : (k : Int) < (m : Int) := by omega
          obtain ⟨b1, o1, x, rfl, hx, hc1, hc2⟩ := (H2.out.keep HW.out).at_ hlt
          have HX := hid hx
          clear hx
          by_cases hxy : x = (R, N)
          · have HE := hid (HT2.out (by rw [← hxy]; exact List.mem_of_getElem? HX.out))
            have e1 : x.1 = R := by rw [hxy]
            have e2 : x.2 = N := by rw [hxy]
            rw [e1] at hc1
            rw [e2] at hc2
            clear hxy e1 e2
            go_wp2_with fail
            go_quiet (fail)
            have HW2 := hid (HB.out.trans ((below_drewN HW.out nq).mono HB.out.size))
            go_wp2_with fail
            go_ret
            exact ⟨ret_bool HE.out, HW2.out⟩
          · have HI2 := hid (not_in_take HX.out HI.out hxy)
            have hxy2 : ¬ x.1 = R ∨ (x.1 = R ∧ ¬ x.2 = N) := by
              by_cases h : x.1 = R
              · exact .inr ⟨h, fun h2 => hxy (Prod.ext h h2)⟩
              · exact .inl h
            clear hxy
            rcases hxy2 with h | ⟨h, h2⟩
            all_goals
              go_wp2_with fail
              go_quiet (fail)
              have HW2 := hid (below_drewN HW.out nq)
              go_wp2_with fail
              go_roundw
              case rel => exact ⟨k + 1, hlt, by go_num, HI2, HW2⟩
              case measure => simp [intOf]; omega
        · obtain rfl : k = m := by omega
          have HE := hid (HF2.out (by have h := HI.out; rw [List.take_of_length_le (by rw [L2.out]; exact Nat.le_refl _)] at h; exact h))
          have HW2 := hid (HB.out.trans (HW.out.mono HB.out.size))
          go_wp2_with fail
          go_ret
          exact ⟨ret_bool HE.out, HW2.out⟩
end Go.Proofs.Ythjflgnoeenenaa
