/- Contracts: the kit's SameDescs and SameManifest. Written by tools/mkmd.py out of XMdSame.tpl. -/
import Derived.Test.YtljnpaikjljmbaaMdEq
namespace Go.Proofs.Ytljnpaikjljmbaa
open Go.RowKit

instance : DecidableEq DD := fun a b => decidable_of_iff (eqD a b = true) eqD_iff
theorem eqD_dec (a b : DD) : eqD a b = decide (a = b) := by
  rw [Bool.eq_iff_iff, eqD_iff]; simp
theorem does_load_run {P : Program} {o : Oper} {a : Act} {w : World} {T : Value → World → Prop} (t : TypeId) (x : Operand) (ho : o.op = .load t x) (ad : Addr) (v : Value) (hx : a.eval x = .pointer (some ad))
    (hr : (loadVar t ad).run P w = .ok v w) (h : T v w) : OpDoes P o a w T := fun K Q hK => by
  unfold Oper.wp execOp
  simp only [ho, hx, Instr.loadAt, Instr.sureAddr, Sem.run_bind, Sem.run_pure, Result.andThen_ok, hr]
  exact hK _ _ h
def sdVal (n : Nat) (c : Nat) (c2 : Nat) (k : Nat) (b1 : Nat) (o1 : Nat) (b2 : Nat) (o2 : Nat) (cz : Array Value) (cy : Array Value) (e : Bool) : Nat → Value → Value
  | 0, _ => .slice (some ⟨b1, o1, none⟩) n c
  | 1, _ => .int .i64 (k : Int)
  | 2, _ => .pointer (some ⟨b1, o1 + k * 35, none⟩)
  | 3, _ => .agg cz
  | 4, _ => .slice (some ⟨b2, o2, none⟩) n c2
  | 5, _ => .int .i64 (k : Int)
  | 6, _ => .pointer (some ⟨b2, o2 + k * 35, none⟩)
  | 7, _ => .agg cy
  | 8, _ => .bool e
  | 9, _ => .bool e
  | _, _ => undef
set_option maxRecDepth 20000 in
set_option maxHeartbeats 2000000 in
theorem sameDescs_calls (n c n2 c2 B B2 : Nat) (A A2 : Option Addr) (zs ys : List DD) (w : World) (ha : SDs w B A n zs) (hb : SDs w B2 A2 n2 ys) (hn : n ≤ 9223372036854775807) (hn2 : n2 ≤ 9223372036854775807) :
    Calls Try.prog 15 #[.slice A n c, .slice A2 n2 c2] w fun e w' => e = .returned (.bool (decide (zs = ys))) ∧ Below w.heap.size w w' := by
  have HA := hid ha; have HB := hid hb
  have HL1 := hid ha.1; have HL2 := hid hb.1
  clear ha hb
  by_cases hnn : n = n2
  · subst hnn
    go_enter Try.func15, Try.ntmps15
    go_wp2_with fail
    go_loopw [5, 6] (fun s i wr => ∃ (k : Nat) (b : Bool), k ≤ n ∧ i = .int .i64 (k : Int) ∧ s = .bool b ∧ (b = true → Hid (zs.take k = ys.take k)) ∧ (b = false → Hid (zs ≠ ys)) ∧ Hid (Below w.heap.size w wr)) (fun _ i _ => n - (intOf i).toNat)
    case atStart => exact ⟨0, true, Nat.zero_le _, rfl, rfl, fun _ => (rfl : zs.take 0 = ys.take 0), (fun h => by cases h), Below.refl _ _⟩
    case round =>
      obtain ⟨k, b, hk, rfl, rfl, hbt, hbf, HW⟩ := hrel
      cases b with
      | false =>
        have HNE := hbf rfl
        have HK := hid (show decide (zs = ys) = false from decide_eq_false HNE.out)
        clear hbt hbf HNE
        go_wp2_with fail
        go_ret
        exact ⟨by rw [HK.out]; rfl, HW.out⟩
      | true =>
        have HEQ := hbt rfl
        clear hbt hbf
        by_cases hlt : k < n
        · have hlt' : (k : Int) < (n : Int) := by omega
          obtain ⟨b1, o1, z, rfl, hb1, hz, -, z32, hc1⟩ := (HA.out.keep HW.out).at_ hlt
          obtain ⟨b2, o2, y, rfl, hb2, hy, -, y32, hc2⟩ := (HB.out.keep HW.out).at_ hlt
          have HZ := hid hz; have HY := hid hy
          have HR1 := hid (show (loadVar 25 ⟨b1, o1 + k * 35, none⟩).run Try.prog wr.drew = .ok (.agg (dcs z).toArray) wr.drew from run_load_desc z32 hc1)
          have HR2 := hid (show (loadVar 25 ⟨b2, o2 + k * 35, none⟩).run Try.prog wr.drew = .ok (.agg (dcs y).toArray) wr.drew from run_load_desc y32 hc2)
          have HE := hid (run_eq_desc z y z32 y32 wr.drew)
          have HED := hid (show eqD z y = true ↔ z = y from eqD_iff)
          generalize (dcs z).toArray = cz at HR1 HE
          generalize (dcs y).toArray = cy at HR2 HE
          generalize hee : eqD z y = e at HE HED
          clear hz hy hc1 hc2 hee
          have hs1 := HW.out.size
          go_wp2_with fail
          refine wp_region_invG 31 (.pointer none) (sdVal n c c2 k b1 o1 b2 o2 cz cy e) (fun _ _ W => W = wr.drew) (by kernel_rfl) (by kernel_rfl) (by exact Nat.le_refl 31) ?_ ?_ ?_
          · exact rfl
          · intro i o f gh a W hi hf hdep hsame hcl hval hS
            rcases i with _ | _ | _ | _ | _ | _ | _ | _ | _ | _ | i
            all_goals simp only [List.getElem?_cons_succ, List.getElem?_cons_zero, List.getElem?_nil, Option.some.injEq, reduceCtorEq] at hi
            all_goals subst hi
            · have E0 : a.tmps[0]? = some (.slice (some ⟨b1, o1, none⟩) n c) := (same_of hsame 0 (by rfl)).trans rfl
              refine g_plain rfl ?_
              exact does_value (w' := W) (v := .slice (some ⟨b1, o1, none⟩) n c) (by go_simp) ⟨(.pointer none), .inr rfl, hS⟩
            · have E6 : a.tmps[6]? = some (.int .i64 (k : Int)) := (same_of hsame 6 (by rfl)).trans rfl
              refine g_plain rfl ?_
              exact does_value (w' := W) (v := .int .i64 (k : Int)) (by go_simp) ⟨(.pointer none), .inr rfl, hS⟩
            · have E21 := hval 0 _ 21 rfl rfl (dep_of hdep 0 (by rfl))
              have E22 := hval 1 _ 22 rfl rfl (dep_of hdep 1 (by rfl))
              unfold sdVal at E21 E22
              refine g_plain rfl ?_
              exact does_value (w' := W) (v := .pointer (some ⟨b1, o1 + k * 35, none⟩)) (by go_simp) ⟨(.pointer none), .inr rfl, hS⟩
            · have E23 := hval 2 _ 23 rfl rfl (dep_of hdep 2 (by rfl))
              unfold sdVal at E23
              refine g_plain rfl ?_
              rw [hS]
              exact does_load_run 25 _ rfl ⟨b1, o1 + k * 35, none⟩ _ (by rw [eval_getD, E23]; rfl) HR1.out ⟨(.pointer none), .inr rfl, rfl⟩
            · have E1 : a.tmps[1]? = some (.slice (some ⟨b2, o2, none⟩) n c2) := (same_of hsame 1 (by rfl)).trans rfl
              refine g_plain rfl ?_
              exact does_value (w' := W) (v := .slice (some ⟨b2, o2, none⟩) n c2) (by go_simp) ⟨(.pointer none), .inr rfl, hS⟩
            · have E6 : a.tmps[6]? = some (.int .i64 (k : Int)) := (same_of hsame 6 (by rfl)).trans rfl
              refine g_plain rfl ?_
              exact does_value (w' := W) (v := .int .i64 (k : Int)) (by go_simp) ⟨(.pointer none), .inr rfl, hS⟩
            · have E25 := hval 4 _ 25 rfl rfl (dep_of hdep 4 (by rfl))
              have E26 := hval 5 _ 26 rfl rfl (dep_of hdep 5 (by rfl))
              unfold sdVal at E25 E26
              refine g_plain rfl ?_
              exact does_value (w' := W) (v := .pointer (some ⟨b2, o2 + k * 35, none⟩)) (by go_simp) ⟨(.pointer none), .inr rfl, hS⟩
            · have E27 := hval 6 _ 27 rfl rfl (dep_of hdep 6 (by rfl))
              unfold sdVal at E27
              refine g_plain rfl ?_
              rw [hS]
              exact does_load_run 25 _ rfl ⟨b2, o2 + k * 35, none⟩ _ (by rw [eval_getD, E27]; rfl) HR2.out ⟨(.pointer none), .inr rfl, rfl⟩
            · have E24 := hval 3 _ 24 rfl rfl (dep_of hdep 3 (by rfl))
              have E28 := hval 7 _ 28 rfl rfl (dep_of hdep 7 (by rfl))
              unfold sdVal at E24 E28
              refine g_plain rfl ?_
              rw [hS]
              exact does_value (w' := wr.drew) (v := .bool e) (run_eql_op (P := Try.prog) (w := wr.drew) 25 _ _ _ rfl cz cy (by rw [eval_getD, E24]; rfl) (by rw [eval_getD, E28]; rfl) (by kernel_rfl) HE.out) ⟨(.pointer none), .inr rfl, rfl⟩
            · have E29 := hval 8 _ 29 rfl rfl (dep_of hdep 8 (by rfl))
              unfold sdVal at E29
              refine g_plain rfl ?_
              exact does_value (w' := W) (v := .bool e) (by go_simp) ⟨(.pointer none), .inr rfl, hS⟩
          · intro gh W hS
            subst hS
            have HW2 := hid HW.out.drew
            simp only [putAll, sdVal, Nat.reduceAdd, Nat.zero_add, Act.put, List.setIfInBounds_toArray, List.set_cons_zero, List.set_cons_succ]
            go_wp2_with fail
            go_roundw
            case rel =>
              refine ⟨k + 1, e, by omega, by go_num, rfl, fun h => ?_, fun h => ?_, HW2⟩
              · have e2 : z = y := HED.out.1 h
                show zs.take (k + 1) = ys.take (k + 1)
                rw [List.take_add_one, List.take_add_one, HZ.out, HY.out, HEQ.out, e2]
              · show zs ≠ ys
                intro e2
                have h1 := HZ.out
                rw [e2, HY.out] at h1
                have : z = y := by injection h1 with h1; exact h1.symm
                rw [HED.out.2 this] at h
                cases h
            case measure => simp [intOf]; omega
        · obtain rfl : k = n := by omega
          have HK := hid (show decide (zs = ys) = true from by
            have h := HEQ.out
            rw [List.take_of_length_le (by rw [HL1.out]; exact Nat.le_refl _), List.take_of_length_le (by rw [HL2.out]; exact Nat.le_refl _)] at h
            simp [h])
          go_wp2_with fail
          go_ret
          exact ⟨by rw [HK.out]; rfl, HW.out⟩
  · have HK := hid (show decide (zs = ys) = false from decide_eq_false (fun e => hnn (by rw [← HL1.out, ← HL2.out, e])))
    have hne : ¬ (n : Int) = (n2 : Int) := by omega
    clear HA HB
    go_enter Try.func15, Try.ntmps15
    go_wp2_with fail
    go_loopw [5, 6] (fun s i wr => s = .bool false ∧ Hid (wr = w)) (fun _ _ _ => 0)
    case atStart => exact ⟨by simp; omega, hid rfl⟩
    case round =>
      obtain ⟨rfl, HW⟩ := hrel
      go_wp2_with fail
      go_ret
      exact ⟨by rw [HK.out]; rfl, by rw [HW.out]; exact Below.refl _ _⟩
end Go.Proofs.Ytljnpaikjljmbaa
