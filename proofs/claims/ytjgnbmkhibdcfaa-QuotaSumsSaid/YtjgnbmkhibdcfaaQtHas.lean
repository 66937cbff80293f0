/- Contracts of package quota: Has, Mount's look, add. Written by tools/mkqt.py out of XQtHas.tpl. -/
import Derived.Test.YtjgnbmkhibdcfaaQtReg
namespace Go.Proofs.Ytjgnbmkhibdcfaa
open Go.RowKit

section
variable {w w' : World} {F : List Nat} {s m u n : Nat} {q : QS} {g : List UInt8 → Option Nat}
theorem look_link {f : LKey → Option Int} (h : MapG lkK szK w m n f) {k : LKey} (hk : kok k) : (Instr.lookup 49 (.map (some m)) (kval k) true).run Try.prog w = .ok (.tuple #[.agg #[.int .i64 ((f k).getD 0)], .bool (f k).isSome]) w := by
  refine (h.look Try.underlying49 (k := k) hk true).trans ?_
  cases f k <;> rfl
theorem look_link1 {f : LKey → Option Int} (h : MapG lkK szK w m n f) {k : LKey} (hk : kok k) : (Instr.lookup 49 (.map (some m)) (kval k) false).run Try.prog w = .ok (.agg #[.int .i64 ((f k).getD 0)]) w := by
  refine (h.look Try.underlying49 (k := k) hk false).trans ?_
  cases f k <;> rfl
theorem look_use {f : List UInt8 → Option Nat} (h : MapG stK ptK w u n f) {r : List UInt8} (hr : r.length ≤ maxLen) : (Instr.lookup 50 (.map (some u)) (.string (strB r)) false).run Try.prog w = .ok (.pointer ((f r).map fun b => ⟨b, 0, none⟩)) w := by
  refine (h.look Try.underlying50 (k := r) hr false).trans ?_
  cases f r <;> rfl
theorem size32 {l : List UInt8} (h : l.length = 32) : (Try.prog.info? 32).map (·.size) = some (bcells l).size := by
  rw [bcells_size, h]; kernel_rfl
theorem size33 {k : LKey} (h : k.2.length = 32) : (Try.prog.info? 71).map (·.size) = some (kcells k).size := by
  rw [kcells_size h]; kernel_rfl
theorem qhas_none (h : Value) (r : Value) (id : List UInt8) (hn : NoObj w h) : Calls Try.prog 21 #[h, r, .agg (bcells id)] w fun e w' => e = .returned (.bool false) ∧ Below w.heap.size w w' := by
  have HB := hid (below_new w (.cells (bcells id) 32))
  have HV := hid (qvalid_none h _ (hn.keep HB.out))
  clear hn
  go_enter Try.func21, Try.ntmps21
  go_wp2_with (first | (refine HV.out.mono ?_; rintro _ _ ⟨rfl, rfl⟩))
  go_ret
  exact ⟨rfl, HB.out⟩
def hasVal (s : Nat) (m : Nat) (q0 : Nat) (r : List UInt8) (id : List UInt8) (y : Int) (b : Bool) : Nat → Unit → Value
  | 0, _ => .pointer (some ⟨s, 0, none⟩)
  | 1, _ => .pointer (some ⟨s, 0, none⟩)
  | 2, _ => .pointer (some ⟨s, 2, none⟩)
  | 3, _ => .map (some m)
  | 4, _ => .string (strB r)
  | 5, _ => .agg (bcells id)
  | 6, _ => kval (r, id)
  | 7, _ => .tuple #[.agg #[.int .i64 y], .bool b]
  | 8, _ => .tuple #[.agg #[.int .i64 y], .bool b]
  | 9, _ => .agg #[.int .i64 y]
  | 10, _ => .bool b
  | 11, _ => .pointer (some ⟨q0, 0, none⟩)
  | 13, _ => .bool b
  | _, _ => undef
set_option maxRecDepth 20000 in
set_option maxHeartbeats 1000000 in
theorem qhas_calls (h : QtB w F s m u n q g) (k : LKey) (hk : kok k) :
    Calls Try.prog 21 #[.pointer (some ⟨s, 0, none⟩), .string (strB k.1), .agg (bcells k.2)] w fun e w' => e = .returned (.bool (szQ q.l k).isSome) ∧ Below w.heap.size w w' := by
  have bb := below_new w (.cells (bcells k.2) 32)
  have HK := hid (Blk.new w 32 (bcells k.2))
  have HSZ := hid (size32 hk.2)
  have HBL := hid (fun W => run_build_link k hk.2 W)
  have HC := hid (fun W (hb : Below w.heap.size w W) => (⟨(h.keep hb).cells.1, (h.keep hb).cells.2.2.1, look_link (h.keep hb).mp hk⟩ : W.cell? ⟨s, 0, none⟩ = some (.pointer (some ⟨s, 0, none⟩)) ∧ W.cell? ⟨s, 2, none⟩ = some (.map (some m)) ∧ (Instr.lookup 49 (.map (some m)) (kval k) true).run Try.prog W = .ok (.tuple #[.agg #[.int .i64 ((szQ q.l k).getD 0)], .bool (szQ q.l k).isSome]) W))
  generalize (szQ q.l k).getD 0 = y at HC
  generalize (szQ q.l k).isSome = b at HC ⊢
  have HB := hid bb
  clear h hk bb
  obtain ⟨r, id⟩ := k
  dsimp only at HK HB HSZ HBL HC ⊢
  go_enter Try.func21, Try.ntmps21
  go_wp2_with fail
  generalize w.alloc (.cells (bcells id) 32) = w1 at HK HB ⊢
  have HC1 := hid (fun W (hb : Below w1.heap.size w1 W) => HC.out W (HB.out.trans (hb.mono HB.out.size)))
  have HV := hid (qvalid_calls s w1 (HC.out w1 HB.out).1)
  generalize hp : w.heap.size = p at HK ⊢
  generalize hq : w1.heap.size = q0
  have HQ := hid hq
  clear HC hq
  refine HV.out.mono ?_
  rintro _ _ ⟨rfl, rfl⟩
  go_wp2_with fail
  refine wp_region_invG 24 () (hasVal s m q0 r id y b) (fun f _ W => AlS w1 81 #[.int .i64 0] #[.int .i64 y] q0 11 12 f W) (by kernel_rfl) (by kernel_rfl) (by exact Nat.le_refl 24) ?_ ?_ ?_
  · exact AlS.start 14 (by decide) (by decide) HQ.out
  · intro i o f gh a W hi hf hdep hsame hcl hval hS
    rcases i with _ | _ | _ | _ | _ | _ | _ | _ | _ | _ | _ | _ | _ | _ | i
    all_goals simp only [List.getElem?_cons_succ, List.getElem?_cons_zero, List.getElem?_nil, Option.some.injEq, reduceCtorEq] at hi
    all_goals subst hi
    · have E0 : a.tmps[0]? = some (.pointer (some ⟨s, 0, none⟩)) := (same_of hsame 0 (by rfl)).trans rfl
      refine g_plain rfl ?_
      exact does_value (w' := W) (v := .pointer (some ⟨s, 0, none⟩)) (by go_simp) ⟨(), .inr rfl, (hS.same 0 (by decide) (by decide))⟩
    · have E13 := hval 0 _ 13 rfl rfl (dep_of hdep 0 (by rfl))
      unfold hasVal at E13
      refine g_plain rfl ?_
      exact does_value (w' := W) (v := .pointer (some ⟨s, 0, none⟩)) (by go_simp) ⟨(), .inr rfl, (hS.same 1 (by decide) (by decide))⟩
    · have E14 := hval 1 _ 14 rfl rfl (dep_of hdep 1 (by rfl))
      unfold hasVal at E14
      refine g_plain rfl ?_
      exact does_value (w' := W) (v := .pointer (some ⟨s, 2, none⟩)) (by go_simp) ⟨(), .inr rfl, (hS.same 2 (by decide) (by decide))⟩
    · have E15 := hval 2 _ 15 rfl rfl (dep_of hdep 2 (by rfl))
      unfold hasVal at E15
      obtain ⟨c0, c2, hlk⟩ := HC1.out W hS.bel
      refine g_plain rfl ?_
      exact does_value (w' := W) (v := .map (some m)) (by go_simp) ⟨(), .inr rfl, (hS.same 3 (by decide) (by decide))⟩
    · have E1 : a.tmps[1]? = some (.string (strB r)) := (same_of hsame 1 (by rfl)).trans rfl
      refine g_plain rfl ?_
      exact does_value (w' := W) (v := .string (strB r)) (by go_simp) ⟨(), .inr rfl, (hS.same 4 (by decide) (by decide))⟩
    · have E5 : a.tmps[5]? = some (.pointer (some ⟨p, 0, none⟩)) := (same_of hsame 5 (by rfl)).trans rfl
      refine g_plain rfl ?_
      exact does_load _ _ rfl p (by rw [eval_getD, E5]; rfl) _ (HK.out.keep hS.bel) _ Try.underlying32 rfl HSZ.out ⟨(), .inr rfl, (hS.same 5 (by decide) (by decide))⟩
    · have E17 := hval 4 _ 17 rfl rfl (dep_of hdep 4 (by rfl))
      have E18 := hval 5 _ 18 rfl rfl (dep_of hdep 5 (by rfl))
      unfold hasVal at E17 E18
      refine g_plain rfl ?_
      refine does_build 71 _ rfl (ps := #[(0, .string (strB r)), (1, .agg (bcells id))]) ?_ (HBL.out W) ⟨(), .inr rfl, (hS.same 6 (by decide) (by decide))⟩
      simp only [List.map_toArray, List.map_cons, List.map_nil, eval_getD, E17, E18, Option.getD_some]
    · have E16 := hval 3 _ 16 rfl rfl (dep_of hdep 3 (by rfl))
      have E19 := hval 6 _ 19 rfl rfl (dep_of hdep 6 (by rfl))
      unfold hasVal at E16 E19
      obtain ⟨c0, c2, hlk⟩ := HC1.out W hS.bel
      refine g_plain rfl ?_
      exact does_value (w' := W) (v := .tuple #[.agg #[.int .i64 y], .bool b]) (by go_simp) ⟨(), .inr rfl, (hS.same 7 (by decide) (by decide))⟩
    · have E20 := hval 7 _ 20 rfl rfl (dep_of hdep 7 (by rfl))
      unfold hasVal at E20
      refine g_plain rfl ?_
      exact does_value (w' := W) (v := .tuple #[.agg #[.int .i64 y], .bool b]) (by go_simp) ⟨(), .inr rfl, (hS.same 8 (by decide) (by decide))⟩
    · have E12 := hval 8 _ 12 rfl rfl (dep_of hdep 8 (by rfl))
      unfold hasVal at E12
      refine g_plain rfl ?_
      exact does_value (w' := W) (v := .agg #[.int .i64 y]) (by go_simp) ⟨(), .inr rfl, (hS.same 9 (by decide) (by decide))⟩
    · have E12 := hval 8 _ 12 rfl rfl (dep_of hdep 8 (by rfl))
      unfold hasVal at E12
      refine g_plain rfl ?_
      exact does_value (w' := W) (v := .bool b) (by go_simp) ⟨(), .inr rfl, (hS.same 10 (by decide) (by decide))⟩
    · have hnq := hS.no hf
      refine g_plain rfl ?_
      exact does_value (w' := W.alloc (.cells #[.int .i64 0] 81)) (v := .pointer (some ⟨q0, 0, none⟩)) (by rw [← hnq]; go_simp) ⟨(), .inr rfl, (hS.lay hf (by decide))⟩
    · have E7 := hval 11 _ 7 rfl rfl (dep_of hdep 11 (by rfl))
      have E21 := hval 9 _ 21 rfl rfl (dep_of hdep 9 (by rfl))
      unfold hasVal at E7 E21
      refine g_plain rfl ?_
      exact does_store 81 _ _ rfl q0 #[.int .i64 y] (by rw [eval_getD, E7]; rfl) (by rw [eval_getD, E21]; rfl) 81 _ (hS.mid (dep_of hdep 11 (by rfl)) hf) (by kernel_rfl) rfl (by rfl) ⟨(), .inl rfl, (hS.fill (dep_of hdep 11 (by rfl)) hf (by decide))⟩
    · have E22 := hval 10 _ 22 rfl rfl (dep_of hdep 10 (by rfl))
      unfold hasVal at E22
      refine g_plain rfl ?_
      exact does_value (w' := W) (v := .bool b) (by go_simp) ⟨(), .inr rfl, (hS.same 13 (by decide) (by decide))⟩
  · intro gh W hS
    have HB2 := hid (HB.out.trans (hS.bel.mono HB.out.size))
    simp only [putAll, hasVal, Nat.reduceAdd, Nat.zero_add, Act.put, List.setIfInBounds_toArray, List.set_cons_zero, List.set_cons_succ]
    clear hS HV HC1 HK HB HBL
    go_wp2_with fail
    go_ret
    exact ⟨rfl, hp ▸ HB2.out⟩
end
end Go.Proofs.Ytjgnbmkhibdcfaa
