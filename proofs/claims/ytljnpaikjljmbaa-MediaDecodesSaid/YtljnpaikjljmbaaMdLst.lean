/- Contract: descriptions that are read behind their number. Written by tools/mkmd.py out of XMdLst.tpl. -/
import Derived.Test.YtljnpaikjljmbaaMdRdD
import Derived.Test.YtljnpaikjljmbaaRegInvG
namespace Go.Proofs.Ytljnpaikjljmbaa
open Go.RowKit

def lstR (bs : List UInt8) (s : RS) (rf : Nat × Nat) (most : Nat) : List DD × RS × (Nat × Nat) :=
  if most < (numS bs maxI 0 s).1 then ([], (numS bs maxI 0 s).2, refuseF (numS bs maxI 0 s).2 rf 4 (bs.length - restS bs s)) else ((dscN bs (numS bs maxI 0 s).1 (numS bs maxI 0 s).2).1, (dscN bs (numS bs maxI 0 s).1 (numS bs maxI 0 s).2).2, rf)
theorem restS_le (bs : List UInt8) (s : RS) : restS bs s ≤ bs.length := by
  cases s with
  | ok a => show bs.length - a ≤ _; omega
  | bad e p => exact Nat.zero_le _
def lstVal (g : Nat) (q : Nat) (L : Nat) (R : Nat) (at_ : Nat) : Nat → Value → Value
  | 0, _ => .pointer (some ⟨q, 0, none⟩)
  | 1, _ => .pointer (some ⟨q, 0, none⟩)
  | 2, _ => .pointer (some ⟨q, 1, none⟩)
  | 3, _ => .int .i64 (L : Int)
  | 4, _ => .pointer (some ⟨q, 0, none⟩)
  | 5, _ => .pointer (some ⟨q, 0, none⟩)
  | 6, _ => .pointer (some ⟨q, 0, none⟩)
  | 7, _ => .pointer (some ⟨g, 0, none⟩)
  | 8, _ => .int .i64 (R : Int)
  | 9, _ => .int .i64 (at_ : Int)
  | 10, _ => .int .i64 (at_ : Int)
  | _, _ => undef
set_option maxRecDepth 20000 in
set_option maxHeartbeats 1000000 in
theorem src_descs (base q g ff : Nat) (r : Option Nat) (bs : List UInt8) (s : RS) (rf : Nat × Nat) (most : Nat) (hmost : most ≤ 1000) (w : World) (h : SrcB w base q g ff r bs s rf) :
    Calls Try.prog 70 #[.pointer (some ⟨q, 0, none⟩), .int .i64 (most : Int)] w fun e w' => ∃ v, e = .returned v ∧ OwnD w' w.heap.size v (lstR bs s rf most).1 ∧ SrcP w base q g ff r bs (lstR bs s rf most).2.1 (lstR bs s rf most).2.2 w' := by
  have hlen : bs.length ≤ 549755813888 := by obtain ⟨_, _, _, _, _, _, _, _, _, _, _, _, hl, _⟩ := h.rd; exact hl
  have HRS := hid (fun W (hW : Below w.heap.size w W) => rest_calls base g ff r bs s W (h.keep hW).rd)
  have HN1 := hid (fun W (h : SrcB W base q g ff r bs s rf) => rNum_calls base g ff r bs s W h.rd)
  have HC := hid (fun W (hW : Below w.heap.size w W) => (⟨(h.keep hW).blk.cell 0 rfl, (h.keep hW).blk.cell 1 rfl⟩ : W.cell? ⟨q, 0, none⟩ = some (.pointer (some ⟨g, 0, none⟩)) ∧ W.cell? ⟨q, 1, none⟩ = some (.int .i64 (bs.length : Int))))
  have HH := hid h
  have hrl := restS_le bs s
  have hL : lstR bs s rf most = if most < (numS bs maxI 0 s).1 then ([], (numS bs maxI 0 s).2, refuseF (numS bs maxI 0 s).2 rf 4 (bs.length - restS bs s)) else ((dscN bs (numS bs maxI 0 s).1 (numS bs maxI 0 s).2).1, (dscN bs (numS bs maxI 0 s).1 (numS bs maxI 0 s).2).2, rf) := rfl
  generalize lstR bs s rf most = LR at hL ⊢
  generalize numS bs maxI 0 s = q1 at HN1 hL
  generalize restS bs s = R at HRS hL hrl
  have HL := hid hL
  have hwr : IntKind.i64.wrap ((bs.length : Int) - (R : Int)) = ((bs.length - R : Nat) : Int) := by
    rw [IntWalk.i64_in _ (by omega)]; omega
  have HWR := hid hwr
  generalize hL0 : bs.length = L at HC HWR HL hlen
  generalize hat : L - R = at_ at HWR HL
  have HL0 := hid hL0
  clear h hL hrl hat hwr hlen hL0
  go_enter Try.func70, Try.ntmps70
  go_wp2_with fail
  refine wp_region_invG 32 (.pointer none) (lstVal g q L R at_) (fun _ _ W => Below w.heap.size w W) (by kernel_rfl) (by kernel_rfl) (by exact Nat.le_refl 32) ?_ ?_ ?_
  · exact (Below.refl _ _).drew
  · intro i o f gh a W hi hf hdep hsame hcl hval hS
    rcases i with _ | _ | _ | _ | _ | _ | _ | _ | _ | _ | _ | i
    all_goals simp only [List.getElem?_cons_succ, List.getElem?_cons_zero, List.getElem?_nil, Option.some.injEq, reduceCtorEq] at hi
    all_goals subst hi
    · have E0 : a.tmps[0]? = some (.pointer (some ⟨q, 0, none⟩)) := (same_of hsame 0 (by rfl)).trans rfl
      refine g_plain rfl ?_
      exact does_value (w' := W) (v := .pointer (some ⟨q, 0, none⟩)) (by go_simp) ⟨(.pointer none), .inr rfl, hS⟩
    · have E7 := hval 0 _ 7 rfl rfl (dep_of hdep 0 (by rfl))
      unfold lstVal at E7
      refine g_plain rfl ?_
      exact does_value (w' := W) (v := .pointer (some ⟨q, 0, none⟩)) (by go_simp) ⟨(.pointer none), .inr rfl, hS⟩
    · have E8 := hval 1 _ 8 rfl rfl (dep_of hdep 1 (by rfl))
      unfold lstVal at E8
      refine g_plain rfl ?_
      exact does_value (w' := W) (v := .pointer (some ⟨q, 1, none⟩)) (by go_simp) ⟨(.pointer none), .inr rfl, hS⟩
    · have E9 := hval 2 _ 9 rfl rfl (dep_of hdep 2 (by rfl))
      unfold lstVal at E9
      obtain ⟨c0, c1⟩ := HC.out W hS
      refine g_plain rfl ?_
      exact does_value (w' := W) (v := .int .i64 (L : Int)) (by go_simp) ⟨(.pointer none), .inr rfl, hS⟩
    · have E0 : a.tmps[0]? = some (.pointer (some ⟨q, 0, none⟩)) := (same_of hsame 0 (by rfl)).trans rfl
      refine g_plain rfl ?_
      exact does_value (w' := W) (v := .pointer (some ⟨q, 0, none⟩)) (by go_simp) ⟨(.pointer none), .inr rfl, hS⟩
    · have E11 := hval 4 _ 11 rfl rfl (dep_of hdep 4 (by rfl))
      unfold lstVal at E11
      refine g_plain rfl ?_
      exact does_value (w' := W) (v := .pointer (some ⟨q, 0, none⟩)) (by go_simp) ⟨(.pointer none), .inr rfl, hS⟩
    · have E12 := hval 5 _ 12 rfl rfl (dep_of hdep 5 (by rfl))
      unfold lstVal at E12
      refine g_plain rfl ?_
      exact does_value (w' := W) (v := .pointer (some ⟨q, 0, none⟩)) (by go_simp) ⟨(.pointer none), .inr rfl, hS⟩
    · have E13 := hval 6 _ 13 rfl rfl (dep_of hdep 6 (by rfl))
      unfold lstVal at E13
      obtain ⟨c0, c1⟩ := HC.out W hS
      refine g_plain rfl ?_
      exact does_value (w' := W) (v := .pointer (some ⟨g, 0, none⟩)) (by go_simp) ⟨(.pointer none), .inr rfl, hS⟩
    · have E14 := hval 7 _ 14 rfl rfl (dep_of hdep 7 (by rfl))
      unfold lstVal at E14
      refine g_plain rfl ?_
      refine does_call 87 #[.pointer (some ⟨g, 0, none⟩)] (by go_simp) ((HRS.out W hS).mono ?_)
      rintro _ W' ⟨rfl, hb, -⟩
      exact ⟨_, rfl, (.pointer none), .inr rfl, hS.trans (hb.mono hS.size)⟩
    · have E10 := hval 3 _ 10 rfl rfl (dep_of hdep 3 (by rfl))
      have E15 := hval 8 _ 15 rfl rfl (dep_of hdep 8 (by rfl))
      unfold lstVal at E10 E15
      have hwr := HWR.out
      refine g_plain rfl ?_
      exact does_value (w' := W) (v := .int .i64 (at_ : Int)) (by go_simp) ⟨(.pointer none), .inr rfl, hS⟩
    · have E16 := hval 9 _ 16 rfl rfl (dep_of hdep 9 (by rfl))
      unfold lstVal at E16
      refine g_plain rfl ?_
      exact does_value (w' := W) (v := .int .i64 (at_ : Int)) (by go_simp) ⟨(.pointer none), .inr rfl, hS⟩
  · intro gh W hS
    have HS := hid hS
    have H1 := hid (HH.out.keep hS)
    clear hS HRS
    simp only [putAll, lstVal, Nat.reduceAdd, Nat.zero_add, Act.put, List.setIfInBounds_toArray, List.set_cons_zero, List.set_cons_succ]
    have c0 := H1.out.blk.cell 0 rfl
    go_wp2_with fail
    refine (HN1.out W H1.out).mono ?_
    rintro _ w1 ⟨rfl, hp⟩
    have HP := hid (SrcP.fresh HS.out (H1.out.read hp))
    clear hp HN1 c0
    by_cases hlt : most < q1.1
    · have hlt' : (most : Int) < (q1.1 : Int) := by omega
      have HE := hid (show LR = ([], q1.2, refuseF q1.2 rf 4 at_) from by rw [HL.out, if_pos hlt])
      generalize (q1.1 : Int) = z1 at hlt' ⊢
      go_wp2_with fail
      refine (src_refuse base q g ff r bs q1.2 rf w1 4 at_ HP.out.1).mono ?_
      rintro _ w2 ⟨rfl, hp2⟩
      have HP2 := hid (SrcP.trans HP.out.2 hp2)
      clear hp2 HP HC HL HWR
      go_wp2_with fail
      go_ret
      exact ⟨_, rfl, by rw [HE.out]; exact OwnD.nil _ _, by rw [HE.out]; exact HP2.out⟩
    · have hlt' : ¬ (most : Int) < (q1.1 : Int) := by omega
      have HE := hid (show LR = ((dscN bs q1.1 q1.2).1, (dscN bs q1.1 q1.2).2, rf) from by rw [HL.out, if_neg hlt])
      have HSV := hid (several_calls base q g ff r bs q1.2 rf q1.1 (by omega) w1 HP.out.1)
      generalize q1.1 = n1 at hlt' HE HSV ⊢
      clear hlt HL
      go_wp2_with fail
      refine HSV.out.mono ?_
      rintro _ w2 ⟨v, rfl, ho, hp2⟩
      have HO := hid (ho.lower (base' := w.heap.size) HP.out.2.size)
      have HP2 := hid (SrcP.trans HP.out.2 hp2)
      clear ho hp2 HP HC HWR HSV
      go_wp2_with fail
      go_ret
      exact ⟨_, rfl, by rw [HE.out]; exact HO.out, by rw [HE.out]; exact HP2.out⟩
end Go.Proofs.Ytljnpaikjljmbaa
