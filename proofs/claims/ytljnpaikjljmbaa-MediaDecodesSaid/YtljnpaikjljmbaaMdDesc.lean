/- Contract: the part that writes a description. Written by tools/mkmd.py out of XMdDesc.tpl. -/
import Derived.Test.YtljnpaikjljmbaaMdReg
namespace Go.Proofs.Ytljnpaikjljmbaa
open Go.RowKit

def descG (d : DD) : List (List Item) := [[numI d.m], [some d.id], [numI d.s], [numI d.p.length, some d.p]]
def dscVal (b : Nat) (g : Nat) (m : Int) (s : Int) (st : ByteArray) (id : List UInt8) : Nat → Value → Value
  | 0, _ => .pointer (some ⟨g, 0, none⟩)
  | 1, _ => .func (.func 28) #[.pointer (some ⟨g, 0, none⟩)] #[]
  | 2, _ => .pointer (some ⟨b + 1, 0, none⟩)
  | 3, _ => .int .i64 m
  | 4, k => k
  | 5, _ => .pointer (some ⟨g, 0, none⟩)
  | 6, _ => .func (.func 82) #[.pointer (some ⟨g, 0, none⟩)] #[]
  | 7, _ => .pointer (some ⟨b + 1, 1, none⟩)
  | 8, _ => .agg (bcells id)
  | 9, k => k
  | 10, _ => .pointer (some ⟨g, 0, none⟩)
  | 11, _ => .func (.func 28) #[.pointer (some ⟨g, 0, none⟩)] #[]
  | 12, _ => .pointer (some ⟨b + 1, 33, none⟩)
  | 13, _ => .int .i64 s
  | 14, k => k
  | 15, _ => .pointer (some ⟨g, 0, none⟩)
  | 16, _ => .func (.func 29) #[.pointer (some ⟨g, 0, none⟩)] #[]
  | 17, _ => .pointer (some ⟨b + 1, 34, none⟩)
  | 18, _ => .string st
  | 19, k => k
  | 20, k => k
  | 21, k => k
  | _, _ => undef
set_option maxRecDepth 20000 in
set_option maxHeartbeats 2000000 in
theorem ptDesc1 (base g f : Nat) (r : Option Nat) (lim : Nat) (s0 : WS) (w : World) (b : Nat) (d : DD) (hd : DOK d) (h : WrB w base g f r lim s0) (h0 : Blk w b 52 #[.pointer (some ⟨g, 0, none⟩)]) (h1 : Blk w (b + 1) 25 (dcs d).toArray) :
    Calls Try.prog 80 (bxFn 0 b).cap w fun e w' => e = .returned (.tuple #[]) ∧ PtPost w base g f r lim ((descG d).foldl (putW lim) s0) w' := by
  obtain ⟨m, id, s, p⟩ := d
  obtain ⟨hid', hm, hs, hp⟩ := hd
  dsimp only at hid' hm hs hp
  have HW := hid h
  have hfp : ∀ x ∈ fpw g f r, x < w.heap.size := fun x hx => (h.fp_lt x hx).2
  have fpK := hid (fun W (hb : Below w.heap.size w W) => (fun x hx => Nat.lt_of_lt_of_le (hfp x hx) hb.size : ∀ x ∈ fpw g f r, x < W.heap.size))
  have HSI := hid (size_idl hid')
  have HM1 := hid (fun W => oneNum_calls base g f r lim W m hm)
  have HM2 := hid (fun W => oneID_calls base g f r lim W id hid')
  have HM3 := hid (fun W => oneNum_calls base g f r lim W s hs)
  have HM4 := hid (fun W => oneText_calls base g f r lim W p hp)
  have HC := hid (fun W (hb : Below w.heap.size w W) => (⟨(h0.keep hb).cell 0 rfl, (h1.keep hb).cell 0 (by rw [List.getElem?_toArray]; rfl), (h1.keep hb).cell 33 (by rw [List.getElem?_toArray]; exact dcs_33 hid'), (h1.keep hb).cell 34 (by rw [List.getElem?_toArray]; exact dcs_34 hid'), by have := h1.keep hb; rw [dcs_part] at this; exact this⟩ : W.cell? ⟨b, 0, none⟩ = some (.pointer (some ⟨g, 0, none⟩)) ∧ W.cell? ⟨b + 1, 0, none⟩ = some (.int .i64 m) ∧ W.cell? ⟨b + 1, 33, none⟩ = some (.int .i64 s) ∧ W.cell? ⟨b + 1, 34, none⟩ = some (.string (strB p)) ∧ Blk W (b + 1) 25 (part [.int .i64 m] (id.map bv) [.int .i64 s, .string (strB p)])))
  have HF := hid (show (descG ⟨m, id, s, p⟩).foldl (putW lim) s0 = (([[[numI m]], [[some id]], [[numI s]], [[numI p.length, some p]]] : List (List (List Item))).flatten.foldl (putW lim) s0) from rfl)
  generalize (descG ⟨m, id, s, p⟩).foldl (putW lim) s0 = S' at HF ⊢
  generalize [[numI m]] = G0 at HM1 HF
  generalize [[some id]] = G1 at HM2 HF
  generalize [[numI s]] = G2 at HM3 HF
  generalize [[numI p.length, some p]] = G3 at HM4 HF
  generalize strB p = st at HM4 HC
  clear h h0 h1 hid' hm hs hp hfp
  unfold bxFn
  dsimp only
  go_enter Try.func80, Try.ntmps80
  go_wp2_with fail
  refine wp_region_invG 24 (.pointer none) (dscVal b g m s st id) (PtS w base g f r lim s0 [(4, G0), (9, G1), (14, G2), (19, G3)] 20 21) (by kernel_rfl) (by kernel_rfl) (by exact Nat.le_refl 24) ?_ ?_ ?_
  · exact PtS.start 22 HW.out _ (by simp) (by decide)
  · intro i o f gh a W hi hf hdep hsame hcl hval hS
    rcases i with _ | _ | _ | _ | _ | _ | _ | _ | _ | _ | _ | _ | _ | _ | _ | _ | _ | _ | _ | _ | _ | _ | i
    all_goals simp only [List.getElem?_cons_succ, List.getElem?_cons_zero, List.getElem?_nil, Option.some.injEq, reduceCtorEq] at hi
    all_goals subst hi
    · have E0 : a.tmps[0]? = some (.pointer (some ⟨b, 0, none⟩)) := (same_of hsame 0 (by rfl)).trans rfl
      have n1 := not_yet hcl hf 1 (by rfl)
      have n4 := not_yet hcl n1 4 (by rfl)
      have n20 := not_yet hcl n4 20 (by rfl)
      have n21 := not_yet hcl n20 21 (by rfl)
      have hB0 := hS.pre n21
      have hCC := HC.out W hB0
      obtain ⟨c0, c1, c2, c3, -⟩ := hCC
      refine g_plain rfl ?_
      exact does_value (w' := W) (v := .pointer (some ⟨g, 0, none⟩)) (by go_simp) ⟨(.pointer none), .inr rfl, (hS.step (Below.refl _ _) 0 (.pointer none) (by decide) (by decide) n21 (by simp))⟩
    · have E2 := hval 0 _ 2 rfl rfl (dep_of hdep 0 (by rfl))
      unfold dscVal at E2
      have n4 := not_yet hcl hf 4 (by rfl)
      have n20 := not_yet hcl n4 20 (by rfl)
      have n21 := not_yet hcl n20 21 (by rfl)
      have hB0 := hS.pre n21
      have hCC := HC.out W hB0
      obtain ⟨c0, c1, c2, c3, -⟩ := hCC
      refine g_plain rfl ?_
      exact does_value (w' := W) (v := .func (.func 28) #[.pointer (some ⟨g, 0, none⟩)] #[]) (by go_simp) ⟨(.pointer none), .inr rfl, (hS.step (Below.refl _ _) 1 (.pointer none) (by decide) (by decide) n21 (by simp))⟩
    · have E1 : a.tmps[1]? = some (.pointer (some ⟨b + 1, 0, none⟩)) := (same_of hsame 1 (by rfl)).trans rfl
      have n3 := not_yet hcl hf 3 (by rfl)
      have n4 := not_yet hcl n3 4 (by rfl)
      have n20 := not_yet hcl n4 20 (by rfl)
      have n21 := not_yet hcl n20 21 (by rfl)
      have hB0 := hS.pre n21
      have hCC := HC.out W hB0
      obtain ⟨c0, c1, c2, c3, -⟩ := hCC
      refine g_plain rfl ?_
      exact does_value (w' := W) (v := .pointer (some ⟨b + 1, 0, none⟩)) (by go_simp) ⟨(.pointer none), .inr rfl, (hS.step (Below.refl _ _) 2 (.pointer none) (by decide) (by decide) n21 (by simp))⟩
    · have E4 := hval 2 _ 4 rfl rfl (dep_of hdep 2 (by rfl))
      unfold dscVal at E4
      have n4 := not_yet hcl hf 4 (by rfl)
      have n20 := not_yet hcl n4 20 (by rfl)
      have n21 := not_yet hcl n20 21 (by rfl)
      have hB0 := hS.pre n21
      have hCC := HC.out W hB0
      obtain ⟨c0, c1, c2, c3, -⟩ := hCC
      refine g_plain rfl ?_
      exact does_value (w' := W) (v := .int .i64 m) (by go_simp) ⟨(.pointer none), .inr rfl, (hS.step (Below.refl _ _) 3 (.pointer none) (by decide) (by decide) n21 (by simp))⟩
    · have E3 := hval 1 _ 3 rfl rfl (dep_of hdep 1 (by rfl))
      have E5 := hval 3 _ 5 rfl rfl (dep_of hdep 3 (by rfl))
      unfold dscVal at E3 E5
      have n20 := not_yet hcl hf 20 (by rfl)
      have n21 := not_yet hcl n20 21 (by rfl)
      have hB0 := hS.pre n21
      have hCC := HC.out W hB0
      refine g_plain rfl ?_
      refine does_call 33 #[.func (.func 28) #[.pointer (some ⟨g, 0, none⟩)] #[], .int .i64 m] (by go_simp) ((HM1.out W (fpK.out W hB0)).mono ?_)
      rintro _ W' ⟨v, rfl, hp, hb⟩
      exact ⟨fnV v, rfl, fnV v, .inr rfl, hS.call 4 _ (by simp) (by simp) hf hb v hp⟩
    · have E0 : a.tmps[0]? = some (.pointer (some ⟨b, 0, none⟩)) := (same_of hsame 0 (by rfl)).trans rfl
      have n6 := not_yet hcl hf 6 (by rfl)
      have n9 := not_yet hcl n6 9 (by rfl)
      have n20 := not_yet hcl n9 20 (by rfl)
      have n21 := not_yet hcl n20 21 (by rfl)
      have hB0 := hS.pre n21
      have hCC := HC.out W hB0
      obtain ⟨c0, c1, c2, c3, -⟩ := hCC
      refine g_plain rfl ?_
      exact does_value (w' := W) (v := .pointer (some ⟨g, 0, none⟩)) (by go_simp) ⟨(.pointer none), .inr rfl, (hS.step (Below.refl _ _) 5 (.pointer none) (by decide) (by decide) n21 (by simp))⟩
    · have E7 := hval 5 _ 7 rfl rfl (dep_of hdep 5 (by rfl))
      unfold dscVal at E7
      have n9 := not_yet hcl hf 9 (by rfl)
      have n20 := not_yet hcl n9 20 (by rfl)
      have n21 := not_yet hcl n20 21 (by rfl)
      have hB0 := hS.pre n21
      have hCC := HC.out W hB0
      obtain ⟨c0, c1, c2, c3, -⟩ := hCC
      refine g_plain rfl ?_
      exact does_value (w' := W) (v := .func (.func 82) #[.pointer (some ⟨g, 0, none⟩)] #[]) (by go_simp) ⟨(.pointer none), .inr rfl, (hS.step (Below.refl _ _) 6 (.pointer none) (by decide) (by decide) n21 (by simp))⟩
    · have E1 : a.tmps[1]? = some (.pointer (some ⟨b + 1, 0, none⟩)) := (same_of hsame 1 (by rfl)).trans rfl
      have n8 := not_yet hcl hf 8 (by rfl)
      have n9 := not_yet hcl n8 9 (by rfl)
      have n20 := not_yet hcl n9 20 (by rfl)
      have n21 := not_yet hcl n20 21 (by rfl)
      have hB0 := hS.pre n21
      have hCC := HC.out W hB0
      obtain ⟨c0, c1, c2, c3, -⟩ := hCC
      refine g_plain rfl ?_
      exact does_value (w' := W) (v := .pointer (some ⟨b + 1, 1, none⟩)) (by go_simp) ⟨(.pointer none), .inr rfl, (hS.step (Below.refl _ _) 7 (.pointer none) (by decide) (by decide) n21 (by simp))⟩
    · have E9 := hval 7 _ 9 rfl rfl (dep_of hdep 7 (by rfl))
      unfold dscVal at E9
      have n9 := not_yet hcl hf 9 (by rfl)
      have n20 := not_yet hcl n9 20 (by rfl)
      have n21 := not_yet hcl n20 21 (by rfl)
      have hB0 := hS.pre n21
      have hCC := HC.out W hB0
      refine g_plain rfl ?_
      exact does_load_part 23 _ rfl (b + 1) 1 (by rw [eval_getD, E9]; rfl) (hCC.2.2.2.2) (by rfl) Try.underlying23 rfl HSI.out ⟨(.pointer none), .inr rfl, hS.step (Below.refl _ _) 8 (.pointer none) (by decide) (by decide) n21 (by simp)⟩
    · have E8 := hval 6 _ 8 rfl rfl (dep_of hdep 6 (by rfl))
      have E10 := hval 8 _ 10 rfl rfl (dep_of hdep 8 (by rfl))
      unfold dscVal at E8 E10
      have n20 := not_yet hcl hf 20 (by rfl)
      have n21 := not_yet hcl n20 21 (by rfl)
      have hB0 := hS.pre n21
      have hCC := HC.out W hB0
      refine g_plain rfl ?_
      refine does_call 81 #[.func (.func 82) #[.pointer (some ⟨g, 0, none⟩)] #[], .agg (bcells id)] (by go_simp) ((HM2.out W (fpK.out W hB0)).mono ?_)
      rintro _ W' ⟨v, rfl, hp, hb⟩
      exact ⟨fnV v, rfl, fnV v, .inr rfl, hS.call 9 _ (by simp) (by simp) hf hb v hp⟩
    · have E0 : a.tmps[0]? = some (.pointer (some ⟨b, 0, none⟩)) := (same_of hsame 0 (by rfl)).trans rfl
      have n11 := not_yet hcl hf 11 (by rfl)
      have n14 := not_yet hcl n11 14 (by rfl)
      have n20 := not_yet hcl n14 20 (by rfl)
      have n21 := not_yet hcl n20 21 (by rfl)
      have hB0 := hS.pre n21
      have hCC := HC.out W hB0
      obtain ⟨c0, c1, c2, c3, -⟩ := hCC
      refine g_plain rfl ?_
      exact does_value (w' := W) (v := .pointer (some ⟨g, 0, none⟩)) (by go_simp) ⟨(.pointer none), .inr rfl, (hS.step (Below.refl _ _) 10 (.pointer none) (by decide) (by decide) n21 (by simp))⟩
    · have E12 := hval 10 _ 12 rfl rfl (dep_of hdep 10 (by rfl))
      unfold dscVal at E12
      have n14 := not_yet hcl hf 14 (by rfl)
      have n20 := not_yet hcl n14 20 (by rfl)
      have n21 := not_yet hcl n20 21 (by rfl)
      have hB0 := hS.pre n21
      have hCC := HC.out W hB0
      obtain ⟨c0, c1, c2, c3, -⟩ := hCC
      refine g_plain rfl ?_
      exact does_value (w' := W) (v := .func (.func 28) #[.pointer (some ⟨g, 0, none⟩)] #[]) (by go_simp) ⟨(.pointer none), .inr rfl, (hS.step (Below.refl _ _) 11 (.pointer none) (by decide) (by decide) n21 (by simp))⟩
    · have E1 : a.tmps[1]? = some (.pointer (some ⟨b + 1, 0, none⟩)) := (same_of hsame 1 (by rfl)).trans rfl
      have n13 := not_yet hcl hf 13 (by rfl)
      have n14 := not_yet hcl n13 14 (by rfl)
      have n20 := not_yet hcl n14 20 (by rfl)
      have n21 := not_yet hcl n20 21 (by rfl)
      have hB0 := hS.pre n21
      have hCC := HC.out W hB0
      obtain ⟨c0, c1, c2, c3, -⟩ := hCC
      refine g_plain rfl ?_
      exact does_value (w' := W) (v := .pointer (some ⟨b + 1, 33, none⟩)) (by go_simp) ⟨(.pointer none), .inr rfl, (hS.step (Below.refl _ _) 12 (.pointer none) (by decide) (by decide) n21 (by simp))⟩
    · have E14 := hval 12 _ 14 rfl rfl (dep_of hdep 12 (by rfl))
      unfold dscVal at E14
      have n14 := not_yet hcl hf 14 (by rfl)
      have n20 := not_yet hcl n14 20 (by rfl)
      have n21 := not_yet hcl n20 21 (by rfl)
      have hB0 := hS.pre n21
      have hCC := HC.out W hB0
      obtain ⟨c0, c1, c2, c3, -⟩ := hCC
      refine g_plain rfl ?_
      exact does_value (w' := W) (v := .int .i64 s) (by go_simp) ⟨(.pointer none), .inr rfl, (hS.step (Below.refl _ _) 13 (.pointer none) (by decide) (by decide) n21 (by simp))⟩
    · have E13 := hval 11 _ 13 rfl rfl (dep_of hdep 11 (by rfl))
      have E15 := hval 13 _ 15 rfl rfl (dep_of hdep 13 (by rfl))
      unfold dscVal at E13 E15
      have n20 := not_yet hcl hf 20 (by rfl)
      have n21 := not_yet hcl n20 21 (by rfl)
      have hB0 := hS.pre n21
      have hCC := HC.out W hB0
      refine g_plain rfl ?_
      refine does_call 33 #[.func (.func 28) #[.pointer (some ⟨g, 0, none⟩)] #[], .int .i64 s] (by go_simp) ((HM3.out W (fpK.out W hB0)).mono ?_)
      rintro _ W' ⟨v, rfl, hp, hb⟩
      exact ⟨fnV v, rfl, fnV v, .inr rfl, hS.call 14 _ (by simp) (by simp) hf hb v hp⟩
    · have E0 : a.tmps[0]? = some (.pointer (some ⟨b, 0, none⟩)) := (same_of hsame 0 (by rfl)).trans rfl
      have n16 := not_yet hcl hf 16 (by rfl)
      have n19 := not_yet hcl n16 19 (by rfl)
      have n20 := not_yet hcl n19 20 (by rfl)
      have n21 := not_yet hcl n20 21 (by rfl)
      have hB0 := hS.pre n21
      have hCC := HC.out W hB0
      obtain ⟨c0, c1, c2, c3, -⟩ := hCC
      refine g_plain rfl ?_
      exact does_value (w' := W) (v := .pointer (some ⟨g, 0, none⟩)) (by go_simp) ⟨(.pointer none), .inr rfl, (hS.step (Below.refl _ _) 15 (.pointer none) (by decide) (by decide) n21 (by simp))⟩
    · have E17 := hval 15 _ 17 rfl rfl (dep_of hdep 15 (by rfl))
      unfold dscVal at E17
      have n19 := not_yet hcl hf 19 (by rfl)
      have n20 := not_yet hcl n19 20 (by rfl)
      have n21 := not_yet hcl n20 21 (by rfl)
      have hB0 := hS.pre n21
      have hCC := HC.out W hB0
      obtain ⟨c0, c1, c2, c3, -⟩ := hCC
      refine g_plain rfl ?_
      exact does_value (w' := W) (v := .func (.func 29) #[.pointer (some ⟨g, 0, none⟩)] #[]) (by go_simp) ⟨(.pointer none), .inr rfl, (hS.step (Below.refl _ _) 16 (.pointer none) (by decide) (by decide) n21 (by simp))⟩
    · have E1 : a.tmps[1]? = some (.pointer (some ⟨b + 1, 0, none⟩)) := (same_of hsame 1 (by rfl)).trans rfl
      have n18 := not_yet hcl hf 18 (by rfl)
      have n19 := not_yet hcl n18 19 (by rfl)
      have n20 := not_yet hcl n19 20 (by rfl)
      have n21 := not_yet hcl n20 21 (by rfl)
      have hB0 := hS.pre n21
      have hCC := HC.out W hB0
      obtain ⟨c0, c1, c2, c3, -⟩ := hCC
      refine g_plain rfl ?_
      exact does_value (w' := W) (v := .pointer (some ⟨b + 1, 34, none⟩)) (by go_simp) ⟨(.pointer none), .inr rfl, (hS.step (Below.refl _ _) 17 (.pointer none) (by decide) (by decide) n21 (by simp))⟩
    · have E19 := hval 17 _ 19 rfl rfl (dep_of hdep 17 (by rfl))
      unfold dscVal at E19
      have n19 := not_yet hcl hf 19 (by rfl)
      have n20 := not_yet hcl n19 20 (by rfl)
      have n21 := not_yet hcl n20 21 (by rfl)
      have hB0 := hS.pre n21
      have hCC := HC.out W hB0
      obtain ⟨c0, c1, c2, c3, -⟩ := hCC
      refine g_plain rfl ?_
      exact does_value (w' := W) (v := .string st) (by go_simp) ⟨(.pointer none), .inr rfl, (hS.step (Below.refl _ _) 18 (.pointer none) (by decide) (by decide) n21 (by simp))⟩
    · have E18 := hval 16 _ 18 rfl rfl (dep_of hdep 16 (by rfl))
      have E20 := hval 18 _ 20 rfl rfl (dep_of hdep 18 (by rfl))
      unfold dscVal at E18 E20
      have n20 := not_yet hcl hf 20 (by rfl)
      have n21 := not_yet hcl n20 21 (by rfl)
      have hB0 := hS.pre n21
      have hCC := HC.out W hB0
      refine g_plain rfl ?_
      refine does_call 34 #[.func (.func 29) #[.pointer (some ⟨g, 0, none⟩)] #[], .string st] (by go_simp) ((HM4.out W (fpK.out W hB0)).mono ?_)
      rintro _ W' ⟨v, rfl, hp, hb⟩
      exact ⟨fnV v, rfl, fnV v, .inr rfl, hS.call 19 _ (by simp) (by simp) hf hb v hp⟩
    · have E6 := hval 4 _ 6 rfl rfl (dep_of hdep 4 (by rfl))
      have E11 := hval 9 _ 11 rfl rfl (dep_of hdep 9 (by rfl))
      have E16 := hval 14 _ 16 rfl rfl (dep_of hdep 14 (by rfl))
      have E21 := hval 19 _ 21 rfl rfl (dep_of hdep 19 (by rfl))
      unfold dscVal at E6 E11 E16 E21
      have n21 := not_yet hcl hf 21 (by rfl)
      have hB0 := hS.pre n21
      have hCC := HC.out W hB0
      refine g_plain rfl ?_
      obtain ⟨x4, e4, -⟩ := hS.pt n21 (4, G0) (by simp) (dep_of hdep 4 (by rfl))
      obtain ⟨x9, e9, -⟩ := hS.pt n21 (9, G1) (by simp) (dep_of hdep 9 (by rfl))
      obtain ⟨x14, e14, -⟩ := hS.pt n21 (14, G2) (by simp) (dep_of hdep 14 (by rfl))
      obtain ⟨x19, e19, -⟩ := hS.pt n21 (19, G3) (by simp) (dep_of hdep 19 (by rfl))
      dsimp only at e4 e9 e14 e19
      have hBU := hS.build hf (by simp only [List.forall_mem_cons]; exact ⟨dep_of hdep 4 (by rfl), dep_of hdep 9 (by rfl), dep_of hdep 14 (by rfl), dep_of hdep 19 (by rfl), by simp⟩) 4 rfl
      simp only [List.map_cons, List.map_nil, e4, e9, e14, e19] at hBU
      rw [e4] at E6
      rw [e9] at E11
      rw [e14] at E16
      rw [e19] at E21
      unfold fnV at E6 E11 E16 E21 hBU
      exact does_value (w' := W.alloc (.cells #[.func (.func x4.k) x4.first x4.cap, .func (.func x9.k) x9.first x9.cap, .func (.func x14.k) x14.first x14.cap, .func (.func x19.k) x19.first x19.cap] 60)) (v := .slice (some ⟨W.heap.size, 0, none⟩) 4 4) (by go_simp) ⟨.slice (some ⟨W.heap.size, 0, none⟩) 4 4, .inr rfl, hBU⟩
    · have E22 := hval 20 _ 22 rfl rfl (dep_of hdep 20 (by rfl))
      unfold dscVal at E22
      refine g_plain rfl ?_
      obtain ⟨q, eq, hc⟩ := hS.write (dep_of hdep 20 (by rfl)) hf (by simp) 4 rfl
      rw [eq] at E22
      refine does_call 32 #[.slice (some ⟨q, 0, none⟩) 4 4] (by go_simp) (hc.mono ?_)
      rintro _ W' ⟨v, rfl, rfl, hs⟩
      exact ⟨_, rfl, _, .inr rfl, hs⟩
  · intro gh W hS
    have HP := hid (hS.post rfl).2
    simp only [List.map_cons, List.map_nil] at HP
    rw [← HF.out] at HP
    clear hS HM1 HM2 HM3 HM4 HC
    simp only [putAll, dscVal, Nat.reduceAdd, Nat.zero_add, Act.put, List.setIfInBounds_toArray, List.set_cons_zero, List.set_cons_succ]
    go_wp2_with fail
    go_end0
    exact ⟨rfl, HP.out⟩
end Go.Proofs.Ytljnpaikjljmbaa
