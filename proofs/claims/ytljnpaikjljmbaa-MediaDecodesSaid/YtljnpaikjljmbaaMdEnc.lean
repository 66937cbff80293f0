/- Contract: Encode. Written by tools/mkmd.py out of XMdEnc.tpl. -/
import Derived.Test.YtljnpaikjljmbaaMdWrong
namespace Go.Proofs.Ytljnpaikjljmbaa
open Go.RowKit

def manG (m : MM) : List (List Item) := [numI 77] :: [numI m.k] :: [numI m.t.length, some m.t] :: bodyG m
def encS (m : MM) : WS := (manG m).foldl (putW 4096) ⟨[], 0⟩
def encE (m : MM) : Int := if wrongE m ≠ 0 then wrongE m else ((encS m).e : Int)
def encB (m : MM) : List UInt8 := if encE m = 0 then (encS m).bs else []
def EncP (w : World) (E : Int) (bs : List UInt8) (e : Ending) (w' : World) : Prop := ∃ v, e = .returned (.tuple #[v, .int .i64 E]) ∧ Own w' w.heap.size 5 v bs.length bs ∧ Below w.heap.size w w'
def encVal (b0 : Nat) (g : Nat) (st : ByteArray) (cm : Array Value) (k : Int) : Nat → Value → Value
  | 0, _ => .pointer (some ⟨g, 0, none⟩)
  | 1, _ => .func (.func 28) #[.pointer (some ⟨g, 0, none⟩)] #[]
  | 2, k => k
  | 3, _ => .pointer (some ⟨g, 0, none⟩)
  | 4, _ => .func (.func 28) #[.pointer (some ⟨g, 0, none⟩)] #[]
  | 5, _ => .pointer (some ⟨b0, 0, none⟩)
  | 6, _ => .int .i64 k
  | 7, k => k
  | 8, _ => .pointer (some ⟨g, 0, none⟩)
  | 9, _ => .func (.func 29) #[.pointer (some ⟨g, 0, none⟩)] #[]
  | 10, _ => .pointer (some ⟨b0, 1, none⟩)
  | 11, _ => .string st
  | 12, k => k
  | 13, _ => .pointer (some ⟨g, 0, none⟩)
  | 14, _ => .agg cm
  | 15, k => k
  | 16, k => k
  | 17, k => k
  | _, _ => undef
set_option maxRecDepth 20000 in
set_option maxHeartbeats 4000000 in
theorem encode_calls (B : Nat) (m : MM) (v1 v2 : Value) (w : World) (hm : MOK m) (hi : MIn w B m v1 v2) (hBw : B ≤ w.heap.size) :
    Calls Try.prog 11 #[.agg (mcs m v1 v2).toArray] w (EncP w (encE m) (encB m)) := by
  have hb := below_new w (.cells (mcs m v1 v2).toArray 28)
  have hk := Blk.new w 28 (mcs m v1 v2).toArray
  have h32 := hi.1
  have HSM := hid (size_man (m := m) h32 v1 v2)
  have HC := hid (fun W (hW : Below (w.alloc (.cells (mcs m v1 v2).toArray 28)).heap.size (w.alloc (.cells (mcs m v1 v2).toArray 28)) W) => (⟨(hk.keep hW).cell 0 (by rw [List.getElem?_toArray]; exact mcs_0 m v1 v2), (hk.keep hW).cell 1 (by rw [List.getElem?_toArray]; exact mcs_1 m v1 v2), run_loadVar_row W w.heap.size _ _ _ (0, 0) _ (hk.keep hW) Try.underlying28 rfl HSM.out, hk.keep hW⟩ : W.cell? ⟨w.heap.size, 0, none⟩ = some (.int .i64 m.k) ∧ W.cell? ⟨w.heap.size, 1, none⟩ = some (.string (strB m.t)) ∧ (loadVar 28 ⟨w.heap.size, 0, none⟩).run Try.prog W = .ok (.agg (mcs m v1 v2).toArray) W ∧ Blk W w.heap.size 28 (mcs m v1 v2).toArray))
  have HWR := hid (fun W (hW : Below w.heap.size w W) => wrong_calls B m v1 v2 W (hi.keep hW) hm.2.2.1 hm.2.2.2.1)
  have HBD := hid (fun base g f r W (hW : Below w.heap.size w W) (hfp : ∀ x ∈ fpw g f r, B ≤ x ∧ x < W.heap.size) => body_calls base g f r 4096 B m v1 v2 W hm (hi.keep hW) hfp)
  have HM2 := hid (fun base g f r W => oneNum_calls base g f r 4096 W m.k hm.2.2.2.2.1)
  have HM3 := hid (fun base g f r W => oneText_calls base g f r 4096 W m.t hm.2.1)
  have HM1 := hid (fun base g f r W => oneNum_calls base g f r 4096 W 77 (by unfold lt63; omega))
  have HF := hid (show ((([[[numI 77]], [[numI m.k]], [[numI m.t.length, some m.t]], bodyG m] : List (List (List Item))).flatten.foldl (putW 4096) ⟨[], 0⟩) = encS m) from by simp [encS, manG])
  have HB := hid hb
  have HBW := hid hBw
  have HE1 := hid (show wrongE m ≠ 0 → encE m = wrongE m ∧ encB m = [] from fun h => by
    have e : encE m = wrongE m := if_pos h
    exact ⟨e, if_neg (by rw [e]; exact h)⟩)
  have HE2 := hid (show wrongE m = 0 → encE m = ((encS m).e : Int) ∧ encB m = if (encS m).e = 0 then (encS m).bs else [] from fun h => by
    have e : encE m = ((encS m).e : Int) := if_neg (by simp [h])
    refine ⟨e, ?_⟩
    unfold encB
    rw [e]
    by_cases h0 : (encS m).e = 0
    · rw [if_pos h0, if_pos (by omega)]
    · rw [if_neg h0, if_neg (by omega)])
  generalize encE m = E at HE1 HE2 ⊢
  generalize encB m = bs at HE1 HE2 ⊢
  generalize wrongE m = E0 at HWR HE1 HE2
  generalize [[numI 77]] = G0 at HM1 HF
  generalize [[numI m.k]] = G1 at HM2 HF
  generalize [[numI m.t.length, some m.t]] = G2 at HM3 HF
  generalize bodyG m = G3 at HBD HF
  generalize encS m = ES at HF HE2
  generalize hcm : (mcs m v1 v2).toArray = cm at HC HWR HBD HB HSM ⊢
  generalize strB m.t = st at HM3 HC
  generalize m.k = k at HM2 HC
  clear hb hk h32 hm hi hcm hBw
  go_enter Try.func11, Try.ntmps11
  go_wp2_with (first | (refine wpList_load_run rfl 28 _ rfl _ _ rfl (HC.out _ (Below.refl _ _)).2.2.1 ?_))
  generalize w.alloc (.cells cm 28) = w1 at HC HB ⊢
  generalize hb0 : w.heap.size = b0 at HC ⊢
  have HB0 := hid hb0
  clear hb0
  refine (HWR.out w1 HB.out).mono ?_
  rintro _ w2 ⟨rfl, hb2⟩
  have HB2 := hid hb2
  have HBW2 := hid (HB.out.trans (hb2.mono HB.out.size))
  clear hb2 HWR
  by_cases hE0 : E0 = 0
  · obtain ⟨e1, e2⟩ := HE2.out hE0
    subst hE0
    have H1 := hid e1; have H2 := hid e2
    clear e1 e2 HE1 HE2
    go_wp2_with fail
    refine (newWriter_calls 4096 w2 (by omega)).mono ?_
    rintro _ w3 ⟨g, ff, rfl, hw, hg, hf, hb3⟩
    have HW := hid (hw w2.heap.size (Nat.le_refl _))
    have HB3 := hid (HB2.out.trans (hb3.mono HB2.out.size))
    have HBW3 := hid (HBW2.out.trans (hb3.mono HBW2.out.size))
    have HFP := hid (fun W (hW : Below w3.heap.size w3 W) => (fun x hx => by
      have h1 := (HW.out.fp_lt x hx)
      have h2 := HBW2.out.size
      have h3 := HBW.out
      have h4 := hW.size
      exact ⟨by omega, by omega⟩ : ∀ x ∈ fpw g ff none, B ≤ x ∧ x < W.heap.size))
    have HCC := hid (fun W (hW : Below w3.heap.size w3 W) => HC.out W (HB3.out.trans (hW.mono HB3.out.size)))
    have HBDD := hid (fun W (hW : Below w3.heap.size w3 W) => HBD.out w2.heap.size g ff none W (HBW3.out.trans (hW.mono HBW3.out.size)) (HFP.out W hW))
    clear hw hg hf hb3 HC HBD
    go_wp2_with fail
    refine wp_region_invG 41 (.pointer none) (encVal b0 g st cm k) (PtS w3 w2.heap.size g ff none 4096 ⟨[], 0⟩ [(2, G0), (7, G1), (12, G2), (15, G3)] 16 17) (by kernel_rfl) (by kernel_rfl) (by exact Nat.le_refl 41) ?_ ?_ ?_
    · exact PtS.start 18 HW.out _ (by simp) (by decide)
    · intro i o f gh a W hi hf hdep hsame hcl hval hS
      rcases i with _ | _ | _ | _ | _ | _ | _ | _ | _ | _ | _ | _ | _ | _ | _ | _ | _ | _ | i
      all_goals simp only [List.getElem?_cons_succ, List.getElem?_cons_zero, List.getElem?_nil, Option.some.injEq, reduceCtorEq] at hi
      all_goals subst hi
      · have E5 : a.tmps[5]? = some (.pointer (some ⟨g, 0, none⟩)) := (same_of hsame 5 (by rfl)).trans rfl
        have n1 := not_yet hcl hf 1 (by rfl)
        have n2 := not_yet hcl n1 2 (by rfl)
        have n16 := not_yet hcl n2 16 (by rfl)
        have n17 := not_yet hcl n16 17 (by rfl)
        have hB0 := hS.pre n17
        have hCC := HCC.out W hB0
        obtain ⟨c0, c1, -⟩ := hCC
        refine g_plain rfl ?_
        exact does_value (w' := W) (v := .pointer (some ⟨g, 0, none⟩)) (by go_simp) ⟨(.pointer none), .inr rfl, (hS.step (Below.refl _ _) 0 (.pointer none) (by decide) (by decide) n17 (by simp))⟩
      · have E19 := hval 0 _ 19 rfl rfl (dep_of hdep 0 (by rfl))
        unfold encVal at E19
        have n2 := not_yet hcl hf 2 (by rfl)
        have n16 := not_yet hcl n2 16 (by rfl)
        have n17 := not_yet hcl n16 17 (by rfl)
        have hB0 := hS.pre n17
        have hCC := HCC.out W hB0
        obtain ⟨c0, c1, -⟩ := hCC
        refine g_plain rfl ?_
        exact does_value (w' := W) (v := .func (.func 28) #[.pointer (some ⟨g, 0, none⟩)] #[]) (by go_simp) ⟨(.pointer none), .inr rfl, (hS.step (Below.refl _ _) 1 (.pointer none) (by decide) (by decide) n17 (by simp))⟩
      · have E20 := hval 1 _ 20 rfl rfl (dep_of hdep 1 (by rfl))
        unfold encVal at E20
        have n16 := not_yet hcl hf 16 (by rfl)
        have n17 := not_yet hcl n16 17 (by rfl)
        have hB0 := hS.pre n17
        have hCC := HCC.out W hB0
        refine g_plain rfl ?_
        refine does_call 33 #[.func (.func 28) #[.pointer (some ⟨g, 0, none⟩)] #[], .int .i64 77] (by go_simp) ((HM1.out w2.heap.size g ff none W (fun x hx => (HFP.out W hB0 x hx).2)).mono ?_)
        rintro _ W' ⟨v, rfl, hp, hb⟩
        exact ⟨fnV v, rfl, fnV v, .inr rfl, hS.call 2 _ (by simp) (by simp) hf hb v hp⟩
      · have E5 : a.tmps[5]? = some (.pointer (some ⟨g, 0, none⟩)) := (same_of hsame 5 (by rfl)).trans rfl
        have n4 := not_yet hcl hf 4 (by rfl)
        have n7 := not_yet hcl n4 7 (by rfl)
        have n16 := not_yet hcl n7 16 (by rfl)
        have n17 := not_yet hcl n16 17 (by rfl)
        have hB0 := hS.pre n17
        have hCC := HCC.out W hB0
        obtain ⟨c0, c1, -⟩ := hCC
        refine g_plain rfl ?_
        exact does_value (w' := W) (v := .pointer (some ⟨g, 0, none⟩)) (by go_simp) ⟨(.pointer none), .inr rfl, (hS.step (Below.refl _ _) 3 (.pointer none) (by decide) (by decide) n17 (by simp))⟩
      · have E22 := hval 3 _ 22 rfl rfl (dep_of hdep 3 (by rfl))
        unfold encVal at E22
        have n7 := not_yet hcl hf 7 (by rfl)
        have n16 := not_yet hcl n7 16 (by rfl)
        have n17 := not_yet hcl n16 17 (by rfl)
        have hB0 := hS.pre n17
        have hCC := HCC.out W hB0
        obtain ⟨c0, c1, -⟩ := hCC
        refine g_plain rfl ?_
        exact does_value (w' := W) (v := .func (.func 28) #[.pointer (some ⟨g, 0, none⟩)] #[]) (by go_simp) ⟨(.pointer none), .inr rfl, (hS.step (Below.refl _ _) 4 (.pointer none) (by decide) (by decide) n17 (by simp))⟩
      · have E1 : a.tmps[1]? = some (.pointer (some ⟨b0, 0, none⟩)) := (same_of hsame 1 (by rfl)).trans rfl
        have n6 := not_yet hcl hf 6 (by rfl)
        have n7 := not_yet hcl n6 7 (by rfl)
        have n16 := not_yet hcl n7 16 (by rfl)
        have n17 := not_yet hcl n16 17 (by rfl)
        have hB0 := hS.pre n17
        have hCC := HCC.out W hB0
        obtain ⟨c0, c1, -⟩ := hCC
        refine g_plain rfl ?_
        exact does_value (w' := W) (v := .pointer (some ⟨b0, 0, none⟩)) (by go_simp) ⟨(.pointer none), .inr rfl, (hS.step (Below.refl _ _) 5 (.pointer none) (by decide) (by decide) n17 (by simp))⟩
      · have E24 := hval 5 _ 24 rfl rfl (dep_of hdep 5 (by rfl))
        unfold encVal at E24
        have n7 := not_yet hcl hf 7 (by rfl)
        have n16 := not_yet hcl n7 16 (by rfl)
        have n17 := not_yet hcl n16 17 (by rfl)
        have hB0 := hS.pre n17
        have hCC := HCC.out W hB0
        obtain ⟨c0, c1, -⟩ := hCC
        refine g_plain rfl ?_
        exact does_value (w' := W) (v := .int .i64 k) (by go_simp) ⟨(.pointer none), .inr rfl, (hS.step (Below.refl _ _) 6 (.pointer none) (by decide) (by decide) n17 (by simp))⟩
      · have E23 := hval 4 _ 23 rfl rfl (dep_of hdep 4 (by rfl))
        have E25 := hval 6 _ 25 rfl rfl (dep_of hdep 6 (by rfl))
        unfold encVal at E23 E25
        have n16 := not_yet hcl hf 16 (by rfl)
        have n17 := not_yet hcl n16 17 (by rfl)
        have hB0 := hS.pre n17
        have hCC := HCC.out W hB0
        refine g_plain rfl ?_
        refine does_call 33 #[.func (.func 28) #[.pointer (some ⟨g, 0, none⟩)] #[], .int .i64 k] (by go_simp) ((HM2.out w2.heap.size g ff none W (fun x hx => (HFP.out W hB0 x hx).2)).mono ?_)
        rintro _ W' ⟨v, rfl, hp, hb⟩
        exact ⟨fnV v, rfl, fnV v, .inr rfl, hS.call 7 _ (by simp) (by simp) hf hb v hp⟩
      · have E5 : a.tmps[5]? = some (.pointer (some ⟨g, 0, none⟩)) := (same_of hsame 5 (by rfl)).trans rfl
        have n9 := not_yet hcl hf 9 (by rfl)
        have n12 := not_yet hcl n9 12 (by rfl)
        have n16 := not_yet hcl n12 16 (by rfl)
        have n17 := not_yet hcl n16 17 (by rfl)
        have hB0 := hS.pre n17
        have hCC := HCC.out W hB0
        obtain ⟨c0, c1, -⟩ := hCC
        refine g_plain rfl ?_
        exact does_value (w' := W) (v := .pointer (some ⟨g, 0, none⟩)) (by go_simp) ⟨(.pointer none), .inr rfl, (hS.step (Below.refl _ _) 8 (.pointer none) (by decide) (by decide) n17 (by simp))⟩
      · have E27 := hval 8 _ 27 rfl rfl (dep_of hdep 8 (by rfl))
        unfold encVal at E27
        have n12 := not_yet hcl hf 12 (by rfl)
        have n16 := not_yet hcl n12 16 (by rfl)
        have n17 := not_yet hcl n16 17 (by rfl)
        have hB0 := hS.pre n17
        have hCC := HCC.out W hB0
        obtain ⟨c0, c1, -⟩ := hCC
        refine g_plain rfl ?_
        exact does_value (w' := W) (v := .func (.func 29) #[.pointer (some ⟨g, 0, none⟩)] #[]) (by go_simp) ⟨(.pointer none), .inr rfl, (hS.step (Below.refl _ _) 9 (.pointer none) (by decide) (by decide) n17 (by simp))⟩
      · have E1 : a.tmps[1]? = some (.pointer (some ⟨b0, 0, none⟩)) := (same_of hsame 1 (by rfl)).trans rfl
        have n11 := not_yet hcl hf 11 (by rfl)
        have n12 := not_yet hcl n11 12 (by rfl)
        have n16 := not_yet hcl n12 16 (by rfl)
        have n17 := not_yet hcl n16 17 (by rfl)
        have hB0 := hS.pre n17
        have hCC := HCC.out W hB0
        obtain ⟨c0, c1, -⟩ := hCC
        refine g_plain rfl ?_
        exact does_value (w' := W) (v := .pointer (some ⟨b0, 1, none⟩)) (by go_simp) ⟨(.pointer none), .inr rfl, (hS.step (Below.refl _ _) 10 (.pointer none) (by decide) (by decide) n17 (by simp))⟩
      · have E29 := hval 10 _ 29 rfl rfl (dep_of hdep 10 (by rfl))
        unfold encVal at E29
        have n12 := not_yet hcl hf 12 (by rfl)
        have n16 := not_yet hcl n12 16 (by rfl)
        have n17 := not_yet hcl n16 17 (by rfl)
        have hB0 := hS.pre n17
        have hCC := HCC.out W hB0
        obtain ⟨c0, c1, -⟩ := hCC
        refine g_plain rfl ?_
        exact does_value (w' := W) (v := .string st) (by go_simp) ⟨(.pointer none), .inr rfl, (hS.step (Below.refl _ _) 11 (.pointer none) (by decide) (by decide) n17 (by simp))⟩
      · have E28 := hval 9 _ 28 rfl rfl (dep_of hdep 9 (by rfl))
        have E30 := hval 11 _ 30 rfl rfl (dep_of hdep 11 (by rfl))
        unfold encVal at E28 E30
        have n16 := not_yet hcl hf 16 (by rfl)
        have n17 := not_yet hcl n16 17 (by rfl)
        have hB0 := hS.pre n17
        have hCC := HCC.out W hB0
        refine g_plain rfl ?_
        refine does_call 34 #[.func (.func 29) #[.pointer (some ⟨g, 0, none⟩)] #[], .string st] (by go_simp) ((HM3.out w2.heap.size g ff none W (fun x hx => (HFP.out W hB0 x hx).2)).mono ?_)
        rintro _ W' ⟨v, rfl, hp, hb⟩
        exact ⟨fnV v, rfl, fnV v, .inr rfl, hS.call 12 _ (by simp) (by simp) hf hb v hp⟩
      · have E5 : a.tmps[5]? = some (.pointer (some ⟨g, 0, none⟩)) := (same_of hsame 5 (by rfl)).trans rfl
        have n15 := not_yet hcl hf 15 (by rfl)
        have n16 := not_yet hcl n15 16 (by rfl)
        have n17 := not_yet hcl n16 17 (by rfl)
        have hB0 := hS.pre n17
        have hCC := HCC.out W hB0
        obtain ⟨c0, c1, -⟩ := hCC
        refine g_plain rfl ?_
        exact does_value (w' := W) (v := .pointer (some ⟨g, 0, none⟩)) (by go_simp) ⟨(.pointer none), .inr rfl, (hS.step (Below.refl _ _) 13 (.pointer none) (by decide) (by decide) n17 (by simp))⟩
      · have E1 : a.tmps[1]? = some (.pointer (some ⟨b0, 0, none⟩)) := (same_of hsame 1 (by rfl)).trans rfl
        have n15 := not_yet hcl hf 15 (by rfl)
        have n16 := not_yet hcl n15 16 (by rfl)
        have n17 := not_yet hcl n16 17 (by rfl)
        have hB0 := hS.pre n17
        have hCC := HCC.out W hB0
        refine g_plain rfl ?_
        exact does_load _ _ rfl b0 (by rw [eval_getD, E1]; rfl) _ hCC.2.2.2 _ Try.underlying28 rfl HSM.out ⟨(.pointer none), .inr rfl, hS.step (Below.refl _ _) 14 (.pointer none) (by decide) (by decide) n17 (by simp)⟩
      · have E32 := hval 13 _ 32 rfl rfl (dep_of hdep 13 (by rfl))
        have E33 := hval 14 _ 33 rfl rfl (dep_of hdep 14 (by rfl))
        unfold encVal at E32 E33
        have n16 := not_yet hcl hf 16 (by rfl)
        have n17 := not_yet hcl n16 17 (by rfl)
        have hB0 := hS.pre n17
        have hCC := HCC.out W hB0
        refine g_plain rfl ?_
        refine does_call 35 #[.pointer (some ⟨g, 0, none⟩), .agg cm] (by go_simp) ((HBDD.out W hB0).mono ?_)
        rintro _ W' ⟨v, rfl, hp, hb⟩
        exact ⟨fnV v, rfl, fnV v, .inr rfl, hS.call 15 _ (by simp) (by simp) hf hb v hp⟩
      · have E21 := hval 2 _ 21 rfl rfl (dep_of hdep 2 (by rfl))
        have E26 := hval 7 _ 26 rfl rfl (dep_of hdep 7 (by rfl))
        have E31 := hval 12 _ 31 rfl rfl (dep_of hdep 12 (by rfl))
        have E34 := hval 15 _ 34 rfl rfl (dep_of hdep 15 (by rfl))
        unfold encVal at E21 E26 E31 E34
        have n17 := not_yet hcl hf 17 (by rfl)
        have hB0 := hS.pre n17
        have hCC := HCC.out W hB0
        refine g_plain rfl ?_
        obtain ⟨x2, e2, -⟩ := hS.pt n17 (2, G0) (by simp) (dep_of hdep 2 (by rfl))
        obtain ⟨x7, e7, -⟩ := hS.pt n17 (7, G1) (by simp) (dep_of hdep 7 (by rfl))
        obtain ⟨x12, e12, -⟩ := hS.pt n17 (12, G2) (by simp) (dep_of hdep 12 (by rfl))
        obtain ⟨x15, e15, -⟩ := hS.pt n17 (15, G3) (by simp) (dep_of hdep 15 (by rfl))
        dsimp only at e2 e7 e12 e15
        have hBU := hS.build hf (by simp only [List.forall_mem_cons]; exact ⟨dep_of hdep 2 (by rfl), dep_of hdep 7 (by rfl), dep_of hdep 12 (by rfl), dep_of hdep 15 (by rfl), by simp⟩) 4 rfl
        simp only [List.map_cons, List.map_nil, e2, e7, e12, e15] at hBU
        rw [e2] at E21
        rw [e7] at E26
        rw [e12] at E31
        rw [e15] at E34
        unfold fnV at E21 E26 E31 E34 hBU
        exact does_value (w' := W.alloc (.cells #[.func (.func x2.k) x2.first x2.cap, .func (.func x7.k) x7.first x7.cap, .func (.func x12.k) x12.first x12.cap, .func (.func x15.k) x15.first x15.cap] 60)) (v := .slice (some ⟨W.heap.size, 0, none⟩) 4 4) (by go_simp) ⟨.slice (some ⟨W.heap.size, 0, none⟩) 4 4, .inr rfl, hBU⟩
      · have E35 := hval 16 _ 35 rfl rfl (dep_of hdep 16 (by rfl))
        unfold encVal at E35
        refine g_plain rfl ?_
        obtain ⟨q, eq, hc⟩ := hS.write (dep_of hdep 16 (by rfl)) hf (by simp) 4 rfl
        rw [eq] at E35
        refine does_call 32 #[.slice (some ⟨q, 0, none⟩) 4 4] (by go_simp) (hc.mono ?_)
        rintro _ W' ⟨v, rfl, rfl, hs⟩
        exact ⟨_, rfl, _, .inr rfl, hs⟩
    · intro gh W hS
      have HP := hid (hS.post rfl).2
      simp only [List.map_cons, List.map_nil] at HP
      rw [HF.out] at HP
      clear hS HM1 HM2 HM3 HBDD HCC HF
      simp only [putAll, encVal, Nat.reduceAdd, Nat.zero_add, Act.put, List.setIfInBounds_toArray, List.set_cons_zero, List.set_cons_succ]
      obtain ⟨r', hw', hc', hm'⟩ := HP.out
      have HW' := hid hw'
      have HBW4 := hid (HBW3.out.trans ((hc'.below (B := w.heap.size) (fun x hx => by have h1 := (HW.out.fp_lt x hx).1; have h2 := HBW2.out.size; omega) HBW3.out.size)))
      clear hw' hc' hm' HP
      go_wp2_with fail
      by_cases h0 : ES.e = 0
      · refine (wDone_open w2.heap.size g ff r' 4096 ES W HW'.out h0).mono ?_
        rintro _ w5 ⟨v, rfl, ho, hb5⟩
        have HO := hid (ho.lower (base' := w.heap.size) HBW4.out.size)
        have HB5 := hid (HBW4.out.trans (hb5.mono HBW4.out.size))
        have e1 : E = 0 := by rw [H1.out, h0]; rfl
        have e2 : bs = ES.bs := by rw [H2.out, if_pos h0]
        obtain ⟨Av, cv, ev, -, -, -⟩ := ho.sb
        subst e1 e2 ev
        clear ho hb5
        go_wp2_with fail
        go_ret2
        exact ⟨_, rfl, HO.out, HB5.out⟩
      · refine (wDone_failed w2.heap.size g ff r' 4096 ES W HW'.out h0).mono ?_
        rintro _ w5 ⟨rfl, hb5⟩
        have HB5 := hid (HBW4.out.trans (hb5.mono HBW4.out.size))
        have e2 : bs = [] := by rw [H2.out, if_neg h0]
        have HE := hid H1.out.symm
        subst e2
        generalize (ES.e : Int) = Z at HE ⊢
        have HE := hid (show Z = E from HE.out)
        clear hb5
        go_wp2_with fail
        go_ret2
        exact ⟨_, by rw [HE.out]; rfl, Own.nil _ _ _, HB5.out⟩
  · obtain ⟨e1, e2⟩ := HE1.out hE0
    subst e1 e2
    clear HE1 HE2
    go_wp2_with fail
    go_ret2
    exact ⟨_, rfl, Own.nil _ _ _, HBW2.out⟩
end Go.Proofs.Ytljnpaikjljmbaa
