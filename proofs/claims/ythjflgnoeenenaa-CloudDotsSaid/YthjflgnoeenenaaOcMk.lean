/- Contracts of clouds: start, raise, done, Make. Written by tools/mkoc4.py. -/
import Derived.Test.YthjflgnoeenenaaOcDrf
namespace Go.Proofs.Ythjflgnoeenenaa
open Go Go.RowKit Cl

theorem info_draft : (Try.prog.info? 86).map (fun i => (i.zero, i.size)) = some (some (.agg #[.slice none 0 0, .slice none 0 0]), 2) := by kernel_rfl
theorem info_cloud : (Try.prog.info? 25).map (fun i => (i.zero, i.size)) = some (some (.agg #[.slice none 0 0, .slice none 0 0]), 2) := by kernel_rfl
set_option maxRecDepth 20000 in
theorem ocStart_calls (w : World) : Calls Try.prog 37 #[] w fun e w' => ∃ p bf, e = .returned (.pointer (some ⟨p, 0, none⟩)) ∧ Blk w' p 86 #[.slice (some ⟨bf, 0, none⟩) 16 16, .slice none 0 0] ∧ OwnN w' w.heap.size (.slice (some ⟨bf, 0, none⟩) 16 16) 16 (List.replicate 16 0) ∧ w.heap.size ≤ p ∧ Below w.heap.size w w' := by
  have hz := (zero_of_info info_draft).1
  go_enter Try.func37, Try.ntmps37
  go_wp2_with (refine wpList_zeros_ints _ rfl _ _ rfl _ 16 rfl rfl rfl (by omega) ?_; intro w2 ho hb2; refine Held.go ?_)
  have hb3 := below_new w2 (.cells #[.slice (some ⟨w.heap.size, 0, none⟩) 16 16, .slice none 0 0] 86)
  have HF := hid (show Blk (w2.alloc (.cells #[.slice (some ⟨w.heap.size, 0, none⟩) 16 16, .slice none 0 0] 86)) w2.heap.size 86 #[.slice (some ⟨w.heap.size, 0, none⟩) 16 16, .slice none 0 0] ∧ OwnN (w2.alloc (.cells #[.slice (some ⟨w.heap.size, 0, none⟩) 16 16, .slice none 0 0] 86)) w.heap.size (.slice (some ⟨w.heap.size, 0, none⟩) 16 16) 16 (List.replicate 16 0) ∧ w.heap.size ≤ w2.heap.size ∧ Below w.heap.size w (w2.alloc (.cells #[.slice (some ⟨w.heap.size, 0, none⟩) 16 16, .slice none 0 0] 86)) from ⟨Blk.new _ _ _, ho.keep hb3, hb2.size, hb2.trans (hb3.mono hb2.size)⟩)
  clear ho hb2 hb3
  unfold Held
  go_wp2_with fail
  go_ret
  exact ⟨_, _, rfl, HF.out⟩
theorem joinV_pad {v : List Int} (h : ∀ x ∈ v, 0 ≤ x ∧ x ≤ 1048576) (hl : v.length ≤ 16) : joinV (List.replicate 16 0) v = pad v := by
  refine List.ext_getElem (by rw [joinV_length, pad_len hl]; simp; omega) fun i h1 h2 => ?_
  rw [pad_len hl] at h2
  have h3 : (joinV (List.replicate 16 0) v)[i] = max (nth (List.replicate 16 0) i) (nth v i) := by simp [joinV]
  have h4 : nth (List.replicate 16 0) i = 0 := by unfold nth; rw [List.getD_eq_getElem?_getD, List.getElem?_replicate, if_pos h2]; rfl
  have h5 : frs (pad v) ((i : Int) + 1) = (pad v)[i]'(by rw [pad_len hl]; exact h2) := by rw [frs_nat, List.getD_eq_getElem?_getD, List.getElem?_eq_getElem (by rw [pad_len hl]; exact h2)]; rfl
  have h6 := atV_frs h ((i : Int) + 1)
  rw [atV_nat] at h6
  rw [h3, h4, ← h5, frs_pad, h6]
  have := (frs_le h ((i : Int) + 1)).1
  omega
theorem joinV_max {a b : List Int} (ha : ∀ x ∈ a, 0 ≤ x ∧ x ≤ 1048576) (hb : ∀ x ∈ b, 0 ≤ x ∧ x ≤ 1048576) (hla : a.length ≤ 16) (hlb : b.length ≤ 16) : joinV (pad a) b = maxV a b := by
  refine List.ext_getElem (by rw [joinV_length, pad_len hla]; simp [maxV]; omega) fun i h1 h2 => ?_
  have h7 : i < 16 := by simpa [maxV] using h2
  have h3 : (joinV (pad a) b)[i] = max (nth (pad a) i) (nth b i) := by simp [joinV]
  have h4 : (maxV a b)[i] = max (frs a ((i : Int) + 1)) (frs b ((i : Int) + 1)) := by simp [maxV]
  have hp : ∀ x ∈ pad a, 0 ≤ x ∧ x ≤ 1048576 := fun x hx => by
    unfold pad at hx
    rcases List.mem_append.1 hx with k | k
    · exact ha x k
    · have := List.eq_of_mem_replicate k; omega
  have h5 := atV_frs hp ((i : Int) + 1)
  have h6 := atV_frs hb ((i : Int) + 1)
  rw [atV_nat] at h5 h6
  rw [h3, h5, h6, frs_pad]
  exact h4.symm
set_option maxRecDepth 20000 in
set_option maxHeartbeats 1000000 in
theorem ocRaise_calls (p bf cf n c : Nat) (A : Option Addr) (f v : List Int) (vd : Value) (w : World) (h : Blk w p 86 #[.slice (some ⟨bf, 0, none⟩) 16 cf, vd]) (h1 : NI w (some ⟨bf, 0, none⟩) 16 f) (h2 : NI w A n v) (hn : n ≤ 16) :
    Calls Try.prog 38 #[.pointer (some ⟨p, 0, none⟩), .slice A n c] w fun e w' => e = .returned (.pointer (some ⟨p, 0, none⟩)) ∧ ∃ bf2 cf2, Blk w' p 86 #[.slice (some ⟨bf2, 0, none⟩) 16 cf2, vd] ∧ OwnN w' w.heap.size (.slice (some ⟨bf2, 0, none⟩) 16 cf2) 16 (joinV f v) ∧ w.grownBy w' (some p) := by
  have HJ := hid (join_calls 16 cf n c (some ⟨bf, 0, none⟩) A f v w h1 h2 (by omega) (by omega))
  have HK := hid h
  have c0 := h.cell 0 rfl
  clear h h1 h2
  go_enter Try.func38, Try.ntmps38
  go_wp2_with fail
  refine HJ.out.mono ?_
  rintro e W ⟨v2, rfl, ho, hb⟩
  rw [show max 16 n = 16 by omega] at ho
  obtain ⟨A2, c2, rfl, _, hni, hal⟩ := ho.ni
  obtain ⟨b2, o2, _, rfl, _⟩ := hni.at_ (show 0 < 16 by omega)
  obtain ⟨_, rfl⟩ := hal b2 o2 rfl
  have hk := HK.out.keep hb
  have c1 := hk.cell 0 rfl
  have f1 := hk.frozen 0
  have hg := grown_setCell W p 0 (.slice (some ⟨b2, 0, none⟩) 16 c2)
  have hpw : p < w.heap.size := HK.out.lt
  have hl2 := ho.lt b2 rfl
  have HF := hid (show Blk (W.setCell ⟨p, 0, none⟩ (.slice (some ⟨b2, 0, none⟩) 16 c2)) p 86 #[.slice (some ⟨b2, 0, none⟩) 16 c2, vd] ∧ OwnN (W.setCell ⟨p, 0, none⟩ (.slice (some ⟨b2, 0, none⟩) 16 c2)) w.heap.size (.slice (some ⟨b2, 0, none⟩) 16 c2) 16 (joinV f v) ∧ w.grownBy (W.setCell ⟨p, 0, none⟩ (.slice (some ⟨b2, 0, none⟩) 16 c2)) (some p) from by
    refine ⟨by have := hk.set_ 0 (.slice (some ⟨b2, 0, none⟩) 16 c2); simpa using this, ho.kept hg (.inr fun e => ?_), ?_⟩
    · have e2 : some b2 = some p := e
      injection e2 with e2
      omega
    · have hgb := grown_of_below hb (some p)
      exact ⟨hg.os.trans hgb.os, hg.tape.trans hgb.tape, hg.output.trans hgb.output, Nat.le_trans hgb.size hg.size, fun k hk2 hne => (hg.block k (Nat.lt_of_lt_of_le hk2 hgb.size) hne).trans (hgb.block k hk2 hne)⟩)
  clear c0 ho hb hni hal hk hg hpw hl2 HJ HK
  go_wp2_with fail
  go_ret
  exact ⟨rfl, _, _, HF.out⟩
theorem doc_store {P : Program} {o : Oper} {a : Act} {w : World} {T : Value → World → Prop} (t : TypeId) (x y : Operand) (ho : o.op = .store t x y) (g : Nat) (cs : Array Value) (hx : a.eval x = .pointer (some ⟨g, 0, none⟩)) (hy : a.eval y = .agg cs)
    (t' : TypeId) (old : Array Value) (hb : Blk w g t' old) (hi : (P.info? t).map (·.size) = some cs.size) (hold : old.size = cs.size) (h1 : cs.toList.all (·.oneCell') = true) (h : T undef (w.setRow g cs)) : OpDoes P o a w T :=
  fun _ _ hK => wp_store_row t x y ho g cs hx hy t' old hb hi hold (by rw [← Array.all_toList]; exact h1) (hK _ _ h)
def vDon (m : Nat) (p : Nat) (bf : Nat) (cf : Nat) (T : Nat) (Ad : Option Addr) (cd : Nat) : Nat → Unit → Value
  | 0, _ => .pointer (some ⟨p, 0, none⟩)
  | 1, _ => .pointer (some ⟨p, 0, none⟩)
  | 2, _ => .pointer (some ⟨p, 0, none⟩)
  | 3, _ => .slice (some ⟨bf, 0, none⟩) 16 cf
  | 4, _ => .slice (some ⟨bf, 0, none⟩) T cf
  | 5, _ => .pointer (some ⟨p, 0, none⟩)
  | 6, _ => .pointer (some ⟨p, 0, none⟩)
  | 7, _ => .pointer (some ⟨p, 1, none⟩)
  | 8, _ => .slice Ad m cd
  | 9, _ => .agg #[.slice (some ⟨bf, 0, none⟩) T cf, .slice Ad m cd]
  | 11, _ => .int .i64 0
  | _, _ => undef
set_option maxRecDepth 20000 in
set_option maxHeartbeats 1000000 in
theorem ocDone_calls (base p bf cf m : Nat) (s : List Int) (vd : Value) (ds : List Dt) (w : World) (h : Blk w p 86 #[.slice (some ⟨bf, 0, none⟩) 16 cf, vd]) (h1 : OwnN w base (.slice (some ⟨bf, 0, none⟩) 16 cf) 16 s) (h2 : OwnD w base vd m ds) (hm : m ≤ 4096) :
    Calls Try.prog 41 #[.pointer (some ⟨p, 0, none⟩)] w fun e w' => e = .returned (.tuple #[.agg #[.slice (some ⟨bf, 0, none⟩) (trim s).length cf, vd], .int .i64 0]) ∧ Below w.heap.size w w' := by
  have hz := (zero_of_info info_cloud).1
  obtain ⟨Ad, cd, rfl, _, hnd, _⟩ := h2.nd
  obtain ⟨A1, c1, e1, hcf, hni, _⟩ := h1.ni
  cases e1
  obtain ⟨q, hq⟩ : ∃ q, w.heap.size = q := ⟨_, rfl⟩
  have hb := below_new w (.cells #[.slice none 0 0, .slice none 0 0] 25)
  have hk := Blk.new w 25 #[.slice none 0 0, .slice none 0 0]
  have hsz := size_new w (.cells #[.slice none 0 0, .slice none 0 0] 25)
  obtain ⟨w1, hw1⟩ : ∃ w1, w.alloc (.cells #[.slice none 0 0, .slice none 0 0] 25) = w1 := ⟨_, rfl⟩
  rw [hw1] at hb hk hsz
  rw [hq] at hk
  have HW1 := hid hw1; have HQ := hid hq; have HB := hid hb; have HK := hid hk; have HP := hid (h.keep hb); have HSZ := hid hsz
  have HTR := hid (fun W (hb2 : Below w1.heap.size w1 W) => ocTrim_calls 16 cf (some ⟨bf, 0, none⟩) s W ((hni.keep hb).keep hb2) (by omega) hcf)
  obtain ⟨T, hT⟩ : ∃ T, (trim s).length = T := ⟨_, rfl⟩
  rw [hT] at HTR ⊢
  have hm' : ¬ (4096 : Int) < (m : Int) := by omega
  have c0 : (w.alloc (.cells #[.slice none 0 0, .slice none 0 0] 25)).cell? ⟨p, 1, none⟩ = some (.slice Ad m cd) := (h.keep (below_new w _)).cell 1 rfl
  clear h h1 h2 hnd hni hcf hb hk hsz hw1 hq hT
  go_enter Try.func41, Try.ntmps41
  go_wp2_with fail
  rw [HW1.out, HQ.out]
  clear c0
  refine wp_region_invG 21 () (vDon m p bf cf T Ad cd) (fun f _ W => (f 10 = false → Below w1.heap.size w1 W) ∧ (f 10 = true → Blk W q 25 #[.slice (some ⟨bf, 0, none⟩) T cf, .slice Ad m cd] ∧ Below w.heap.size w W)) (by kernel_rfl) (by kernel_rfl) (by exact Nat.le_refl 21) ?_ ?_ ?_
  · exact ⟨fun _ => (Below.refl _ _).drew, fun e => by simp at e⟩
  · intro i o f gh a W hi hf hdep hsame hcl hval hS
    rcases i with _ | _ | _ | _ | _ | _ | _ | _ | _ | _ | _ | _ | i
    all_goals simp only [List.getElem?_cons_succ, List.getElem?_cons_zero, List.getElem?_nil, Option.some.injEq, reduceCtorEq] at hi
    all_goals subst hi
    · have E0 : a.tmps[0]? = some (.pointer (some ⟨p, 0, none⟩)) := (same_of hsame 0 (by rfl)).trans rfl
      have n1 := not_yet hcl hf 1 (by rfl)
      have n2 := not_yet hcl n1 2 (by rfl)
      have n3 := not_yet hcl n2 3 (by rfl)
      have n4 := not_yet hcl n3 4 (by rfl)
      have n9 := not_yet hcl n4 9 (by rfl)
      have n10 := not_yet hcl n9 10 (by rfl)
      have NB := n10
      refine g_plain rfl ?_
      exact does_value (w' := W) (v := .pointer (some ⟨p, 0, none⟩)) (by go_simp) ⟨(), .inr rfl, ⟨fun _ => hS.1 n10, fun e => absurd e (by rw [un_ne (by decide), n10]; decide)⟩⟩
    · have E11 := hval 0 _ 11 rfl rfl (dep_of hdep 0 (by rfl))
      unfold vDon at E11
      have n2 := not_yet hcl hf 2 (by rfl)
      have n3 := not_yet hcl n2 3 (by rfl)
      have n4 := not_yet hcl n3 4 (by rfl)
      have n9 := not_yet hcl n4 9 (by rfl)
      have n10 := not_yet hcl n9 10 (by rfl)
      have NB := n10
      refine g_plain rfl ?_
      exact does_value (w' := W) (v := .pointer (some ⟨p, 0, none⟩)) (by go_simp) ⟨(), .inr rfl, ⟨fun _ => hS.1 n10, fun e => absurd e (by rw [un_ne (by decide), n10]; decide)⟩⟩
    · have E12 := hval 1 _ 12 rfl rfl (dep_of hdep 1 (by rfl))
      unfold vDon at E12
      have n3 := not_yet hcl hf 3 (by rfl)
      have n4 := not_yet hcl n3 4 (by rfl)
      have n9 := not_yet hcl n4 9 (by rfl)
      have n10 := not_yet hcl n9 10 (by rfl)
      have NB := n10
      refine g_plain rfl ?_
      exact does_value (w' := W) (v := .pointer (some ⟨p, 0, none⟩)) (by go_simp) ⟨(), .inr rfl, ⟨fun _ => hS.1 n10, fun e => absurd e (by rw [un_ne (by decide), n10]; decide)⟩⟩
    · have E13 := hval 2 _ 13 rfl rfl (dep_of hdep 2 (by rfl))
      unfold vDon at E13
      have n4 := not_yet hcl hf 4 (by rfl)
      have n9 := not_yet hcl n4 9 (by rfl)
      have n10 := not_yet hcl n9 10 (by rfl)
      have NB := n10
      have hW := hS.1 NB
      have kp := HP.out.keep hW
      have t0 := kp.cell 0 rfl
      have t1 := kp.cell 1 rfl
      refine g_plain rfl ?_
      exact does_value (w' := W) (v := .slice (some ⟨bf, 0, none⟩) 16 cf) (by go_simp) ⟨(), .inr rfl, ⟨fun _ => hS.1 n10, fun e => absurd e (by rw [un_ne (by decide), n10]; decide)⟩⟩
    · have E14 := hval 3 _ 14 rfl rfl (dep_of hdep 3 (by rfl))
      unfold vDon at E14
      have n9 := not_yet hcl hf 9 (by rfl)
      have n10 := not_yet hcl n9 10 (by rfl)
      have NB := n10
      refine g_plain rfl ?_
      refine does_call 69 #[.slice (some ⟨bf, 0, none⟩) 16 cf] (by go_simp) ((HTR.out W (hS.1 NB)).mono ?_)
      rintro _ W' ⟨rfl, rfl⟩
      exact ⟨_, rfl, (), .inr rfl, ⟨fun _ => hS.1 n10, fun e => absurd e (by rw [un_ne (by decide), n10]; decide)⟩⟩
    · have E0 : a.tmps[0]? = some (.pointer (some ⟨p, 0, none⟩)) := (same_of hsame 0 (by rfl)).trans rfl
      have n6 := not_yet hcl hf 6 (by rfl)
      have n7 := not_yet hcl n6 7 (by rfl)
      have n8 := not_yet hcl n7 8 (by rfl)
      have n9 := not_yet hcl n8 9 (by rfl)
      have n10 := not_yet hcl n9 10 (by rfl)
      have NB := n10
      refine g_plain rfl ?_
      exact does_value (w' := W) (v := .pointer (some ⟨p, 0, none⟩)) (by go_simp) ⟨(), .inr rfl, ⟨fun _ => hS.1 n10, fun e => absurd e (by rw [un_ne (by decide), n10]; decide)⟩⟩
    · have E16 := hval 5 _ 16 rfl rfl (dep_of hdep 5 (by rfl))
      unfold vDon at E16
      have n7 := not_yet hcl hf 7 (by rfl)
      have n8 := not_yet hcl n7 8 (by rfl)
      have n9 := not_yet hcl n8 9 (by rfl)
      have n10 := not_yet hcl n9 10 (by rfl)
      have NB := n10
      refine g_plain rfl ?_
      exact does_value (w' := W) (v := .pointer (some ⟨p, 0, none⟩)) (by go_simp) ⟨(), .inr rfl, ⟨fun _ => hS.1 n10, fun e => absurd e (by rw [un_ne (by decide), n10]; decide)⟩⟩
    · have E17 := hval 6 _ 17 rfl rfl (dep_of hdep 6 (by rfl))
      unfold vDon at E17
      have n8 := not_yet hcl hf 8 (by rfl)
      have n9 := not_yet hcl n8 9 (by rfl)
      have n10 := not_yet hcl n9 10 (by rfl)
      have NB := n10
      refine g_plain rfl ?_
      exact does_value (w' := W) (v := .pointer (some ⟨p, 1, none⟩)) (by go_simp) ⟨(), .inr rfl, ⟨fun _ => hS.1 n10, fun e => absurd e (by rw [un_ne (by decide), n10]; decide)⟩⟩
    · have E18 := hval 7 _ 18 rfl rfl (dep_of hdep 7 (by rfl))
      unfold vDon at E18
      have n9 := not_yet hcl hf 9 (by rfl)
      have n10 := not_yet hcl n9 10 (by rfl)
      have NB := n10
      have hW := hS.1 NB
      have kp := HP.out.keep hW
      have t0 := kp.cell 0 rfl
      have t1 := kp.cell 1 rfl
      refine g_plain rfl ?_
      exact does_value (w' := W) (v := .slice Ad m cd) (by go_simp) ⟨(), .inr rfl, ⟨fun _ => hS.1 n10, fun e => absurd e (by rw [un_ne (by decide), n10]; decide)⟩⟩
    · have E15 := hval 4 _ 15 rfl rfl (dep_of hdep 4 (by rfl))
      have E19 := hval 8 _ 19 rfl rfl (dep_of hdep 8 (by rfl))
      unfold vDon at E15 E19
      have n10 := not_yet hcl hf 10 (by rfl)
      have NB := n10
      refine g_plain rfl ?_
      exact does_value (w' := W) (v := .agg #[.slice (some ⟨bf, 0, none⟩) T cf, .slice Ad m cd]) (by go_simp) ⟨(), .inr rfl, ⟨fun _ => hS.1 n10, fun e => absurd e (by rw [un_ne (by decide), n10]; decide)⟩⟩
    · have E20 := hval 9 _ 20 rfl rfl (dep_of hdep 9 (by rfl))
      have E2 : a.tmps[2]? = some (.pointer (some ⟨q, 0, none⟩)) := (same_of hsame 2 (by rfl)).trans rfl
      unfold vDon at E20
      refine g_plain rfl ?_
      have hW := hS.1 hf
      have hq := HK.out.keep hW
      exact doc_store 25 _ _ rfl q #[.slice (some ⟨bf, 0, none⟩) T cf, .slice Ad m cd] (by rw [eval_getD, E2]; rfl) (by rw [eval_getD, E20]; rfl) 25 _ hq (by kernel_rfl) rfl (by rfl) ⟨(), .inl rfl, (fun e => by rw [un_eq] at e; cases e), fun _ => ⟨hq.setRow _, (HB.out.trans (hW.mono HB.out.size)).trans (below_of_grown (grown_setRow _ _ _) (Nat.le_trans HB.out.size hW.size) (fun b e => by injection e with e; have := HQ.out; omega))⟩⟩
    · refine g_plain rfl ?_
      exact does_value (w' := W) (v := .int .i64 0) (by go_simp) ⟨(), .inr rfl, ⟨fun e => hS.1 (by rwa [un_ne (by decide)] at e), fun e => hS.2 (by rwa [un_ne (by decide)] at e)⟩⟩
  · intro gh W hS
    have HF := hid (hS.2 rfl)
    clear hS
    simp only [putAll, vDon, Nat.reduceAdd, Nat.zero_add, Act.put, List.setIfInBounds_toArray, List.set_cons_zero, List.set_cons_succ]
    go_wp2_with fail
    refine bodyPost_ret (v := .tuple #[.agg #[.slice (some ⟨bf, 0, none⟩) T cf, .slice Ad m cd], .int .i64 0]) (results_cloud_tmp rfl _ _ q _ rfl rfl rfl HF.out.1) rfl ?_
    exact ⟨rfl, HF.out.2⟩
set_option maxRecDepth 20000 in
set_option maxHeartbeats 2000000 in
theorem ocMake_calls (n c m e : Nat) (A B : Option Addr) (v : List Int) (ds : List Dt) (w : World) (h1 : NI w A n v) (h2 : ND w B m ds) (hn : n ≤ 1000000) (hm : m ≤ 4096) :
    Calls Try.prog 13 #[.slice A n c, .slice B m e] w fun x w' => ∃ V D, x = .returned (.tuple #[.agg #[V, D], .int .i64 (makeC v ds).2]) ∧ OwnN w' w.heap.size V (makeC v ds).1.1.length (makeC v ds).1.1 ∧ OwnD w' w.heap.size D (makeC v ds).1.2.length (makeC v ds).1.2 ∧ (∀ b, V.ownBlock = some b → D.ownBlock ≠ some b) ∧ Below w.heap.size w w' := by
  have hz := (zero_of_info info_cloud).1
  have hb := below_new w (.cells #[.slice none 0 0, .slice none 0 0] 25)
  have hk := Blk.new w 25 #[.slice none 0 0, .slice none 0 0]
  have hs := size_new w (.cells #[.slice none 0 0, .slice none 0 0] 25)
  obtain ⟨w1, hw1⟩ : ∃ w1, w.alloc (.cells #[.slice none 0 0, .slice none 0 0] 25) = w1 := ⟨_, rfl⟩
  have HW1 := hid hw1
  rw [hw1] at hb hk hs
  have HB := hid hb; have HK := hid hk; have HS := hid hs
  have H1 := hid (h1.keep hb); have H2 := hid (h2.keep hb)
  have L1 := hid h1.1; have L2 := hid h2.1
  have HRG := hid (ocInRange_calls n c m e A B v ds w1 H1.out H2.out hn (by omega))
  obtain ⟨p, hp⟩ : ∃ p, w.heap.size = p := ⟨_, rfl⟩
  have HPP := hid hp
  clear h1 h2 hw1 hb hk hs hp
  by_cases hr : ranged v ds
  · rw [decide_eq_true hr] at HRG
    have HRA := hid hr
    have hn16 : n ≤ 16 := by rw [← L1.out]; exact hr.1
    have hlen : (formedV v ds).2.length ≤ 4096 := by have := formed_len v ds; rw [L2.out] at this; omega
    rw [make_ok hr (by rw [L2.out]; omega)]
    clear hr
    go_enter Try.func13, Try.ntmps13
    go_wp2_with fail
    rw [HW1.out, HPP.out]
    refine HRG.out.mono ?_
    rintro y W2 ⟨rfl, hb2⟩
    have HB2 := hid hb2
    have H12 := hid (H1.out.keep hb2); have H22 := hid (H2.out.keep hb2)
    clear hb2 HRG
    go_wp2_with fail
    refine (ocStart_calls W2).mono ?_
    rintro y W3 ⟨p3, bf3, rfl, hk3, ho3, hl3, hb3⟩
    have HB3 := hid hb3; have HL3 := hid hl3; have HLT3 := hid (hk3.lt)
    have HRS := hid (ocRaise_calls p3 bf3 16 n c A _ v _ W3 hk3 (by obtain ⟨A1, c1, e1, _, hni, _⟩ := ho3.ni; cases e1; exact hni) (H12.out.keep hb3) hn16)
    clear hk3 ho3 hl3 hb3
    go_wp2_with fail
    refine HRS.out.mono ?_
    rintro y W4 ⟨rfl, bf4, cf4, hk4, ho4, hg4⟩
    rw [joinV_pad HRA.out.2.1 (by rw [L1.out]; exact hn16)] at ho4
    have hb24 : Below W2.heap.size W2 W4 := HB3.out.trans (below_of_grown hg4 HB3.out.size (fun b e => by injection e with e; have := HL3.out; omega))
    have HB24 := hid hb24; have HK4 := hid hk4; have HO4 := hid ho4; have HG4 := hid hg4.size
    have HSO := hid (dsorted_calls m e B ds W4 (H22.out.keep hb24) (by omega))
    clear hk4 ho4 hg4 hb24 HRS
    go_wp2_with fail
    refine HSO.out.mono ?_
    rintro y W5 ⟨A5, c5, l, rfl, hnd5, hlo5, hpm, hasc, hb5⟩
    have HB5 := hid hb5; have HPM := hid hpm; have HAS := hid hasc
    have hp3 : p3 < W4.heap.size := HK4.out.lt
    have hbf4 := HO4.out.lt bf4 rfl
    have HAB := hid (show AbS W5 W2.heap.size p3 bf4 cf4 (pad v, []) (.slice none 0 0) W5 from {
      low := ⟨HL3.out, by have := hb5.size; omega, by have := hb5.size; omega⟩
      bel := Below.refl _ _
      oth := fun _ _ _ _ => rfl
      blk := HK4.out.keep hb5
      num := (HO4.out.keep hb5).lower HB3.out.size
      dts := OwnD.nil _ _ })
    have HAC := hid (ocAbsorb_calls W2.heap.size p3 bf4 cf4 m c5 A5 (pad v) l W5 HAB.out (by have := HB3.out.size; omega) hnd5 (by omega) (fun b off e _ => by
      have := hlo5 b off e
      exact ⟨by omega, by omega⟩) (fun x hx => by
        unfold pad at hx
        rcases List.mem_append.1 hx with k | k
        · exact HRA.out.2.1 x k
        · have := List.eq_of_mem_replicate k; omega) (fun d hd => HRA.out.2.2 d (hpm.mem_iff.1 hd)))
    have HLL := hid hnd5.1
    clear hnd5 hlo5 hpm hasc hb5 hp3 hbf4 HSO HK4 HO4 HG4
    go_wp2_with fail
    refine HAC.out.mono ?_
    rintro y W6 ⟨rfl, vd, hab⟩
    have hfm := abs_formed (v := v) (ds := ds) HAS.out (fun x => HPM.out.mem_iff)
    rw [HLL.out] at hfm
    obtain ⟨F, hF⟩ : ∃ F, formedV v ds = F := ⟨_, rfl⟩
    have HF := hid hF
    rw [hF] at hfm hlen
    obtain ⟨sv, hsv⟩ : ∃ sv, absI (pad v) l m = sv := ⟨_, rfl⟩
    rw [hsv] at hab hfm
    have e2 : sv.2 = F.2 := by rw [← hfm]
    have e1 : trim sv.1 = F.1 := by rw [← hfm]
    have HE1 := hid e1
    have hab2 := hab.dts
    rw [e2] at hab2
    have HDN := hid (ocDone_calls W2.heap.size p3 bf4 cf4 F.2.length sv.1 vd F.2 W6 hab.blk hab.num (hab2.lower (by have := hab.low; have := hab.bel.size; omega)) (by omega))
    rw [e1] at HDN
    obtain ⟨A6, c6, rfl, _⟩ := hab2.nd
    have HAB6 := hid hab; have HD6 := hid (hab2.lower (show W2.heap.size ≤ W5.heap.size by have := hab.low; have := hab.bel.size; omega))
    have HN6 := hid (show OwnN W6 W2.heap.size (.slice (some ⟨bf4, 0, none⟩) F.1.length cf4) F.1.length F.1 from by
      have h5 := trim_pre sv.1
      have h6 := trim_len sv.1
      rw [hab.num.len, e1] at h6
      rw [e1] at h5
      have := hab.num.front (k := F.1.length) (by omega)
      rw [← h5] at this
      exact this)
    have HNE := hid (show ∀ b, (Value.slice (some ⟨bf4, 0, none⟩) F.1.length cf4).ownBlock = some b → (Value.slice A6 F.2.length c6).ownBlock ≠ some b from fun b e e5 => by
      have e : some bf4 = some b := e
      injection e with e
      subst e
      obtain ⟨_, k1⟩ := hab.num.blk
      obtain ⟨_, k2⟩ := hab2.blk e5
      exact blk_ne k1 k2 (by decide) rfl)
    have HBL := hid (show Below W2.heap.size W2 W6 from (HB24.out.trans (HB5.out.mono HB24.out.size)).trans hab.bel)
    clear hab hab2 hfm e1 e2 hF hsv HAC HAB HAB6
    go_wp2_with fail
    refine HDN.out.mono ?_
    rintro y W7 ⟨rfl, hb7⟩
    have HB7 := hid hb7
    have HKP := hid (show Blk W7 p 25 #[.slice none 0 0, .slice none 0 0] from by
      rw [← HPP.out]; exact ((HK.out.keep HB2.out).keepB HBL.out (by have := HK.out.lt; have := HB2.out.size; omega)).keep hb7)
    have HFIN := hid (show ∀ W, W = W7.setRow p #[.slice (some ⟨bf4, 0, none⟩) F.1.length cf4, .slice A6 F.2.length c6] → OwnN W w.heap.size (.slice (some ⟨bf4, 0, none⟩) F.1.length cf4) F.1.length F.1 ∧ OwnD W w.heap.size (.slice A6 F.2.length c6) F.2.length F.2 ∧ (∀ b, (Value.slice (some ⟨bf4, 0, none⟩) F.1.length cf4).ownBlock = some b → (Value.slice A6 F.2.length c6).ownBlock ≠ some b) ∧ Below w.heap.size w W from by
      rintro W rfl
      have z1 := HB.out.size; have z2 := HB2.out.size; have z3 := HBL.out.size; have z0 := HS.out; have z7 := HB7.out.size
      have hp1 := HPP.out
      have g2 := grown_setRow W7 p #[.slice (some ⟨bf4, 0, none⟩) F.1.length cf4, .slice A6 F.2.length c6]
      refine ⟨((HN6.out.keep HB7.out).kept g2 (.inr fun e => ?_)).lower (by omega), ((HD6.out.keep HB7.out).kept g2 (.inr fun e => ?_)).lower (by omega), HNE.out, ?_⟩
      · have := (HN6.out.lt p e).1; omega
      · have := (HD6.out.lt p e).1; omega
      · exact (((HB.out.trans (HB2.out.mono z1)).trans (HBL.out.mono (by omega))).trans (HB7.out.mono (by omega))).trans (below_of_grown g2 (by omega) (fun b e => by injection e with e; omega)))
    clear hb7 HDN HN6 HD6 HBL
    go_wp2_with (refine wpList_store_blk rfl 25 _ _ rfl p #[.slice (some ⟨bf4, 0, none⟩) F.1.length cf4, .slice A6 F.2.length c6] rfl rfl 25 _ HKP.out (by kernel_rfl) rfl (by rfl) ?_; refine Held.go ?_)
    have HKR := hid (HKP.out.setRow #[.slice (some ⟨bf4, 0, none⟩) F.1.length cf4, .slice A6 F.2.length c6])
    unfold Held
    go_wp2_with fail
    refine bodyPost_ret (v := .tuple #[.agg #[.slice (some ⟨bf4, 0, none⟩) F.1.length cf4, .slice A6 F.2.length c6], .int .i64 0]) (results_cloud_tmp rfl _ _ p _ rfl rfl rfl HKR.out) rfl ?_
    rw [HF.out]
    exact ⟨_, _, rfl, HFIN.out _ rfl⟩
  · rw [decide_eq_false hr] at HRG
    have HM := hid (make_bad hr)
    clear hr
    go_enter Try.func13, Try.ntmps13
    go_wp2_with fail
    rw [HW1.out, HPP.out]
    refine HRG.out.mono ?_
    rintro y W2 ⟨rfl, hb2⟩
    have HB2 := hid hb2
    have HK2 := hid (show Blk W2 p 25 _ from by rw [← HPP.out]; exact HK.out.keep hb2)
    clear hb2 HRG
    go_wp2_with (refine wpList_store_blk rfl 25 _ _ rfl p #[.slice none 0 0, .slice none 0 0] rfl rfl 25 _ HK2.out (by kernel_rfl) rfl (by rfl) ?_; refine Held.go ?_)
    have HK3 := hid (HK2.out.setRow #[.slice none 0 0, .slice none 0 0])
    have HF := hid (show Below w.heap.size w (W2.setRow p #[.slice none 0 0, .slice none 0 0]) from (HB.out.trans (HB2.out.mono HB.out.size)).trans (below_of_grown (grown_setRow _ _ _) (Nat.le_trans HB.out.size HB2.out.size) (fun b e => by injection e with e; have := HPP.out; omega)))
    unfold Held
    go_wp2_with fail
    refine bodyPost_ret (v := .tuple #[.agg #[.slice none 0 0, .slice none 0 0], .int .i64 3]) (results_cloud_tmp rfl _ _ p _ rfl rfl rfl HK3.out) rfl ?_
    rw [HM.out, ← HPP.out]
    rw [← HPP.out] at HF
    exact ⟨_, _, rfl, OwnN.nil _ _, OwnD.nil _ _, (fun b e => by cases e), HF.out⟩
end Go.Proofs.Ythjflgnoeenenaa
