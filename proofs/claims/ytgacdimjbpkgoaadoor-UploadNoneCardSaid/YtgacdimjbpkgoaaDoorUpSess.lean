/- Contracts: a session of uploads: a piece more, a new one. -/
import Derived.Test.YtgacdimjbpkgoaaDoorUpLow
import Derived.Test.YtgacdimjbpkgoaaDoorUpStr
import Derived.Test.YtgacdimjbpkgoaaDoorAppS
namespace Go.Proofs.YtgacdimjbpkgoaaDoor
open Go.RowKit

theorem up_eql_nil {P : Program} (w : World) (t e : TypeId) (a : Option Addr) (n c : Nat) (h : P.underlying t = some (.slice e)) :
    (binOp .eql t (.slice a n c) (.slice none 0 0)).run P w = .ok (.bool a.isNone) w := by
  have hq : ∀ d : Nat, (Op.equalIn (d + 1) t (.slice a n c) (.slice none 0 0)).run P w = .ok a.isNone w := fun d => by
    cases a <;> simp [Op.equalIn, run_underlying h]
  simp only [binOp]
  simp [Op.equal, Op.maxDepth, hq 9999]
theorem up_info_u8 : (Tryd.prog.info? 5).map (fun i => (i.zero, i.size, i.bytes)) = some (some (.int .u8 0), 1, 1) := by kernel_rfl
theorem up_info_row : (Tryd.prog.info? 22).map (fun i => (i.zero, i.size, i.bytes)) = some (some (.slice none 0 0), 1, 24) := by kernel_rfl
set_option maxRecDepth 20000 in
theorem up_bclone (B n c : Nat) (A : Option Addr) (bs : List UInt8) (w : World) (hs : SB w B A n bs) (hn : n ≤ 1099511627776) :
    Calls Tryd.prog 49 #[.slice A n c] w fun e w' => ∃ v, e = .returned v ∧ Own w' w.heap.size 5 v n bs ∧ Below w.heap.size w w' := by
  cases A with
  | none =>
    have hn0 : n = 0 := by
      rcases Nat.eq_zero_or_pos n with h | h
      · exact h
      · obtain ⟨_, _, e, _⟩ := hs.2 h; cases e
    subst hn0
    obtain rfl : bs = [] := List.eq_nil_of_length_eq_zero hs.1
    clear hs
    have hq := fun w => up_eql_nil (P := Tryd.prog) w 22 5 none 0 c Tryd.underlying22
    go_enter Tryd.func49, Tryd.ntmps49
    go_wp2_with fail
    go_ret
    exact ⟨_, rfl, Own.nil _ _ _, Below.refl _ _⟩
  | some a =>
    have HS := hid hs
    clear hs
    have hq := fun w => up_eql_nil (P := Tryd.prog) w 22 5 (some a) n c Tryd.underlying22
    go_enter Tryd.func49, Tryd.ntmps49
    go_wp2_with (at_builtin; refine Held.go ?_)
    have ho := Own.lit w 5 w.heap.size [] #[] 0 rfl rfl (Nat.le_refl _) (by omega)
    have hb := below_new w (.cells #[] 5)
    generalize w.alloc (.cells #[] 5) = w1 at ho hb ⊢
    refine wpList_append_bytes _ rfl _ _ _ rfl _ Tryd.underlying22 up_info_u8 w.heap.size _ 0 [] rfl ho B _ n c bs rfl (HS.out.keep hb) (by omega) hb.size ?_
    intro v' w' h1 h2 h3
    have HK := hid (show Own w' w.heap.size 5 v' n bs ∧ Below w.heap.size w w' from ⟨by simpa using h1, hb.trans (below_of_grown h2 hb.size (fun g e => (ho.block g e).1))⟩)
    clear h1 h2 h3 ho hb
    go_wp2_with fail
    go_ret
    exact ⟨v', rfl, HK.out⟩
/-- a session of the document's -/
structure US where
  n : Int
  repo : ByteArray
  ps : List (List UInt8)
def US.len (s : US) : Nat := s.ps.flatten.length
def US.push (s : US) (bs : List UInt8) : US := if bs = [] then s else { s with ps := s.ps ++ [bs] }
def seCells (s : US) (pv : Value) : Array Value := #[.int .i64 s.n, .string s.repo, pv, .int .i64 (s.len : Int)]
def upBlocks (q : Nat) (pv : Value) (us : List Value) : List Nat := q :: (pv.ownBlock.toList ++ us.flatMap fun u => u.ownBlock.toList)
/-- a session in memory -/
structure SessB (w : World) (base q : Nat) (s : US) (pv : Value) (us : List Value) : Prop where
  hd : Blk w q 74 (seCells s pv)
  recs : Recs w base pv s.ps us
  far : ∀ b, (pv.ownBlock = some b ∨ ∃ u ∈ us, u.ownBlock = some b) → b ≠ q
  hq : base ≤ q
  pos : ∀ x ∈ s.ps, x ≠ []
theorem up_recs_chg {w w' : World} {B : Nat} {L : List Nat} {v : Value} {l : List (List UInt8)} {us : List Value} (h : Recs w B v l us) (hc : Chg L w w') (hL : ∀ b, (v.ownBlock = some b ∨ ∃ u ∈ us, u.ownBlock = some b) → b ∉ L) : Recs w' B v l us where
  row := by
    have hlt0 := World.ownsRow.lt h.row
    rcases h.row with ⟨h1, ⟨hv, h0⟩ | ⟨g', cap, cur, hv, hb, hlt, r⟩⟩
    · exact ⟨h1, .inl ⟨hv, h0⟩⟩
    · have e := hc.block g' (hlt0 g' (by rw [hv]; rfl)).2 (hL g' (.inl (by rw [hv]; rfl)))
      exact ⟨h1, .inr ⟨g', cap, cur, hv, hb, e.trans hlt, r⟩⟩
  each := fun k x u hx hu => (h.each k x u hx hu).chg hc (fun g e => hL g (.inr ⟨u, List.mem_of_getElem? hu, e⟩))
  far := h.far
section
variable {w w' : World} {base q : Nat} {s : US} {pv : Value} {us : List Value} {L : List Nat}
theorem mem_upBlocks {b : Nat} : b ∈ upBlocks q pv us ↔ b = q ∨ pv.ownBlock = some b ∨ ∃ u ∈ us, u.ownBlock = some b := by
  unfold upBlocks
  simp only [List.mem_cons, List.mem_append, Option.mem_toList, List.mem_flatMap]
theorem SessB.chg (h : SessB w base q s pv us) (hc : Chg L w w') (hL : ∀ b ∈ upBlocks q pv us, b ∉ L) : SessB w' base q s pv us where
  hd := h.hd.chg hc (hL q (mem_upBlocks.2 (.inl rfl)))
  recs := up_recs_chg h.recs hc (fun b hb => hL b (mem_upBlocks.2 (.inr hb)))
  far := h.far
  hq := h.hq
  pos := h.pos
theorem SessB.keep (h : SessB w base q s pv us) (hb : Below w.heap.size w w') : SessB w' base q s pv us := h.chg (L := []) (Chg.of_below hb) (fun _ _ hm => by cases hm)
theorem SessB.lt (h : SessB w base q s pv us) : ∀ b ∈ upBlocks q pv us, base ≤ b ∧ b < w.heap.size := fun b hb => by
  rcases mem_upBlocks.1 hb with rfl | hb
  · exact ⟨h.hq, h.hd.lt⟩
  · exact h.recs.lt b hb
end
theorem flat_pos (l : List (List UInt8)) (h : ∀ x ∈ l, x ≠ []) : l.length ≤ l.flatten.length := by
  induction l with
  | nil => simp
  | cons x r ih =>
    have h1 := ih (fun y hy => h y (List.mem_cons_of_mem _ hy))
    have h2 : 0 < x.length := List.length_pos_iff.2 (h x (List.mem_cons_self ..))
    simp only [List.flatten_cons, List.length_append, List.length_cons]
    omega
/-- the clone of a piece -/
def AdP (w1 : World) (base n : Nat) (bs : List UInt8) (v : Value) (W : World) : Prop := Own W base 5 v n bs ∧ ∀ b, v.ownBlock = some b → w1.heap.size ≤ b
def AdN (v : Value) (B : Nat) : Prop := ∀ b, v.ownBlock = some b → b < B
theorem adp_st {w : World} {base q n : Nat} {s : US} {pv : Value} {us : List Value} {bs : List UInt8} (h : SessB w base q s pv us) : ∀ v W W', w.heap.size ≤ W.heap.size → Chg (q :: pv.ownBlock.toList) W W' → AdP w base n bs v W → AdP w base n bs v W' := fun v W W' _ hc hp =>
  ⟨hp.1.chg hc (fun g e hm => by
    have h1 := hp.2 g e
    rcases List.mem_cons.1 hm with rfl | hm
    · have := h.hd.lt; omega
    · have := (h.recs.lt g (.inl (by simpa using hm))).2; omega), hp.2⟩
def addVal (q n c : Nat) (A : Option Addr) (pv : Value) : Nat → Value → Value
  | 0, _ => .pointer (some ⟨q, 0, none⟩)
  | 1, _ => .pointer (some ⟨q, 0, none⟩)
  | 2, _ => .pointer (some ⟨q, 0, none⟩)
  | 3, _ => .pointer (some ⟨q, 2, none⟩)
  | 4, _ => pv
  | 5, _ => .slice A n c
  | 6, k => k
  | 7, k => k
  | 8, k => k
  | 9, _ => .pointer (some ⟨q, 0, none⟩)
  | 10, _ => .pointer (some ⟨q, 2, none⟩)
  | _, _ => undef
set_option maxRecDepth 20000 in
set_option maxHeartbeats 4000000 in
theorem up_add {w : World} {base q : Nat} {s : US} {pv : Value} {us : List Value} (A : Option Addr) (n c B : Nat) (bs : List UInt8) (h : SessB w base q s pv us) (hbs : base ≤ w.heap.size) (hs : SB w B A n bs) (hl : s.len + n ≤ 1000000) :
    Calls Tryd.prog 33 #[.pointer (some ⟨q, 0, none⟩), .slice A n c] w fun e w' => e = .returned (.tuple #[]) ∧ ∃ pv' us', SessB w' base q (s.push bs) pv' us' ∧ Chg (q :: pv.ownBlock.toList) w w' ∧ (∀ b ∈ upBlocks q pv' us', b ∈ upBlocks q pv us ∨ w.heap.size ≤ b) := by
  have hlen := hs.1
  by_cases h0 : n = 0
  · subst h0
    obtain rfl : bs = [] := List.eq_nil_of_length_eq_zero hlen
    have HH := hid h
    clear h hs hbs hl
    go_enter Tryd.func33, Tryd.ntmps33
    go_wp2_with fail
    go_end0
    exact ⟨rfl, pv, us, HH.out, Chg.refl _ _, fun b hb => .inl hb⟩
  have HH := hid h; have HBS := hid hbs
  have hpl := flat_pos s.ps h.pos
  have HCL := hid (fun W (hW : Below w.heap.size w W) => up_bclone B n c A bs W (hs.keep hW) (by omega))
  have HSZ := hid (fun (W : World) (hW : Below w.heap.size w W) => (Nat.le_trans hbs hW.size : base ≤ W.heap.size))
  obtain ⟨M, hM⟩ : ∃ M, s.ps.length = M := ⟨_, rfl⟩
  have HM := hid hM
  have HN := hid (show M ≤ 1000000 by unfold US.len at hl; omega)
  have HL := hid hl
  have HLB := hid hlen
  have hn0 : (0 : Int) < (n : Int) := by omega
  have hn1 : 0 < n := by omega
  clear h hs hbs hpl hM hl hlen
  go_enter Tryd.func33, Tryd.ntmps33
  go_wp2_with fail
  refine wp_region_invG 27 (.pointer none) (addVal q n c A pv) (ApS w base q 2 74 22 (seCells s pv) pv M us 6 7 8 11 (AdP w base n bs) AdN) (by kernel_rfl) (by kernel_rfl) (by exact Nat.le_refl 27) ?_ ?_ ?_
  · exact ApS.start w base q 2 _ _ _ _ _ _ 6 7 8 11 12 _ _ (by decide) _ HH.out.hd rfl (by rw [← HM.out]; exact HH.out.recs.row) HBS.out (fun e => HH.out.far q (.inl e) rfl) (adp_st HH.out)
  · intro i o f gh a W hi hf hdep hsame hcl hval hS
    rcases i with _ | _ | _ | _ | _ | _ | _ | _ | _ | _ | _ | _ | i
    all_goals simp only [List.getElem?_cons_succ, List.getElem?_cons_zero, List.getElem?_nil, Option.some.injEq, reduceCtorEq] at hi
    all_goals subst hi
    · have E0 : a.tmps[0]? = some (.pointer (some ⟨q, 0, none⟩)) := (same_of hsame 0 (by rfl)).trans rfl
      refine g_plain rfl ?_
      exact does_value (w' := W) (v := .pointer (some ⟨q, 0, none⟩)) (by go_simp) ⟨.pointer none, .inr rfl, hS.step (Below.refl _ _) 0 (.pointer none) (by decide) (by decide) (by decide) (by decide)⟩
    · have E0 : a.tmps[0]? = some (.pointer (some ⟨q, 0, none⟩)) := (same_of hsame 0 (by rfl)).trans rfl
      refine g_plain rfl ?_
      exact does_value (w' := W) (v := .pointer (some ⟨q, 0, none⟩)) (by go_simp) ⟨.pointer none, .inr rfl, hS.step (Below.refl _ _) 1 (.pointer none) (by decide) (by decide) (by decide) (by decide)⟩
    · have E8 := hval 1 _ 8 rfl rfl (dep_of hdep 1 (by rfl))
      unfold addVal at E8
      refine g_plain rfl ?_
      exact does_value (w' := W) (v := .pointer (some ⟨q, 0, none⟩)) (by go_simp) ⟨.pointer none, .inr rfl, hS.step (Below.refl _ _) 2 (.pointer none) (by decide) (by decide) (by decide) (by decide)⟩
    · have E9 := hval 2 _ 9 rfl rfl (dep_of hdep 2 (by rfl))
      unfold addVal at E9
      refine g_plain rfl ?_
      exact does_value (w' := W) (v := .pointer (some ⟨q, 2, none⟩)) (by go_simp) ⟨.pointer none, .inr rfl, hS.step (Below.refl _ _) 3 (.pointer none) (by decide) (by decide) (by decide) (by decide)⟩
    · have E10 := hval 3 _ 10 rfl rfl (dep_of hdep 3 (by rfl))
      unfold addVal at E10
      have n8 := not_yet hcl hf 8 (by rfl)
      have n11 := not_yet hcl n8 11 (by rfl)
      have c0 := hS.cell n11
      refine g_plain rfl ?_
      exact does_value (w' := W) (v := pv) (by go_simp) ⟨.pointer none, .inr rfl, hS.step (Below.refl _ _) 4 (.pointer none) (by decide) (by decide) (by decide) (by decide)⟩
    · have E1 : a.tmps[1]? = some (.slice A n c) := (same_of hsame 1 (by rfl)).trans rfl
      refine g_plain rfl ?_
      exact does_value (w' := W) (v := .slice A n c) (by go_simp) ⟨.pointer none, .inr rfl, hS.step (Below.refl _ _) 5 (.pointer none) (by decide) (by decide) (by decide) (by decide)⟩
    · have E12 := hval 5 _ 12 rfl rfl (dep_of hdep 5 (by rfl))
      unfold addVal at E12
      refine g_plain rfl ?_
      refine does_call 49 #[.slice A n c] (by go_simp) ((HCL.out W (hS.pre hf)).mono ?_)
      rintro _ W' ⟨v, rfl, ho, hb⟩
      exact ⟨v, rfl, v, .inr rfl, hS.call hf (by decide) (by decide) (by decide) hb v ⟨ho.lower (HSZ.out W (hS.pre hf)), fun b e => Nat.le_trans hS.chg.size ((World.ownsRow.lt ho b e).1)⟩⟩
    · have E13 := hval 6 _ 13 rfl rfl (dep_of hdep 6 (by rfl))
      unfold addVal at E13
      refine g_plain rfl ?_
      obtain ⟨Av, cv, ev, -, -, -⟩ := (hS.post (dep_of hdep 6 (by rfl))).1.sb
      rw [ev] at E13
      have hB := hS.build (dep_of hdep 6 (by rfl)) hf (by decide) (by decide) (by decide)
      rw [ev] at hB
      exact does_value (w' := W.alloc (.cells #[.slice Av n cv] 22)) (v := .slice (some ⟨W.heap.size, 0, none⟩) 1 1) (by go_simp) ⟨.slice (some ⟨W.heap.size, 0, none⟩) 1 1, .inr rfl, hB⟩
    · have E11 := hval 4 _ 11 rfl rfl (dep_of hdep 4 (by rfl))
      have E14 := hval 7 _ 14 rfl rfl (dep_of hdep 7 (by rfl))
      unfold addVal at E11 E14
      refine g_plain rfl ?_
      have hpost := hS.post ((hS.lit (dep_of hdep 7 (by rfl))).1)
      obtain ⟨Av, cv, ev, -, -, -⟩ := hpost.1.sb
      obtain ⟨qq, v', W', e6, hr, hS'⟩ := hS.app (P := Tryd.prog) (dep_of hdep 7 (by rfl)) hf (by decide) (by decide) (by decide) 72 72 Tryd.underlying72 up_info_row rfl HN.out (by decide) (by rw [ev]; rfl) (fun b e => (World.ownsRow.lt hpost.1 b e).2)
      rw [e6] at E14
      exact does_append _ _ _ rfl (by rw [eval_getD, E11]; rfl) (by rw [eval_getD, E14]; rfl) hr ⟨v', .inr rfl, hS'⟩
    · have E7 := hval 0 _ 7 rfl rfl (dep_of hdep 0 (by rfl))
      unfold addVal at E7
      refine g_plain rfl ?_
      exact does_value (w' := W) (v := .pointer (some ⟨q, 0, none⟩)) (by go_simp) ⟨.pointer none, .inr rfl, hS.step (Below.refl _ _) 9 (.pointer none) (by decide) (by decide) (by decide) (by decide)⟩
    · have E16 := hval 9 _ 16 rfl rfl (dep_of hdep 9 (by rfl))
      unfold addVal at E16
      refine g_plain rfl ?_
      exact does_value (w' := W) (v := .pointer (some ⟨q, 2, none⟩)) (by go_simp) ⟨.pointer none, .inr rfl, hS.step (Below.refl _ _) 10 (.pointer none) (by decide) (by decide) (by decide) (by decide)⟩
    · have E17 := hval 10 _ 17 rfl rfl (dep_of hdep 10 (by rfl))
      have E15 := hval 8 _ 15 rfl rfl (dep_of hdep 8 (by rfl))
      unfold addVal at E17 E15
      refine g_plain rfl ?_
      obtain ⟨g2, c2, e7⟩ := hS.form (dep_of hdep 8 (by rfl))
      rw [e7] at E15
      have c0 := hS.cell hf; have z0 := hS.frozen hf
      exact does_skip (w' := W.setCell ⟨q, 2, none⟩ (.slice (some ⟨g2, 0, none⟩) (M + 1) c2)) (by go_simp) ⟨.pointer none, .inl rfl, hS.put (dep_of hdep 8 (by rfl)) hf (by decide) (by decide) (by decide) (.pointer none) e7⟩
  · intro gh W hS
    obtain ⟨hap, hup⟩ := hS.up rfl
    obtain ⟨g2, c2, e8⟩ := hS.form rfl
    obtain ⟨-, hrow, hmv⟩ := hS.ap rfl
    have hpost := hS.post rfl
    have hch := hS.chg
    rw [e8] at hup hrow hmv
    have hd : Blk W q 74 #[.int .i64 s.n, .string s.repo, .slice (some ⟨g2, 0, none⟩) (M + 1) c2, .int .i64 (s.len : Int)] := by simpa [seCells] using hup
    have hq := HH.out.hd.lt
    have hnq : g2 ≠ q := fun e => by
      subst e
      rcases hmv with hm | ⟨b, hm, hb, -⟩
      · exact HH.out.far g2 (.inl hm.symm) rfl
      · simp [Value.ownBlock] at hm; omega
    have hfs : ∀ b, (gh 6).ownBlock = some b → w.heap.size ≤ b := hpost.2
    have hlen := HLB.out
    have hne : bs ≠ [] := fun e => by rw [e] at hlen; simp at hlen; omega
    have HEnd := hid (show ∀ W', Chg [q] W W' → Blk W' q 74 #[.int .i64 s.n, .string s.repo, .slice (some ⟨g2, 0, none⟩) (M + 1) c2, .int .i64 ((s.len + n : Nat) : Int)] → ∃ pv' us', SessB W' base q (s.push bs) pv' us' ∧ Chg (q :: pv.ownBlock.toList) w W' ∧ (∀ b ∈ upBlocks q pv' us', b ∈ upBlocks q pv us ∨ w.heap.size ≤ b) from by
      intro W' hc hb'
      have hR : Recs W base (.slice (some ⟨g2, 0, none⟩) (M + 1) c2) (s.ps ++ [bs]) (us ++ [gh 6]) := by
        have hold : ∀ (k : Nat) x u, s.ps[k]? = some x → us[k]? = some u → Own W base 5 u x.length x := fun k x u hx hu => (HH.out.recs.each k x u hx hu).chg hch (fun b e hm => by
          have hb1 := (HH.out.recs.lt b (.inr ⟨u, List.mem_of_getElem? hu, e⟩))
          rcases List.mem_cons.1 hm with rfl | hm
          · exact HH.out.far b (.inr ⟨u, List.mem_of_getElem? hu, e⟩) rfl
          · exact HH.out.recs.far u (List.mem_of_getElem? hu) b e (by simpa using hm))
        have hul := HH.out.recs.len
        refine ⟨by rw [List.length_append, HM.out]; exact hrow, fun k x u hx hu => ?_, fun u hu b e e2 => ?_⟩
        · by_cases hk : k < s.ps.length
          · rw [List.getElem?_append_left hk] at hx
            rw [List.getElem?_append_left (by omega)] at hu
            exact hold k x u hx hu
          · rw [List.getElem?_append_right (by omega)] at hx hu
            have e1 : k - s.ps.length = 0 := by
              have := (List.getElem?_eq_some_iff.1 hx).1
              simp at this; omega
            rw [e1] at hx
            rw [show k - us.length = 0 by omega] at hu
            cases hx; cases hu
            rw [hlen]
            exact hpost.1
        · simp only [Value.ownBlock, Option.some.injEq] at e2
          subst e2
          rcases List.mem_append.1 hu with hu | hu
          · rcases hmv with hm | ⟨b', hm, hb'⟩
            · exact HH.out.recs.far u hu _ e hm.symm
            · have := (HH.out.recs.lt _ (.inr ⟨u, hu, e⟩)).2
              have hx2 : g2 = b' := by simpa [Value.ownBlock] using hm
              have hx3 : g2 < w.heap.size := this
              omega
          · obtain rfl := List.mem_singleton.1 hu
            have h1 := hfs _ e
            rcases hmv with hm | ⟨b', hm, hb', hnp⟩
            · have hx0 : g2 < w.heap.size := (HH.out.recs.lt _ (.inl hm.symm)).2
              have hx1 : w.heap.size ≤ g2 := h1
              omega
            · have hx1 : g2 < b' := hnp _ e
              have hx2 : g2 = b' := by simpa [Value.ownBlock] using hm
              omega
      have hpush : s.push bs = { s with ps := s.ps ++ [bs] } := if_neg hne
      have hblk : ∀ b ∈ upBlocks q (.slice (some ⟨g2, 0, none⟩) (M + 1) c2) (us ++ [gh 6]), b ∈ upBlocks q pv us ∨ w.heap.size ≤ b := fun b hb => by
        rcases mem_upBlocks.1 hb with rfl | hb | ⟨u, hu, hb⟩
        · exact .inl (mem_upBlocks.2 (.inl rfl))
        · rcases hmv with hm | ⟨b', hm, hb', -⟩
          · rw [hb] at hm
            exact .inl (mem_upBlocks.2 (.inr (.inl hm.symm)))
          · rw [hb] at hm
            cases hm
            exact .inr hb'
        · rcases List.mem_append.1 hu with hu | hu
          · exact .inl (mem_upBlocks.2 (.inr (.inr ⟨u, hu, hb⟩)))
          · obtain rfl := List.mem_singleton.1 hu
            exact .inr (hfs _ hb)
      have hfar : ∀ b, ((Value.slice (some ⟨g2, 0, none⟩) (M + 1) c2).ownBlock = some b ∨ ∃ u ∈ us ++ [gh 6], u.ownBlock = some b) → b ≠ q := fun b hb e => by
        subst e
        rcases hb with hb | ⟨u, hu, hb⟩
        · exact hnq (by simpa [Value.ownBlock] using hb)
        · rcases List.mem_append.1 hu with hu | hu
          · exact HH.out.far b (.inr ⟨u, hu, hb⟩) rfl
          · obtain rfl := List.mem_singleton.1 hu
            have := hfs _ hb
            omega
      refine ⟨_, _, ⟨?_, by rw [hpush]; exact up_recs_chg hR hc (fun b hb hm => hfar b hb (List.mem_singleton.1 hm)), hfar, HH.out.hq, ?_⟩, hch.trans hc (fun b hb => .inl (by rw [List.mem_singleton.1 hb]; exact List.mem_cons_self ..)), hblk⟩
      · rw [hpush]
        have : ({ s with ps := s.ps ++ [bs] } : US).len = s.len + n := by simp [US.len, hlen]
        unfold seCells
        rw [this]
        exact hb'
      · rw [hpush]
        intro x hx
        rcases List.mem_append.1 hx with hx | hx
        · exact HH.out.pos x hx
        · rw [List.mem_singleton.1 hx]; exact hne)
    have c3 : W.cell? ⟨q, 3, none⟩ = some (.int .i64 (s.len : Int)) := hd.cell 3 rfl
    have z3 := hd.frozen 3
    have hsum : IntKind.i64.wrap ((s.len : Int) + (n : Int)) = ((s.len + n : Nat) : Int) := by
      have := HL.out
      rw [IntWalk.i64_in _ (by omega)]; omega
    have HSet := hid (HEnd.out (W.setCell ⟨q, 3, none⟩ (.int .i64 ((s.len + n : Nat) : Int))) (Chg.of_grown (grown_setCell W q 3 _) (fun g e => by cases e; simp)) (by have := hd.set_ 3 (.int .i64 ((s.len + n : Nat) : Int)); simpa using this))
    simp only [putAll, addVal, Nat.reduceAdd, Nat.zero_add, Act.put, List.setIfInBounds_toArray, List.set_cons_zero, List.set_cons_succ]
    clear hS hap hup e8 hrow hmv hpost hch hq hnq hfs hlen hne HEnd hd
    go_wp2_with fail
    go_end0
    exact ⟨rfl, HSet.out⟩
end Go.Proofs.YtgacdimjbpkgoaaDoor
