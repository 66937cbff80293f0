/- Manifests: what is decoded is encoded as it was; what is encoded is decoded as it was. Plain functions. -/
import Derived.Test.YtfmbnlnnfoonjaaMdMath
import Derived.Test.YtfmbnlnnfoonjaaMdSameM
namespace Go.Proofs.Ytfmbnlnnfoonjaa
open Go.RowKit

/-- a manifest that can be encoded, however many bytes that is -/
structure VM (m : MM) : Prop where
  kind : (m.k = 3 ∧ m.u = []) ∨ (m.k = 4 ∧ m.c = zeroD ∧ m.l = [])
  c : 0 ≤ m.c.m ∧ 0 ≤ m.c.s ∧ DOK m.c
  l : ∀ d ∈ m.l, 0 ≤ d.m ∧ 0 ≤ d.s ∧ DOK d
  u : ∀ d ∈ m.u, 0 ≤ d.m ∧ 0 ≤ d.s ∧ DOK d
  ll : m.l.length ≤ 16
  lu : m.u.length ≤ 8
theorem VM.k0 {m : MM} (h : VM m) : m.k = 3 ∨ m.k = 4 := h.kind.imp (·.1) (·.1)
theorem neg_false {d : DD} : negB d = false ↔ 0 ≤ d.m ∧ 0 ≤ d.s := by
  unfold negB
  simp
theorem wrong_zero {m : MM} : wrongE m = 0 ↔ kindB m = true ∧ (negB m.c = false ∧ m.l.any negB = false ∧ m.u.any negB = false) ∧ m.l.length ≤ 16 ∧ m.u.length ≤ 8 := by
  unfold wrongE
  cases hk : kindB m
  · simp
  · cases h0 : negB m.c <;> cases h1 : m.l.any negB <;> cases h2 : m.u.any negB <;> simp <;> omega
theorem kind_true {m : MM} : kindB m = true ↔ (m.k = 3 ∧ m.u = []) ∨ (m.k = 4 ∧ m.c = zeroD ∧ m.l = []) := by
  unfold kindB
  by_cases h3 : m.k = 3
  · rw [if_pos h3, decide_eq_true_iff, List.length_eq_zero_iff]
    constructor
    · exact fun h => .inl ⟨h3, h⟩
    · rintro (⟨-, h⟩ | ⟨h4, -⟩)
      · exact h
      · omega
  · rw [if_neg h3]
    by_cases h4 : m.k = 4
    · rw [if_pos h4, Bool.and_eq_true, eqD_iff, decide_eq_true_iff, List.length_eq_zero_iff]
      constructor
      · exact fun h => .inr ⟨h4, h⟩
      · rintro (⟨h, -⟩ | ⟨-, h⟩)
        · exact absurd h h3
        · exact h
    · rw [if_neg h4]
      constructor
      · intro h; cases h
      · rintro (⟨h, -⟩ | ⟨h, -⟩)
        · exact absurd h h3
        · exact absurd h h4
theorem any_neg {l : List DD} : l.any negB = false ↔ ∀ d ∈ l, 0 ≤ d.m ∧ 0 ≤ d.s := by
  rw [List.any_eq_false]
  constructor
  · intro h d hd; exact neg_false.1 (by simpa using h d hd)
  · intro h d hd; rw [neg_false.2 (h d hd)]; simp
theorem vm_wrong {m : MM} (h : VM m) : wrongE m = 0 := wrong_zero.2 ⟨kind_true.2 h.kind, ⟨neg_false.2 ⟨h.c.1, h.c.2.1⟩, any_neg.2 fun d hd => ⟨(h.l d hd).1, (h.l d hd).2.1⟩, any_neg.2 fun d hd => ⟨(h.u d hd).1, (h.u d hd).2.1⟩⟩, h.ll, h.lu⟩
theorem wrong_vm {m : MM} (hm : MOK m) (h : wrongE m = 0) : VM m := by
  obtain ⟨h1, ⟨h2, h3, h4⟩, h5, h6⟩ := wrong_zero.1 h
  obtain ⟨hc, -, -, -, -, hl, hu⟩ := hm
  exact ⟨kind_true.1 h1, ⟨(neg_false.1 h2).1, (neg_false.1 h2).2, hc⟩, fun d hd => ⟨(any_neg.1 h3 d hd).1, (any_neg.1 h3 d hd).2, hl d hd⟩, fun d hd => ⟨(any_neg.1 h4 d hd).1, (any_neg.1 h4 d hd).2, hu d hd⟩, h5, h6⟩
/-- groups of things, none negative -/
def flatG (gs : List (List Item)) : List UInt8 := gs.flatMap flat
def okG (gs : List (List Item)) : Prop := ∀ g ∈ gs, anyNeg g = false
theorem fold_bad {lim : Nat} (gs : List (List Item)) {s : WS} (h : s.e ≠ 0) : gs.foldl (putW lim) s = s := by
  induction gs with
  | nil => rfl
  | cons g gs ih =>
    rw [List.foldl_cons, show putW lim s g = s from if_pos h]
    exact ih
theorem fold_fit {lim : Nat} (gs : List (List Item)) : ∀ {bs : List UInt8}, okG gs → bs.length + (flatG gs).length ≤ lim → gs.foldl (putW lim) ⟨bs, 0⟩ = ⟨bs ++ flatG gs, 0⟩ := by
  induction gs with
  | nil => intro bs _ _; simp [flatG]
  | cons g gs ih =>
    intro bs hok hl
    have hf : flatG (g :: gs) = flat g ++ flatG gs := by simp [flatG]
    rw [hf, List.length_append] at hl
    have hp : putW lim ⟨bs, 0⟩ g = ⟨bs ++ flat g, 0⟩ := by
      unfold putW
      rw [if_neg (by simp), if_neg (by rw [hok g (List.mem_cons_self ..)]; simp), if_neg (by simp; omega)]
    rw [List.foldl_cons, hp, ih (fun x hx => hok x (List.mem_cons_of_mem _ hx)) (by rw [List.length_append]; omega), hf, List.append_assoc]
theorem fold_zero {lim : Nat} (gs : List (List Item)) : ∀ {bs : List UInt8}, okG gs → bs.length ≤ lim → (gs.foldl (putW lim) ⟨bs, 0⟩).e = 0 → bs.length + (flatG gs).length ≤ lim := by
  induction gs with
  | nil => intro bs _ h _; simpa [flatG] using h
  | cons g gs ih =>
    intro bs hok hb h
    have hf : flatG (g :: gs) = flat g ++ flatG gs := by simp [flatG]
    rw [hf, List.length_append]
    rw [List.foldl_cons] at h
    by_cases hx : lim < bs.length + (flat g).length
    · have hp : putW lim ⟨bs, 0⟩ g = ⟨bs, 4⟩ := by
        unfold putW
        rw [if_neg (by simp), if_neg (by rw [hok g (List.mem_cons_self ..)]; simp), if_pos hx]
      rw [hp, fold_bad gs (by simp)] at h
      simp at h
    · have hp : putW lim ⟨bs, 0⟩ g = ⟨bs ++ flat g, 0⟩ := by
        unfold putW
        rw [if_neg (by simp), if_neg (by rw [hok g (List.mem_cons_self ..)]; simp), if_neg hx]
      rw [hp] at h
      have := ih (fun x hx => hok x (List.mem_cons_of_mem _ hx)) (by rw [List.length_append]; omega) h
      rw [List.length_append] at this
      omega
theorem numI_pos {z : Int} (h : 0 ≤ z) : numI z = some (encI z) := by unfold numI encI; rw [if_neg (by omega)]
theorem desc_flat {d : DD} (h : 0 ≤ d.m ∧ 0 ≤ d.s) : flatG (descG d) = descB d ∧ okG (descG d) := by
  unfold descG
  rw [numI_pos h.1, numI_pos h.2, numI_nat]
  refine ⟨by simp [flatG, flat, descB], ?_⟩
  intro g hg
  simp at hg
  rcases hg with rfl | rfl | rfl | rfl <;> rfl
theorem list_flat {ds : List DD} (h : ∀ d ∈ ds, 0 ≤ d.m ∧ 0 ≤ d.s) : flatG (listG ds) = listB ds ∧ okG (listG ds) := by
  have hd : flatG (ds.flatMap descG) = ds.flatMap descB ∧ okG (ds.flatMap descG) := by
    induction ds with
    | nil => exact ⟨rfl, fun g hg => by simp at hg⟩
    | cons d ds ih =>
      obtain ⟨h1, h2⟩ := ih (fun x hx => h x (List.mem_cons_of_mem _ hx))
      obtain ⟨h3, h4⟩ := desc_flat (h d (List.mem_cons_self ..))
      rw [List.flatMap_cons, List.flatMap_cons]
      refine ⟨by rw [← h1, ← h3]; simp [flatG], fun g hg => ?_⟩
      rcases List.mem_append.1 hg with hg | hg
      · exact h4 g hg
      · exact h2 g hg
  unfold listG listB
  rw [numI_nat]
  refine ⟨by rw [← hd.1]; simp [flatG, flat], fun g hg => ?_⟩
  rcases List.mem_cons.1 hg with rfl | hg
  · rfl
  · exact hd.2 g hg
theorem man_flat {m : MM} (h : VM m) : flatG (manG m) = manBytes m ∧ okG (manG m) := by
  have hk : 0 ≤ m.k := by have := h.k0; omega
  have hb : flatG (bodyG m) = bodyB m ∧ okG (bodyG m) := by
    unfold bodyG bodyB
    by_cases h4 : m.k = 4
    · rw [if_pos h4, if_pos h4]
      exact list_flat fun d hd => ⟨(h.u d hd).1, (h.u d hd).2.1⟩
    · rw [if_neg h4, if_neg h4]
      obtain ⟨h1, h2⟩ := desc_flat (d := m.c) ⟨h.c.1, h.c.2.1⟩
      obtain ⟨h3, h5⟩ := list_flat (ds := m.l) fun d hd => ⟨(h.l d hd).1, (h.l d hd).2.1⟩
      refine ⟨by rw [← h1, ← h3]; simp [flatG], fun g hg => ?_⟩
      rcases List.mem_append.1 hg with hg | hg
      · exact h2 g hg
      · exact h5 g hg
  unfold manG manBytes
  rw [numI_pos hk, numI_nat, show numI 77 = some (enc 77) from rfl]
  refine ⟨by rw [← hb.1]; simp [flatG, flat], fun g hg => ?_⟩
  simp only [List.mem_cons] at hg
  rcases hg with rfl | rfl | rfl | hg
  · rfl
  · rfl
  · rfl
  · exact hb.2 g hg
/-- what encoding comes to -/
theorem enc_fit {m : MM} (h : VM m) (hl : (manBytes m).length ≤ 4096) : encE m = 0 ∧ encB m = manBytes m := by
  obtain ⟨h1, h2⟩ := man_flat h
  have hs : encS m = ⟨manBytes m, 0⟩ := by
    unfold encS
    rw [fold_fit (manG m) h2 (by rw [h1]; simpa using hl), h1]; rfl
  have he : encE m = 0 := by
    unfold encE
    rw [if_neg (by rw [vm_wrong h]; simp), hs]; rfl
  exact ⟨he, by unfold encB; rw [if_pos he, hs]⟩
theorem enc_zero {m : MM} (hm : MOK m) (h : encE m = 0) : VM m ∧ (manBytes m).length ≤ 4096 ∧ encB m = manBytes m := by
  have hw : wrongE m = 0 := by
    by_cases hw : wrongE m = 0
    · exact hw
    · unfold encE at h; rw [if_pos hw] at h; exact absurd h hw
  have hv := wrong_vm hm hw
  obtain ⟨h1, h2⟩ := man_flat hv
  have he : (encS m).e = 0 := by
    unfold encE at h; rw [if_neg (by rw [hw]; simp)] at h; omega
  have hl : (manBytes m).length ≤ 4096 := by
    have := fold_zero (manG m) h2 (bs := []) (by simp) he
    rw [h1] at this; simpa using this
  exact ⟨hv, hl, (enc_fit hv hl).2⟩
theorem sizedS_good (bs : List UInt8) (most : Int) (s : RS) (h : s.good bs.length) : (sizedS bs most s).2.good bs.length := by
  cases s with
  | bad e p => exact h
  | ok a => exact takeS_good bs _ a _ h (numS_good bs most 4 (.ok a) (.inl (by omega)) h)
theorem idS_good (bs : List UInt8) (s : RS) (h : s.good bs.length) : (idS bs s).2.good bs.length := by
  cases s with
  | bad e p => exact h
  | ok a => exact takeS_good bs 32 a (.ok a) h h
theorem zeroD_ok' : DOK zeroD := ⟨rfl, by unfold lt63; decide, by unfold lt63; decide, by decide⟩
theorem dscR_good (bs : List UInt8) (s : RS) (h : s.good bs.length) : (dscR bs s).2.good bs.length := sizedS_good _ _ _ (numS_good _ _ _ _ (.inr (by simp [maxI])) (idS_good _ _ (numS_good _ _ _ _ (.inr (by simp [maxI])) h)))
theorem dscN_good (bs : List UInt8) (n : Nat) (s : RS) (h : s.good bs.length) : (dscN bs n s).2.good bs.length := by
  induction n with
  | zero => exact h
  | succ n ih => exact dscR_good _ _ ih
theorem lstR_good (bs : List UInt8) (s : RS) (rf : Nat × Nat) (most : Nat) (h : s.good bs.length) : (lstR bs s rf most).2.1.good bs.length := by
  have h1 := numS_good bs maxI 0 s (.inr (by simp [maxI])) h
  unfold lstR; split
  · exact h1
  · exact dscN_good _ _ _ h1
theorem manR_good (bs : List UInt8) : (manR bs (.ok 0) (0, 0)).2.1.good bs.length := by
  have h1 := numS_good bs maxI 0 (.ok 0) (.inr (by simp [maxI])) (Nat.zero_le _)
  have h2 := numS_good bs maxI 0 _ (.inr (by simp [maxI])) h1
  have h3 := sizedS_good bs 4096 _ h2
  unfold manR manB
  split
  · exact lstR_good _ _ _ _ (dscR_good _ _ h3)
  · split
    · exact lstR_good _ _ _ _ h3
    · exact h3
theorem kind1_kept (bs : List UInt8) (s : RS) (rf : Nat × Nat) (h : rf.1 ≠ 0) : kind1 bs s rf = rf := by
  unfold kind1; split
  · rfl
  · exact refuse_kept h
theorem kind2_kept (bs : List UInt8) (s : RS) (rf : Nat × Nat) (h : rf.1 ≠ 0) : kind2 bs s rf = rf := by
  unfold kind2; split
  · rfl
  · exact refuse_kept h
theorem lstR_kept (bs : List UInt8) (s : RS) (rf : Nat × Nat) (most : Nat) (h : rf.1 ≠ 0) : (lstR bs s rf most).2.2 = rf := by
  unfold lstR; split
  · exact refuse_kept h
  · rfl
theorem manB_kept (bs : List UInt8) (k : Nat) (s : RS) (rf : Nat × Nat) (h : rf.1 ≠ 0) : (manB bs k s rf).2.2 = rf := by
  unfold manB; split
  · exact lstR_kept _ _ _ _ h
  · split
    · exact lstR_kept _ _ _ _ h
    · rfl
theorem lstR_bad (bs : List UInt8) (e p : Nat) (rf : Nat × Nat) (most : Nat) : (lstR bs (.bad e p) rf most).2.1 = .bad e p := by
  unfold lstR
  rw [numS_bad]
  split
  · rfl
  · rfl
theorem manB_bad (bs : List UInt8) (k e p : Nat) (rf : Nat × Nat) : (manB bs k (.bad e p) rf).2.1 = .bad e p := by
  unfold manB
  rw [sizedS_bad, dscR_bad]
  split
  · exact lstR_bad bs e p rf 16
  · split
    · exact lstR_bad bs e p rf 8
    · rfl
/-- a manifest that is read to the end, and nothing was wrong -/
theorem manR_span {bs : List UInt8} {m : MM} {a : Nat} {rf : Nat × Nat} (h : manR bs (.ok 0) (0, 0) = (m, .ok a, rf)) (hr : rf.1 = 0) : Spans bs 0 a (manBytes m) ∧ VM m ∧ m.t.length ≤ 549755813888 ∧ lt63 m.k := by
  unfold manR at h
  generalize hq1 : numS bs maxI 0 (.ok 0) = q1 at h
  obtain ⟨n1, s1⟩ := q1
  dsimp only at h
  generalize hq2 : numS bs maxI 0 s1 = q2 at h
  obtain ⟨n2, s2⟩ := q2
  dsimp only at h
  have hs2 : ∃ a2, s2 = .ok a2 := by
    cases s2 with
    | ok a2 => exact ⟨a2, rfl⟩
    | bad e p =>
      have := manB_bad bs n2 e p (kind2 bs s1 (kind1 bs (.ok 0) (0, 0)))
      rw [h] at this; cases this
  obtain ⟨a2, rfl⟩ := hs2
  have hs1 : ∃ a1, s1 = .ok a1 := by
    cases s1 with
    | ok a1 => exact ⟨a1, rfl⟩
    | bad e p => rw [numS_bad] at hq2; cases hq2
  obtain ⟨a1, rfl⟩ := hs1
  obtain ⟨g1, -, -, -⟩ := numS_span hq1
  obtain ⟨g2, -, g3, -⟩ := numS_span hq2
  have h77 : n1 = 77 := by
    by_cases e : n1 = 77
    · exact e
    · have hk : kind1 bs (.ok 0) (0, 0) = (20, 0) := by
        unfold kind1; rw [hq1, if_neg e]; rfl
      rw [hk, kind2_kept _ _ _ (by simp)] at h
      have := manB_kept bs n2 (.ok a2) (20, 0) (by simp)
      rw [h] at this
      dsimp only at this
      rw [this] at hr; cases hr
  have hk1 : kind1 bs (.ok 0) (0, 0) = (0, 0) := by unfold kind1; rw [hq1, if_pos h77]
  rw [hk1] at h
  have h34 : n2 = 3 ∨ n2 = 4 := by
    by_cases e : n2 = 3 ∨ n2 = 4
    · exact e
    · have hk : kind2 bs (.ok a1) (0, 0) = (20, 0) := by
        unfold kind2; rw [hq2, if_neg e]; rfl
      rw [hk] at h
      have := manB_kept bs n2 (.ok a2) (20, 0) (by simp)
      rw [h] at this
      dsimp only at this
      rw [this] at hr; cases hr
  have hk2 : kind2 bs (.ok a1) (0, 0) = (0, 0) := by unfold kind2; rw [hq2, if_pos h34]
  rw [hk2] at h
  subst h77
  unfold manB at h
  generalize hq3 : sizedS bs 4096 (.ok a2) = q3 at h
  obtain ⟨t, s3⟩ := q3
  dsimp only at h
  have hsz : ∀ a3, s3 = .ok a3 → Spans bs a2 a3 (enc t.length ++ t) ∧ t.length ≤ 549755813888 := by
    rintro a3 rfl
    refine ⟨(sizedS_span hq3).1, ?_⟩
    have := hq3
    have hq : sizedS bs 4096 (.ok a2) = takeS bs (numS bs 4096 4 (.ok a2)).1 a2 (numS bs 4096 4 (.ok a2)).2 := rfl
    rw [hq] at this
    generalize hn : numS bs 4096 4 (.ok a2) = qn at this
    obtain ⟨nn, ss⟩ := qn
    cases ss with
    | bad e p => simp [takeS] at this
    | ok a5 =>
      obtain ⟨k1, -, -, k4⟩ := numS_span hn
      obtain ⟨-, k5⟩ := takeS_span k1.2.1 this
      omega
  rcases h34 with rfl | rfl
  · rw [if_pos rfl] at h
    generalize hq4 : dscR bs s3 = q4 at h
    obtain ⟨d, s4⟩ := q4
    dsimp only at h
    generalize hq5 : lstR bs s4 (0, 0) 16 = q5 at h
    obtain ⟨l, s5, rf5⟩ := q5
    simp only [Prod.mk.injEq] at h
    obtain ⟨rfl, rfl, rfl⟩ := h
    cases s4 with
    | bad e p => have := lstR_bad bs e p (0, 0) 16; rw [hq5] at this; cases this
    | ok a4 =>
      cases s3 with
      | bad e p => have := dscR_bad bs e p; rw [hq4] at this; cases this
      | ok a3 =>
        obtain ⟨g4, g5⟩ := hsz a3 rfl
        obtain ⟨g6, g7⟩ := dscR_span hq4
        obtain ⟨g8, g9, -, g10⟩ := lstR_span hq5 hr
        refine ⟨?_, ⟨.inl ⟨rfl, rfl⟩, g7, g10, by simp, g9, by simp⟩, g5, show (3 : Int) < _ by decide⟩
        have := g1.trans (g2.trans (g4.trans (g6.trans g8)))
        unfold manBytes bodyB
        rw [if_neg (show ¬ (3 : Int) = 4 by decide)]
        simpa [encI] using this
  · rw [if_neg (by decide), if_pos rfl] at h
    generalize hq5 : lstR bs s3 (0, 0) 8 = q5 at h
    obtain ⟨l, s5, rf5⟩ := q5
    simp only [Prod.mk.injEq] at h
    obtain ⟨rfl, rfl, rfl⟩ := h
    cases s3 with
    | bad e p => have := lstR_bad bs e p (0, 0) 8; rw [hq5] at this; cases this
    | ok a3 =>
      obtain ⟨g4, g5⟩ := hsz a3 rfl
      obtain ⟨g8, g9, -, g10⟩ := lstR_span hq5 hr
      refine ⟨?_, ⟨.inr ⟨rfl, rfl, rfl⟩, ⟨show (0 : Int) ≤ 0 by decide, show (0 : Int) ≤ 0 by decide, zeroD_ok'⟩, by simp, g10, by simp, g9⟩, g5, show (4 : Int) < _ by decide⟩
      have := g1.trans (g2.trans (g4.trans g8))
      unfold manBytes bodyB
      rw [if_pos rfl]
      simpa [encI] using this
/-- what is decoded -/
theorem dec_good {bs : List UInt8} (h : (decF bs).1 = 0) : decF bs = (0, 0) ∧ VM (decM bs) ∧ MOK (decM bs) ∧ encE (decM bs) = 0 ∧ encB (decM bs) = bs ∧ manBytes (decM bs) = bs := by
  have hl : ¬ 4096 < bs.length := fun e => by
    have : decF bs = (4, 4096) := if_pos e
    rw [this] at h; cases h
  have hF : decF bs = srcEnd bs (decR bs).2.1 (decR bs).2.2 := if_neg hl
  have hM : decM bs = (decR bs).1 := if_pos h
  rw [hM]
  rw [hF] at h ⊢
  generalize hd : decR bs = q at h
  obtain ⟨m, s, rf⟩ := q
  dsimp only at h ⊢
  have hd' : manR bs (.ok 0) (0, 0) = (m, s, rf) := hd
  have hr : rf.1 = 0 := by
    by_cases e : rf.1 = 0
    · exact e
    · unfold srcEnd at h; rw [if_neg e] at h; exact absurd h e
  have he : srcEnd bs s rf = endS bs s := if_pos hr
  rw [he] at h ⊢
  have hgs : ∀ e p, s = .bad e p → e = 0 → False := fun e p hs h0 => by
    have hg := manR_good bs
    rw [hd'] at hg
    subst hs
    exact hg.1 h0
  cases s with
  | bad e p => exact absurd h (fun h0 => hgs e p rfl h0)
  | ok a =>
    have hae : a = bs.length := by
      by_cases e : a < bs.length
      · rw [show endS bs (.ok a) = (4, a) from if_pos e] at h; cases h
      · have hg := manR_good bs
        rw [hd'] at hg
        have : a ≤ bs.length := hg
        omega
    subst hae
    obtain ⟨h1, h2, h3, h4⟩ := manR_span hd' hr
    have hb : manBytes m = bs := by
      have := h1.2.2
      rw [List.drop_zero, Nat.sub_zero, List.take_length] at this
      exact this.symm
    obtain ⟨h5, h6⟩ := enc_fit h2 (by rw [hb]; omega)
    exact ⟨if_neg (Nat.lt_irrefl _), h2, ⟨h2.c.2.2, h3, by have := h2.ll; omega, by have := h2.lu; omega, h4, fun d hd => (h2.l d hd).2.2, fun d hd => (h2.u d hd).2.2⟩, h5, h6.trans hb, hb⟩
theorem refuse_at {s : RS} {rf : Nat × Nat} {e p L : Nat} (h : rf.2 ≤ L) (hp : p ≤ L) : (refuseF s rf e p).2 ≤ L := by
  unfold refuseF; split
  · exact hp
  · exact h
theorem lstR_at (bs : List UInt8) (s : RS) (rf : Nat × Nat) (most : Nat) (h : rf.2 ≤ bs.length) : (lstR bs s rf most).2.2.2 ≤ bs.length := by
  unfold lstR; split
  · exact refuse_at h (by show bs.length - _ ≤ _; omega)
  · exact h
theorem dec_at {bs : List UInt8} (h : ¬ 4096 < bs.length) : (decF bs).2 ≤ bs.length := by
  have hF : decF bs = srcEnd bs (decR bs).2.1 (decR bs).2.2 := if_neg h
  have hg := manR_good bs
  have hr : (manR bs (.ok 0) (0, 0)).2.2.2 ≤ bs.length := by
    have h1 : (kind1 bs (.ok 0) (0, 0)).2 ≤ bs.length := by
      unfold kind1; split
      · exact Nat.zero_le _
      · exact refuse_at (Nat.zero_le _) (Nat.zero_le _)
    have h2 : ∀ s, (kind2 bs s (kind1 bs (.ok 0) (0, 0))).2 ≤ bs.length := by
      intro s; unfold kind2; split
      · exact h1
      · exact refuse_at h1 (Nat.zero_le _)
    unfold manR manB; split
    · exact lstR_at _ _ _ _ (h2 _)
    · split
      · exact lstR_at _ _ _ _ (h2 _)
      · exact h2 _
  rw [hF]
  unfold srcEnd
  split
  · have : ∀ s : RS, s.good bs.length → (endS bs s).2 ≤ bs.length := by
      intro s hs
      cases s with
      | ok a =>
        by_cases ha : a < bs.length
        · rw [show endS bs (.ok a) = (4, a) from if_pos ha]; show a ≤ _; omega
        · rw [show endS bs (.ok a) = (0, 0) from if_neg ha]; exact Nat.zero_le _
      | bad e p => exact hs.2
    exact this _ hg
  · exact hr
theorem dec_differ {bs bs' : List UInt8} (h : (decF bs).1 = 0) (hne : bs' ≠ bs) : eqM (decM bs') (decM bs) = false := by
  cases hq : eqM (decM bs') (decM bs) with
  | false => rfl
  | true =>
    have e := eqM_iff.1 hq
    obtain ⟨-, hv, -, -, -, hb⟩ := dec_good h
    by_cases h' : (decF bs').1 = 0
    · obtain ⟨-, -, -, -, -, hb'⟩ := dec_good h'
      rw [e] at hb'
      exact absurd (hb'.symm.trans hb) hne
    · have hz : decM bs' = zeroM := if_neg h'
      rw [hz] at e
      have := hv.k0
      rw [← e] at this
      rcases this with h3 | h3 <;> exact absurd h3 (show ¬ ((0 : Int) = _) by decide)
theorem dec_pos {bs : List UInt8} (h : (decF bs).1 = 0) : bs.length ≠ 0 := by
  obtain ⟨-, -, -, -, -, hb⟩ := dec_good h
  intro h0
  rw [← hb] at h0
  unfold manBytes at h0
  rw [List.length_append, enc_length] at h0
  have := (encSize_le (n := 77) (by omega)).1
  omega
end Go.Proofs.Ytfmbnlnnfoonjaa
/- Manifests: what was encoded is decoded as it was, no front of it is anything, and what has more behind it says where it ends. Plain functions. -/
namespace Go.Proofs.Ytfmbnlnnfoonjaa
open Go.RowKit

/-- a description that can be read -/
def GD (d : DD) : Prop := 0 ≤ d.m ∧ 0 ≤ d.s ∧ DOK d ∧ d.p.length ≤ 4096
theorem sized_read {bs cs rest : List UInt8} {a : Nat} (h : bs.drop a = enc cs.length ++ (cs ++ rest)) (hc : cs.length ≤ 4096) : sizedS bs 4096 (.ok a) = (cs, .ok (a + (enc cs.length ++ cs).length)) := by
  have h1 := num_read (most := 4096) h (by omega) 4 (by omega)
  have h2 : bs.drop (a + encSize cs.length) = cs ++ rest := by rw [← enc_length]; exact drop_more h
  show takeS bs (numS bs 4096 4 (.ok a)).1 a (numS bs 4096 4 (.ok a)).2 = _
  rw [h1]
  dsimp only
  rw [take_read a h2, List.length_append, enc_length, Nat.add_assoc]
theorem id_read {bs l rest : List UInt8} {a : Nat} (h : bs.drop a = l ++ rest) (hl : l.length = 32) : idS bs (.ok a) = (l, .ok (a + l.length)) := by
  have h1 := take_read a h
  rw [hl] at h1
  show (fill32 (takeS bs 32 a (.ok a)).1, (takeS bs 32 a (.ok a)).2) = _
  rw [h1]
  dsimp only
  rw [fill32, if_pos hl, hl]
theorem dsc_read {bs rest : List UInt8} {a : Nat} {d : DD} (h : bs.drop a = descB d ++ rest) (hg : GD d) : dscR bs (.ok a) = (d, .ok (a + (descB d).length)) := by
  obtain ⟨h1, h2, ⟨h32, hM, hS, -⟩, hp⟩ := hg
  obtain ⟨m, id, s, p⟩ := d
  dsimp only at h1 h2 h32 hM hS hp
  obtain ⟨M, rfl⟩ : ∃ M : Nat, m = (M : Int) := ⟨m.toNat, by omega⟩
  obtain ⟨S, rfl⟩ : ∃ S : Nat, s = (S : Int) := ⟨s.toNat, by omega⟩
  unfold lt63 at hM hS
  have e : descB ⟨(M : Int), id, (S : Int), p⟩ = enc M ++ (id ++ (enc S ++ (enc p.length ++ p))) := rfl
  rw [e] at h ⊢
  simp only [List.append_assoc] at h
  have q1 := num_read (most := maxI) h (by omega) 0 (by unfold maxI; omega)
  have d1 := drop_more h
  rw [enc_length] at d1
  have q2 := id_read d1 h32
  have d2 := drop_more d1
  have q3 := num_read (most := maxI) d2 (by omega) 0 (by unfold maxI; omega)
  have d3 := drop_more d2
  rw [enc_length] at d3
  have q4 := sized_read d3 hp
  unfold dscR
  rw [q1]
  dsimp only
  rw [q2]
  dsimp only
  rw [q3]
  dsimp only
  rw [q4]
  simp only [List.length_append, enc_length, Prod.mk.injEq, RS.ok.injEq, true_and]
  omega
theorem dscs_read {bs : List UInt8} {a : Nat} : ∀ (n : Nat) (ds : List DD) (rest : List UInt8), ds.length = n → bs.drop a = ds.flatMap descB ++ rest → (∀ d ∈ ds, GD d) → dscN bs n (.ok a) = (ds, .ok (a + (ds.flatMap descB).length))
  | 0, ds, rest, hn, h, hg => by
    obtain rfl := List.length_eq_zero_iff.1 hn
    rfl
  | n + 1, ds, rest, hn, h, hg => by
    rcases List.eq_nil_or_concat ds with rfl | ⟨xs, d, e⟩
    · simp at hn
    · rw [List.concat_eq_append] at e
      subst e
      have hxs : xs.length = n := by simpa using hn
      have hf : (xs ++ [d]).flatMap descB = xs.flatMap descB ++ descB d := by simp
      rw [hf, List.append_assoc] at h
      have ih := dscs_read n xs _ hxs h (fun x hx => hg x (List.mem_append_left _ hx))
      have hd := dsc_read (drop_more h) (hg d (by simp))
      simp only [dscN]
      rw [ih]
      dsimp only
      rw [hd, hf, List.length_append, Nat.add_assoc]
theorem lst_read {bs rest : List UInt8} {a most : Nat} {ds : List DD} (h : bs.drop a = listB ds ++ rest) (hg : ∀ d ∈ ds, GD d) (hm : ds.length ≤ most) (hx : most ≤ 1000) : lstR bs (.ok a) (0, 0) most = (ds, .ok (a + (listB ds).length), (0, 0)) := by
  have e : listB ds = enc ds.length ++ ds.flatMap descB := rfl
  rw [e] at h ⊢
  rw [List.append_assoc] at h
  have q1 := num_read (most := maxI) h (by omega) 0 (by unfold maxI; omega)
  have d1 := drop_more h
  rw [enc_length] at d1
  have q2 := dscs_read ds.length ds _ rfl d1 hg
  unfold lstR
  rw [q1]
  dsimp only
  rw [if_neg (by omega), q2, List.length_append, enc_length, Nat.add_assoc]
structure GM (m : MM) : Prop where
  vm : VM m
  t : m.t.length ≤ 4096
  c : m.c.p.length ≤ 4096
  l : ∀ d ∈ m.l, d.p.length ≤ 4096
  u : ∀ d ∈ m.u, d.p.length ≤ 4096
theorem man_read {m : MM} (hg : GM m) (rest : List UInt8) : manR (manBytes m ++ rest) (.ok 0) (0, 0) = (m, .ok (manBytes m).length, (0, 0)) := by
  obtain ⟨hv, ht, hc, hl, hu⟩ := hg
  have gc : GD m.c := ⟨hv.c.1, hv.c.2.1, hv.c.2.2, hc⟩
  have gl : ∀ d ∈ m.l, GD d := fun d hd => ⟨(hv.l d hd).1, (hv.l d hd).2.1, (hv.l d hd).2.2, hl d hd⟩
  have gu : ∀ d ∈ m.u, GD d := fun d hd => ⟨(hv.u d hd).1, (hv.u d hd).2.1, (hv.u d hd).2.2, hu d hd⟩
  have hll := hv.ll
  have hlu := hv.lu
  have hkk := hv.kind
  clear hv hc hl hu
  obtain ⟨k, t, c, l, u⟩ := m
  dsimp only at *
  obtain ⟨K, rfl, hK⟩ : ∃ K : Nat, k = (K : Int) ∧ (K = 3 ∨ K = 4) := by
    rcases hkk with h | h
    · exact ⟨3, h.1, .inl rfl⟩
    · exact ⟨4, h.1, .inr rfl⟩
  generalize hB : manBytes ⟨(K : Int), t, c, l, u⟩ = B
  have h0 : (B ++ rest).drop 0 = enc 77 ++ (enc K ++ (enc t.length ++ (t ++ (bodyB ⟨(K : Int), t, c, l, u⟩ ++ rest)))) := by
    rw [← hB]
    show (enc 77 ++ (enc K ++ (enc t.length ++ (t ++ bodyB ⟨(K : Int), t, c, l, u⟩)))) ++ rest = _
    simp only [List.append_assoc]
  have hBl : B.length = encSize 77 + (encSize K + (encSize t.length + (t.length + (bodyB ⟨(K : Int), t, c, l, u⟩).length))) := by
    rw [← hB]
    show (enc 77 ++ (enc K ++ (enc t.length ++ (t ++ bodyB ⟨(K : Int), t, c, l, u⟩)))).length = _
    simp only [List.length_append, enc_length]
  generalize B ++ rest = bs at h0 ⊢
  have q1 := num_read (most := maxI) h0 (by omega) 0 (by unfold maxI; omega)
  have d1 := drop_more h0
  rw [enc_length] at d1
  have q2 := num_read (most := maxI) d1 (by omega) 0 (by unfold maxI; omega)
  have d2 := drop_more d1
  rw [enc_length] at d2
  have q3 := sized_read d2 ht
  have d3 := drop_more (drop_more d2)
  have hk1 : kind1 bs (.ok 0) (0, 0) = (0, 0) := by unfold kind1; rw [q1, if_pos rfl]
  have hk2 : kind2 bs (.ok (0 + encSize 77)) (0, 0) = (0, 0) := by unfold kind2; rw [q2, if_pos hK]
  unfold manR
  rw [hk1, q1]
  dsimp only
  rw [q2, hk2]
  dsimp only
  unfold manB
  rw [q3]
  rw [Nat.add_assoc _ (enc t.length).length, ← List.length_append] at d3
  dsimp only
  rcases hkk with ⟨hk3, hu0⟩ | ⟨hk4, hc0, hl0⟩
  · have hK3 : K = 3 := by omega
    subst hK3
    subst hu0
    have hb : bodyB ⟨((3 : Nat) : Int), t, c, l, []⟩ = descB c ++ listB l := if_neg (show ¬ ((3 : Nat) : Int) = 4 by decide)
    rw [hb] at d3 hBl
    rw [List.append_assoc] at d3
    have q4 := dsc_read d3 gc
    have q5 := lst_read (drop_more d3) gl (most := 16) hll (by omega)
    rw [if_pos rfl, q4]
    dsimp only
    rw [q5]
    dsimp only
    simp only [List.length_append, enc_length] at hBl ⊢
    rw [hBl]
    simp only [Prod.mk.injEq, RS.ok.injEq, and_true]
    exact ⟨rfl, by omega⟩
  · have hK4 : K = 4 := by omega
    subst hK4
    subst hc0
    subst hl0
    have hb : bodyB ⟨((4 : Nat) : Int), t, zeroD, [], u⟩ = listB u := if_pos rfl
    rw [hb] at d3 hBl
    have q5 := lst_read d3 gu (most := 8) hlu (by omega)
    rw [if_neg (by decide), if_pos rfl, q5]
    dsimp only
    simp only [List.length_append, enc_length] at hBl ⊢
    rw [hBl]
    simp only [Prod.mk.injEq, RS.ok.injEq, and_true]
    exact ⟨rfl, by omega⟩
theorem desc_le {ds : List DD} {d : DD} (hd : d ∈ ds) : d.p.length ≤ (ds.flatMap descB).length := by
  induction ds with
  | nil => simp at hd
  | cons x xs ih =>
    rw [List.flatMap_cons, List.length_append]
    rcases List.mem_cons.1 hd with rfl | hd
    · have : d.p.length ≤ (descB d).length := by unfold descB; simp only [List.length_append]; omega
      omega
    · have := ih hd; omega
/-- what fits is no longer than it may be -/
theorem fit_good {m : MM} (hv : VM m) (hl : (manBytes m).length ≤ 4096) : GM m := by
  unfold manBytes at hl
  simp only [List.length_append] at hl
  have ht : m.t.length ≤ 4096 := by omega
  have hb : (bodyB m).length ≤ 4096 := by omega
  clear hl
  have hkk := hv.kind
  unfold bodyB at hb
  rcases hkk with ⟨hk, hu⟩ | ⟨hk, hc, hl⟩
  · rw [if_neg (by omega)] at hb
    unfold listB at hb
    simp only [List.length_append] at hb
    refine ⟨hv, ht, ?_, fun d hd => by have := desc_le hd; omega, fun d hd => by rw [hu] at hd; simp at hd⟩
    have : m.c.p.length ≤ (descB m.c).length := by unfold descB; simp only [List.length_append]; omega
    omega
  · rw [if_pos hk] at hb
    unfold listB at hb
    simp only [List.length_append] at hb
    exact ⟨hv, ht, by rw [hc]; simp [zeroD], fun d hd => by rw [hl] at hd; simp at hd, fun d hd => by have := desc_le hd; omega⟩
theorem back_dec {m : MM} (hv : VM m) (hl : (manBytes m).length ≤ 4096) : decF (manBytes m) = (0, 0) ∧ decM (manBytes m) = m := by
  have h := man_read (fit_good hv hl) []
  rw [List.append_nil] at h
  have hR : decR (manBytes m) = (m, .ok (manBytes m).length, (0, 0)) := h
  have hF : decF (manBytes m) = srcEnd (manBytes m) (decR (manBytes m)).2.1 (decR (manBytes m)).2.2 := if_neg (by omega)
  have hF0 : decF (manBytes m) = (0, 0) := by
    rw [hF, hR]
    show srcEnd (manBytes m) (.ok (manBytes m).length) (0, 0) = _
    rw [show srcEnd (manBytes m) (.ok (manBytes m).length) (0, 0) = endS (manBytes m) (.ok (manBytes m).length) from if_pos rfl]
    exact if_neg (Nat.lt_irrefl _)
  exact ⟨hF0, by rw [show decM (manBytes m) = (decR (manBytes m)).1 from if_pos (by rw [hF0]), hR]⟩
theorem back_cut {m : MM} (hv : VM m) (hl : (manBytes m).length ≤ 4096) {j : Nat} (hj : j < (manBytes m).length) : (decF ((manBytes m).take j)).1 ≠ 0 := by
  intro h
  obtain ⟨-, hv', -, -, -, hb⟩ := dec_good h
  have hl' : (manBytes (decM ((manBytes m).take j))).length = j := by rw [hb, List.length_take]; omega
  have h1 := man_read (fit_good hv' (by omega)) ((manBytes m).drop j)
  rw [hl', hb, List.take_append_drop] at h1
  have h2 := man_read (fit_good hv hl) []
  rw [List.append_nil, h1] at h2
  simp only [Prod.mk.injEq, RS.ok.injEq] at h2
  omega
theorem back_more {m : MM} (hv : VM m) (hl : (manBytes m).length ≤ 4096) (x : UInt8) : decF (manBytes m ++ [x]) = (4, (manBytes m).length) := by
  by_cases h6 : (manBytes m).length = 4096
  · rw [h6]
    exact if_pos (by rw [List.length_append, h6]; simp)
  · have h := man_read (fit_good hv hl) [x]
    have hR : decR (manBytes m ++ [x]) = (m, .ok (manBytes m).length, (0, 0)) := h
    have hF : decF (manBytes m ++ [x]) = srcEnd (manBytes m ++ [x]) (decR (manBytes m ++ [x])).2.1 (decR (manBytes m ++ [x])).2.2 := if_neg (by rw [List.length_append]; simp; omega)
    rw [hF, hR]
    show srcEnd (manBytes m ++ [x]) (.ok (manBytes m).length) (0, 0) = _
    rw [show srcEnd (manBytes m ++ [x]) (.ok (manBytes m).length) (0, 0) = endS (manBytes m ++ [x]) (.ok (manBytes m).length) from if_pos rfl]
    exact if_pos (by rw [List.length_append]; simp)
end Go.Proofs.Ytfmbnlnnfoonjaa
