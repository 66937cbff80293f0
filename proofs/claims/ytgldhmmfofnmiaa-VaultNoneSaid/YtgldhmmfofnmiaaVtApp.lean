/- Contracts: the step that writes a record; steps done to a vault's device. -/
import Derived.Test.YtgldhmmfofnmiaaVtClone
import Derived.Test.YtgldhmmfofnmiaaRegInvG
namespace Go.Proofs.Ytgldhmmfofnmiaa
open Go.RowKit

/-- the boxes of a closure that writes -/
structure WEnv (w : World) (b v e : Nat) (sl : Value) (a : AR) : Prop where
  pv : Blk w b 23 #[.pointer (some ⟨v, 0, none⟩)]
  ps : Blk w (b + 1) 38 #[sl]
  pa : Blk w (b + 2) 40 #[.int .i64 a.a, .int .i64 a.b, .int .i64 a.g]
  pe : Blk w (b + 3) 68 #[.pointer (some ⟨e, 0, none⟩)]
theorem WEnv.chg {w w' : World} {L : List Nat} {b v e : Nat} {sl : Value} {a : AR} (h : WEnv w b v e sl a) (hc : Chg L w w') (hL : ∀ x ∈ L, x < b ∨ b + 4 ≤ x) : WEnv w' b v e sl a :=
  ⟨h.pv.chg hc (fun hm => by have := hL _ hm; omega), h.ps.chg hc (fun hm => by have := hL _ hm; omega), h.pa.chg hc (fun hm => by have := hL _ hm; omega), h.pe.chg hc (fun hm => by have := hL _ hm; omega)⟩
theorem WEnv.keep {w w' : World} {b v e : Nat} {sl : Value} {a : AR} (h : WEnv w b v e sl a) (hb : Below w.heap.size w w') : WEnv w' b v e sl a := h.chg (L := []) (Chg.of_below hb) (fun x hx => by cases hx)
def wrFn (b : Nat) : FnV := ⟨62, #[], #[.pointer (some ⟨b, 0, none⟩), .pointer (some ⟨b + 2, 0, none⟩), .pointer (some ⟨b + 3, 0, none⟩), .pointer (some ⟨b + 1, 0, none⟩)]⟩
theorem four_new (w : World) (c0 c1 c2 c3 : Array Value) (t0 t1 t2 t3 : TypeId) : ∃ W, W = (((w.alloc (.cells c0 t0)).alloc (.cells c1 t1)).alloc (.cells c2 t2)).alloc (.cells c3 t3) ∧ Blk W w.heap.size t0 c0 ∧ Blk W (w.heap.size + 1) t1 c1 ∧ Blk W (w.heap.size + 2) t2 c2 ∧ Blk W (w.heap.size + 3) t3 c3 ∧ Below w.heap.size w W := by
  obtain ⟨W, e, k0, k1, k2, hb⟩ := threeNew w c0 c1 c2 t0 t1 t2
  have s : W.heap.size = w.heap.size + 3 := by rw [e]; simp
  have k3 := Blk.new W t3 c3
  have b3 := below_new W (.cells c3 t3)
  rw [s] at k3
  exact ⟨_, rfl, by rw [← e]; exact k0.keep b3, by rw [← e]; exact k1.keep b3, by rw [← e]; exact k2.keep b3, by rw [← e]; exact k3, by rw [← e]; exact hb.trans (b3.mono hb.size)⟩
theorem writing_calls (v n c e : Nat) (A : Option Addr) (a : AR) (w : World) :
    Calls Try.prog 30 #[.pointer (some ⟨v, 0, none⟩), .slice A n c, arv a, .pointer (some ⟨e, 0, none⟩)] w fun e' w' => e' = .returned (fnV (wrFn w.heap.size)) ∧ WEnv w' w.heap.size v e (.slice A n c) a ∧ Below w.heap.size w w' := by
  obtain ⟨x, y, z⟩ := a
  unfold arv
  dsimp only
  obtain ⟨W, hW, k0, k1, k2, k3, hB⟩ := four_new w #[.pointer (some ⟨v, 0, none⟩)] #[.slice A n c] #[.int .i64 x, .int .i64 y, .int .i64 z] #[.pointer (some ⟨e, 0, none⟩)] 23 38 40 68
  have HE := hid (show WEnv W w.heap.size v e (.slice A n c) ⟨x, y, z⟩ from ⟨k0, k1, k2, k3⟩)
  have HB := hid hB
  rw [hW] at HE HB
  clear hW k0 k1 k2 k3 hB
  go_enter Try.func30, Try.ntmps30
  go_wp2_with fail
  go_ret
  exact ⟨rfl, HE.out, HB.out⟩
section
variable (base g : Nat) (F : List Nat) (s : DS) (w : World)
/-- where a step that may write block e has come to -/
def VtAt (w0 : World) (base : Nat) (F : List Nat) (g e : Nat) (p : DS × Int) (W : World) : Prop :=
  ∃ F', DevB W base F' g p.1 ∧ Chg (e :: F) w0 W ∧ (∀ b ∈ F', b ∈ F ∨ w0.heap.size ≤ b) ∧ Blk W e 3 #[.int .i64 p.2]
section
variable {f : Nat → Bool}
theorem updV_ne {i j : Nat} (h : j ≠ i) : upd f i j = f j := by unfold upd; simp [h]
theorem updV_eq {i : Nat} : upd f i i = true := by unfold upd; simp
end
def wr1V (e v g : Nat) (a0 a1 a2 at_ : Int) (A : Option Addr) (n c : Nat) (X : Int) (E : Nat) : Nat → Unit → Value
  | 0, _ => .pointer (some ⟨e, 0, none⟩)
  | 1, _ => .pointer (some ⟨v, 0, none⟩)
  | 2, _ => .pointer (some ⟨v, 0, none⟩)
  | 3, _ => .pointer (some ⟨v, 1, none⟩)
  | 4, _ => .pointer (some ⟨g, 0, none⟩)
  | 5, _ => .agg #[.int .i64 a0, .int .i64 a1, .int .i64 a2]
  | 6, _ => .pointer (some ⟨e, 0, none⟩)
  | 7, _ => .pointer (some ⟨e, 0, none⟩)
  | 8, _ => .int .i64 at_
  | 9, _ => .slice A n c
  | 10, _ => .tuple #[.int .i64 X, .int .i64 (E : Int)]
  | 11, _ => .tuple #[.int .i64 X, .int .i64 (E : Int)]
  | 12, _ => .int .i64 X
  | 13, _ => .int .i64 (E : Int)
  | 14, _ => .pointer (some ⟨e, 0, none⟩)
  | 16, _ => .int .i64 (E : Int)
  | _, _ => undef
set_option maxRecDepth 20000 in
set_option maxHeartbeats 4000000 in
theorem wr1_calls (b v e n c : Nat) (at_ : Int) (A : Option Addr) (rec : List UInt8) (a : AR) (h : DevB w base F g s) (hbase : base ≤ w.heap.size) (hf : fuseOK s) (hlo : s.loose.length + 65536 ≤ 1000000)
    (hv : w.cell? ⟨v, 1, none⟩ = some (.pointer (some ⟨g, 0, none⟩))) (hvf : v ∉ F) (hve : v ≠ e) (hw : WEnv w b v e (.slice A n c) a) (hb : ∀ x ∈ e :: F, x < b ∨ b + 4 ≤ x) (he : Blk w e 3 #[.int .i64 at_]) (hef : e ∉ F)
    (hs : SB w w.heap.size A n rec) (hc : n ≤ c) (hne : ∀ b off, 0 < n → A = some ⟨b, off, none⟩ → b ∉ F) :
    Calls Try.prog 62 (wrFn b).cap w fun e' w' => e' = .returned (.int .i64 ((putStep a rec (s, at_)).2 : Int)) ∧ VtAt w base F g e (putStep a rec (s, at_)).1 w' := by
  have HW := hid (lgWrite_calls base g F s w.drew a at_ A n c w.heap.size rec h.drew hbase hf hlo hs.drew hc (fun hp b off e hm => hne b off hp e hm))
  have HR := hid (show putStep a rec (s, at_) = (((logWR s a at_ rec).1, (logWR s a at_ rec).2.1), (logWR s a at_ rec).2.2) from rfl)
  obtain ⟨s', X, E, hR⟩ : ∃ s' X E, logWR s a at_ rec = (s', X, E) := ⟨_, _, _, rfl⟩
  rw [hR] at HW HR
  dsimp only at HW HR
  generalize putStep a rec (s, at_) = R at HR ⊢
  have d0 := hw.pv.drew
  have d1 := hw.ps.drew
  have d2 := hw.pa.drew
  have d3 := hw.pe.drew
  have HCH := hid (fun W (hc : Chg F w.drew W) => (⟨(d0.chg hc (fun hm => by have := hb _ (List.mem_cons_of_mem _ hm); omega)).cell 0 rfl, cell_chg (show w.drew.cell? ⟨v, 1, none⟩ = some (.pointer (some ⟨g, 0, none⟩)) from hv) hc hvf, (d2.chg hc (fun hm => by have := hb _ (List.mem_cons_of_mem _ hm); omega)).cell 0 rfl, (d2.chg hc (fun hm => by have := hb _ (List.mem_cons_of_mem _ hm); omega)).cell 1 rfl, (d2.chg hc (fun hm => by have := hb _ (List.mem_cons_of_mem _ hm); omega)).cell 2 rfl, (d3.chg hc (fun hm => by have := hb _ (List.mem_cons_of_mem _ hm); omega)).cell 0 rfl, (d1.chg hc (fun hm => by have := hb _ (List.mem_cons_of_mem _ hm); omega)).cell 0 rfl⟩ :
    W.cell? ⟨b, 0, none⟩ = some (.pointer (some ⟨v, 0, none⟩)) ∧ W.cell? ⟨v, 1, none⟩ = some (.pointer (some ⟨g, 0, none⟩)) ∧ W.cell? ⟨b + 2, 0, none⟩ = some (.int .i64 a.a) ∧ W.cell? ⟨b + 2, 1, none⟩ = some (.int .i64 a.b) ∧ W.cell? ⟨b + 2, 2, none⟩ = some (.int .i64 a.g) ∧ W.cell? ⟨b + 3, 0, none⟩ = some (.pointer (some ⟨e, 0, none⟩)) ∧ W.cell? ⟨b + 1, 0, none⟩ = some (.slice A n c)))
  have HSE := hid (fun (W : World) (u : Value) (hS : W.cell? ⟨b, 0, none⟩ = some (.pointer (some ⟨v, 0, none⟩)) ∧ W.cell? ⟨v, 1, none⟩ = some (.pointer (some ⟨g, 0, none⟩)) ∧ W.cell? ⟨b + 2, 0, none⟩ = some (.int .i64 a.a) ∧ W.cell? ⟨b + 2, 1, none⟩ = some (.int .i64 a.b) ∧ W.cell? ⟨b + 2, 2, none⟩ = some (.int .i64 a.g) ∧ W.cell? ⟨b + 3, 0, none⟩ = some (.pointer (some ⟨e, 0, none⟩)) ∧ W.cell? ⟨b + 1, 0, none⟩ = some (.slice A n c)) =>
    (⟨cell_chg hS.1 (chg_set (L := [e]) (by simp) 0 u) (by have := hb e (by simp); simp; omega), cell_chg hS.2.1 (chg_set (L := [e]) (by simp) 0 u) (by simpa using hve), cell_chg hS.2.2.1 (chg_set (L := [e]) (by simp) 0 u) (by have := hb e (by simp); simp; omega), cell_chg hS.2.2.2.1 (chg_set (L := [e]) (by simp) 0 u) (by have := hb e (by simp); simp; omega), cell_chg hS.2.2.2.2.1 (chg_set (L := [e]) (by simp) 0 u) (by have := hb e (by simp); simp; omega), cell_chg hS.2.2.2.2.2.1 (chg_set (L := [e]) (by simp) 0 u) (by have := hb e (by simp); simp; omega), cell_chg hS.2.2.2.2.2.2 (chg_set (L := [e]) (by simp) 0 u) (by have := hb e (by simp); simp; omega)⟩ :
    (W.setCell ⟨e, 0, none⟩ u).cell? ⟨b, 0, none⟩ = some (.pointer (some ⟨v, 0, none⟩)) ∧ (W.setCell ⟨e, 0, none⟩ u).cell? ⟨v, 1, none⟩ = some (.pointer (some ⟨g, 0, none⟩)) ∧ (W.setCell ⟨e, 0, none⟩ u).cell? ⟨b + 2, 0, none⟩ = some (.int .i64 a.a) ∧ (W.setCell ⟨e, 0, none⟩ u).cell? ⟨b + 2, 1, none⟩ = some (.int .i64 a.b) ∧ (W.setCell ⟨e, 0, none⟩ u).cell? ⟨b + 2, 2, none⟩ = some (.int .i64 a.g) ∧ (W.setCell ⟨e, 0, none⟩ u).cell? ⟨b + 3, 0, none⟩ = some (.pointer (some ⟨e, 0, none⟩)) ∧ (W.setCell ⟨e, 0, none⟩ u).cell? ⟨b + 1, 0, none⟩ = some (.slice A n c)))
  have hS0 := HCH.out w.drew (Chg.of_below (L := F) (Below.refl _ _))
  have hat : w.drew.cell? ⟨e, 0, none⟩ = some (.int .i64 at_) := he.cell 0 rfl
  have HE := hid (fun W (hc : Chg F w.drew W) => he.drew.chg hc hef)
  have HEF := hid hef
  have HEW := hid he.lt
  obtain ⟨a0, a1, a2⟩ := a
  unfold arv at HW
  dsimp only at HW HCH HSE hS0
  have HCS := hid (show ∀ (f : Nat → Bool) (W : World), ((f 10 = false → W = w.drew) ∧ (f 10 = true → ∃ w7, DevAt w.drew base F g s' w7 ∧ W = if f 15 = true then w7.setCell ⟨e, 0, none⟩ (.int .i64 X) else w7)) → W.cell? ⟨b, 0, none⟩ = some (.pointer (some ⟨v, 0, none⟩)) ∧ W.cell? ⟨v, 1, none⟩ = some (.pointer (some ⟨g, 0, none⟩)) ∧ W.cell? ⟨b + 2, 0, none⟩ = some (.int .i64 a0) ∧ W.cell? ⟨b + 2, 1, none⟩ = some (.int .i64 a1) ∧ W.cell? ⟨b + 2, 2, none⟩ = some (.int .i64 a2) ∧ W.cell? ⟨b + 3, 0, none⟩ = some (.pointer (some ⟨e, 0, none⟩)) ∧ W.cell? ⟨b + 1, 0, none⟩ = some (.slice A n c) from fun f W h => by
    cases q : f 10 with
    | false => rw [h.1 q]; exact hS0
    | true =>
      obtain ⟨w7, p, rfl⟩ := h.2 q
      split
      · exact HSE.out _ _ (HCH.out w7 p.chg)
      · exact HCH.out w7 p.chg)
  have HCE := hid (show ∀ (f : Nat → Bool) (W : World), ((f 10 = false → W = w.drew) ∧ (f 10 = true → ∃ w7, DevAt w.drew base F g s' w7 ∧ W = if f 15 = true then w7.setCell ⟨e, 0, none⟩ (.int .i64 X) else w7)) → ∃ u, W.cell? ⟨e, 0, none⟩ = some u from fun f W h => by
    cases q : f 10 with
    | false => rw [h.1 q]; exact ⟨_, hat⟩
    | true =>
      obtain ⟨w7, p, rfl⟩ := h.2 q
      split
      · exact ⟨_, ((HE.out w7 p.chg).set_ 0 _).cell 0 rfl⟩
      · exact ⟨_, (HE.out w7 p.chg).cell 0 rfl⟩)
  have HW2 := hid (show ∀ (W : World), W = w.drew → Calls Try.prog 63 #[.pointer (some ⟨g, 0, none⟩), .agg #[.int .i64 a0, .int .i64 a1, .int .i64 a2], .int .i64 at_, .slice A n c] W fun e' w' => e' = .returned (.tuple #[.int .i64 X, .int .i64 (E : Int)]) ∧ DevAt w.drew base F g s' w' from fun W q => by rw [q]; exact HW.out)
  clear h hf hR hv hw he hs hc hne hef d0 d1 d2 d3 hb
  show Calls Try.prog _ #[.pointer (some ⟨b, 0, none⟩), .pointer (some ⟨b + 2, 0, none⟩), .pointer (some ⟨b + 3, 0, none⟩), .pointer (some ⟨b + 1, 0, none⟩)] w _
  go_enter Try.func62, Try.ntmps62
  go_wp2_with fail
  refine wp_region_invG 21 () (wr1V e v g a0 a1 a2 at_ A n c X E) (fun f _ W => (f 10 = false → W = w.drew) ∧ (f 10 = true → ∃ w7, DevAt w.drew base F g s' w7 ∧ W = if f 15 = true then w7.setCell ⟨e, 0, none⟩ (.int .i64 X) else w7)) (by kernel_rfl) (by kernel_rfl) (by exact Nat.le_refl 21) ?_ ?_ ?_
  · exact ⟨fun _ => rfl, fun q => absurd q (by decide)⟩
  · intro i o f gh a W hi hf hdep hsame hcl hval hS
    rcases i with _ | _ | _ | _ | _ | _ | _ | _ | _ | _ | _ | _ | _ | _ | _ | _ | _ | i
    all_goals simp only [List.getElem?_cons_succ, List.getElem?_cons_zero, List.getElem?_nil, Option.some.injEq, reduceCtorEq] at hi
    all_goals subst hi
    · have E2 : a.tmps[2]? = some (.pointer (some ⟨b + 3, 0, none⟩)) := (same_of hsame 2 (by rfl)).trans rfl
      obtain ⟨c1, c2, c3, c4, c5, c6, c7⟩ := HCS.out f W hS
      refine g_plain rfl ?_
      exact does_value (w' := W) (v := .pointer (some ⟨e, 0, none⟩)) (by go_simp) ⟨(), .inr rfl, ⟨fun q => hS.1 (by rwa [updV_ne (by decide)] at q), fun q => by rw [updV_ne (by decide)] at q; rw [updV_ne (by decide)]; exact hS.2 q⟩⟩
    · have E0 : a.tmps[0]? = some (.pointer (some ⟨b, 0, none⟩)) := (same_of hsame 0 (by rfl)).trans rfl
      obtain ⟨c1, c2, c3, c4, c5, c6, c7⟩ := HCS.out f W hS
      refine g_plain rfl ?_
      exact does_value (w' := W) (v := .pointer (some ⟨v, 0, none⟩)) (by go_simp) ⟨(), .inr rfl, ⟨fun q => hS.1 (by rwa [updV_ne (by decide)] at q), fun q => by rw [updV_ne (by decide)] at q; rw [updV_ne (by decide)]; exact hS.2 q⟩⟩
    · have E7 := hval 1 _ 7 rfl rfl (dep_of hdep 1 (by rfl))
      unfold wr1V at E7
      obtain ⟨c1, c2, c3, c4, c5, c6, c7⟩ := HCS.out f W hS
      refine g_plain rfl ?_
      exact does_value (w' := W) (v := .pointer (some ⟨v, 0, none⟩)) (by go_simp) ⟨(), .inr rfl, ⟨fun q => hS.1 (by rwa [updV_ne (by decide)] at q), fun q => by rw [updV_ne (by decide)] at q; rw [updV_ne (by decide)]; exact hS.2 q⟩⟩
    · have E8 := hval 2 _ 8 rfl rfl (dep_of hdep 2 (by rfl))
      unfold wr1V at E8
      refine g_plain rfl ?_
      exact does_value (w' := W) (v := .pointer (some ⟨v, 1, none⟩)) (by go_simp) ⟨(), .inr rfl, ⟨fun q => hS.1 (by rwa [updV_ne (by decide)] at q), fun q => by rw [updV_ne (by decide)] at q; rw [updV_ne (by decide)]; exact hS.2 q⟩⟩
    · have E9 := hval 3 _ 9 rfl rfl (dep_of hdep 3 (by rfl))
      unfold wr1V at E9
      obtain ⟨c1, c2, c3, c4, c5, c6, c7⟩ := HCS.out f W hS
      refine g_plain rfl ?_
      exact does_value (w' := W) (v := .pointer (some ⟨g, 0, none⟩)) (by go_simp) ⟨(), .inr rfl, ⟨fun q => hS.1 (by rwa [updV_ne (by decide)] at q), fun q => by rw [updV_ne (by decide)] at q; rw [updV_ne (by decide)]; exact hS.2 q⟩⟩
    · have E1 : a.tmps[1]? = some (.pointer (some ⟨b + 2, 0, none⟩)) := (same_of hsame 1 (by rfl)).trans rfl
      obtain ⟨c1, c2, c3, c4, c5, c6, c7⟩ := HCS.out f W hS
      refine g_plain rfl ?_
      exact does_value (w' := W) (v := .agg #[.int .i64 a0, .int .i64 a1, .int .i64 a2]) (by go_simp) ⟨(), .inr rfl, ⟨fun q => hS.1 (by rwa [updV_ne (by decide)] at q), fun q => by rw [updV_ne (by decide)] at q; rw [updV_ne (by decide)]; exact hS.2 q⟩⟩
    · have E2 : a.tmps[2]? = some (.pointer (some ⟨b + 3, 0, none⟩)) := (same_of hsame 2 (by rfl)).trans rfl
      obtain ⟨c1, c2, c3, c4, c5, c6, c7⟩ := HCS.out f W hS
      refine g_plain rfl ?_
      exact does_value (w' := W) (v := .pointer (some ⟨e, 0, none⟩)) (by go_simp) ⟨(), .inr rfl, ⟨fun q => hS.1 (by rwa [updV_ne (by decide)] at q), fun q => by rw [updV_ne (by decide)] at q; rw [updV_ne (by decide)]; exact hS.2 q⟩⟩
    · have E12 := hval 6 _ 12 rfl rfl (dep_of hdep 6 (by rfl))
      unfold wr1V at E12
      have n10 := not_yet hcl hf 8 (by rfl)
      have n11 := not_yet hcl n10 10 (by rfl)
      have c8 : W.cell? ⟨e, 0, none⟩ = some (.int .i64 at_) := by rw [hS.1 n11]; exact hat
      refine g_plain rfl ?_
      exact does_value (w' := W) (v := .pointer (some ⟨e, 0, none⟩)) (by go_simp) ⟨(), .inr rfl, ⟨fun q => hS.1 (by rwa [updV_ne (by decide)] at q), fun q => by rw [updV_ne (by decide)] at q; rw [updV_ne (by decide)]; exact hS.2 q⟩⟩
    · have E13 := hval 7 _ 13 rfl rfl (dep_of hdep 7 (by rfl))
      unfold wr1V at E13
      have n11 := not_yet hcl hf 10 (by rfl)
      have c8 : W.cell? ⟨e, 0, none⟩ = some (.int .i64 at_) := by rw [hS.1 n11]; exact hat
      refine g_plain rfl ?_
      exact does_value (w' := W) (v := .int .i64 at_) (by go_simp) ⟨(), .inr rfl, ⟨fun q => hS.1 (by rwa [updV_ne (by decide)] at q), fun q => by rw [updV_ne (by decide)] at q; rw [updV_ne (by decide)]; exact hS.2 q⟩⟩
    · have E3 : a.tmps[3]? = some (.pointer (some ⟨b + 1, 0, none⟩)) := (same_of hsame 3 (by rfl)).trans rfl
      obtain ⟨c1, c2, c3, c4, c5, c6, c7⟩ := HCS.out f W hS
      refine g_plain rfl ?_
      exact does_value (w' := W) (v := .slice A n c) (by go_simp) ⟨(), .inr rfl, ⟨fun q => hS.1 (by rwa [updV_ne (by decide)] at q), fun q => by rw [updV_ne (by decide)] at q; rw [updV_ne (by decide)]; exact hS.2 q⟩⟩
    · have E10 := hval 4 _ 10 rfl rfl (dep_of hdep 4 (by rfl))
      have E11 := hval 5 _ 11 rfl rfl (dep_of hdep 5 (by rfl))
      have E14 := hval 8 _ 14 rfl rfl (dep_of hdep 8 (by rfl))
      have E15 := hval 9 _ 15 rfl rfl (dep_of hdep 9 (by rfl))
      unfold wr1V at E10 E11 E14 E15
      refine g_plain rfl ?_
      refine does_call 63 #[.pointer (some ⟨g, 0, none⟩), .agg #[.int .i64 a0, .int .i64 a1, .int .i64 a2], .int .i64 at_, .slice A n c] (by go_simp) ((HW2.out W (hS.1 hf)).mono ?_)
      have n15 := not_yet hcl (not_yet hcl (not_yet hcl hf 11 (by rfl)) 12 (by rfl)) 15 (by rfl)
      rintro _ W' ⟨rfl, hp⟩
      exact ⟨_, rfl, (), .inr rfl, ⟨fun q => (by rw [updV_eq] at q; cases q), fun _ => ⟨W', hp, by rw [updV_ne (by decide), n15]; rfl⟩⟩⟩
    · have E16 := hval 10 _ 16 rfl rfl (dep_of hdep 10 (by rfl))
      unfold wr1V at E16
      refine g_plain rfl ?_
      exact does_value (w' := W) (v := .tuple #[.int .i64 X, .int .i64 (E : Int)]) (by go_simp) ⟨(), .inr rfl, ⟨fun q => hS.1 (by rwa [updV_ne (by decide)] at q), fun q => by rw [updV_ne (by decide)] at q; rw [updV_ne (by decide)]; exact hS.2 q⟩⟩
    · have E5 := hval 11 _ 5 rfl rfl (dep_of hdep 11 (by rfl))
      unfold wr1V at E5
      refine g_plain rfl ?_
      exact does_value (w' := W) (v := .int .i64 X) (by go_simp) ⟨(), .inr rfl, ⟨fun q => hS.1 (by rwa [updV_ne (by decide)] at q), fun q => by rw [updV_ne (by decide)] at q; rw [updV_ne (by decide)]; exact hS.2 q⟩⟩
    · have E5 := hval 11 _ 5 rfl rfl (dep_of hdep 11 (by rfl))
      unfold wr1V at E5
      refine g_plain rfl ?_
      exact does_value (w' := W) (v := .int .i64 (E : Int)) (by go_simp) ⟨(), .inr rfl, ⟨fun q => hS.1 (by rwa [updV_ne (by decide)] at q), fun q => by rw [updV_ne (by decide)] at q; rw [updV_ne (by decide)]; exact hS.2 q⟩⟩
    · have E6 := hval 0 _ 6 rfl rfl (dep_of hdep 0 (by rfl))
      unfold wr1V at E6
      obtain ⟨u8, c8⟩ := HCE.out f W hS
      refine g_plain rfl ?_
      exact does_value (w' := W) (v := .pointer (some ⟨e, 0, none⟩)) (by go_simp) ⟨(), .inr rfl, ⟨fun q => hS.1 (by rwa [updV_ne (by decide)] at q), fun q => by rw [updV_ne (by decide)] at q; rw [updV_ne (by decide)]; exact hS.2 q⟩⟩
    · have E19 := hval 14 _ 19 rfl rfl (dep_of hdep 14 (by rfl))
      have E17 := hval 12 _ 17 rfl rfl (dep_of hdep 12 (by rfl))
      unfold wr1V at E19 E17
      have h10 : f 10 = true := by cases e10 : f 10 with | true => rfl | false => exact absurd (dep_of hdep 12 (by rfl)) (by rw [not_yet hcl (not_yet hcl e10 11 (by rfl)) 12 (by rfl)]; decide)
      obtain ⟨w7, hp, eW⟩ := hS.2 h10
      rw [hf] at eW
      obtain rfl : W = w7 := eW
      have c8 := (HE.out W hp.chg).cell 0 rfl
      have c9 := (HE.out W hp.chg).frozen 0
      refine g_plain rfl ?_
      exact does_skip (w' := W.setCell ⟨e, 0, none⟩ (.int .i64 X)) (by go_simp) ⟨(), .inl rfl, ⟨fun q => (by rw [updV_ne (by decide), h10] at q; cases q), fun _ => ⟨W, hp, by rw [updV_eq]; rfl⟩⟩⟩
    · have E18 := hval 13 _ 18 rfl rfl (dep_of hdep 13 (by rfl))
      unfold wr1V at E18
      refine g_plain rfl ?_
      exact does_value (w' := W) (v := .int .i64 (E : Int)) (by go_simp) ⟨(), .inr rfl, ⟨fun q => hS.1 (by rwa [updV_ne (by decide)] at q), fun q => by rw [updV_ne (by decide)] at q; rw [updV_ne (by decide)]; exact hS.2 q⟩⟩
  · intro gh w9 hS
    obtain ⟨w7, HP', rfl⟩ := hS.2 rfl
    rw [if_pos rfl]
    have HP := hid HP'
    clear HP' hS
    simp only [putAll, wr1V, Nat.reduceAdd, Nat.zero_add, Act.put, List.setIfInBounds_toArray, List.set_cons_zero, List.set_cons_succ]
    go_wp2_with fail
    go_ret
    have hp : DevAt w.drew base F g s' w7 := HP.out
    obtain ⟨F', q1, q2, q3⟩ := DevAt.from_ ((Below.refl _ _).drew) hp
    have hk := HE.out w7 hp.chg
    have hcg : Chg (e :: F) w7 (w7.setCell ⟨e, 0, none⟩ (.int .i64 X)) := chg_set (by simp) 0 _
    have hlt : e < w.heap.size := HEW.out
    refine ⟨by rw [HR.out]; rfl, F', ?_, ?_, fun x hx => q3 x hx, ?_⟩
    · rw [HR.out]
      exact q1.chg (chg_set (L := [e]) (by simp) 0 _) (fun x hx hm => by
        have : x = e := by simpa using hm
        subst this
        rcases q3 x hx with h | h
        · exact HEF.out h
        · omega)
    · exact ((q2.more (fun x hx => .inl (List.mem_cons_of_mem _ hx))).trans hcg (fun x hx => .inl hx))
    · rw [HR.out]
      exact hk.set_ 0 _
end
end Go.Proofs.Ytgldhmmfofnmiaa
/- Contracts: steps done to a vault; a vault moved to records. -/
namespace Go.Proofs.Ytgldhmmfofnmiaa
open Go.RowKit

def errB (er : Nat) : Bool := !decide (er = 0)
theorem vdo_calls (I : World → Prop) (er v b c n : Nat) (w : World) (hdo : Calls Try.prog 40 #[.slice (some ⟨b, 0, none⟩) n c] w fun e w' => e = .returned (.int .i64 (er : Int)) ∧ I w') (hv : ∀ w', I w' → ∃ cs, Blk w' v 42 cs ∧ 8 ≤ cs.size) :
    Calls Try.prog 29 #[.pointer (some ⟨v, 0, none⟩), .slice (some ⟨b, 0, none⟩) n c] w fun e w' => e = .returned (.int .i64 (er : Int)) ∧ ∃ W, I W ∧ w' = W.setCell ⟨v, 7, none⟩ (.bool (errB er)) := by
  have HD := hid hdo; have HV := hid hv
  clear hdo hv
  by_cases he : er = 0
  · subst he
    go_enter Try.func29, Try.ntmps29
    go_wp2_with fail
    refine HD.out.mono ?_
    rintro _ w1 ⟨rfl, hI⟩
    rw [show ((0 : Nat) : Int) = 0 from rfl]
    obtain ⟨cs, hk, hs⟩ := HV.out w1 hI
    obtain ⟨u, hu⟩ : ∃ u, cs[7]? = some u := ⟨cs[7]'(by omega), Array.getElem?_eq_getElem (by omega)⟩
    have c7 := hk.cell 7 hu
    have f7 := hk.frozen 7
    have HI := hid hI
    clear hI hk hu HV HD
    go_wp2_with fail
    go_ret
    exact ⟨rfl, w1, HI.out, rfl⟩
  · have he' : ¬ (er : Int) = 0 := by omega
    have HE := hid (show errB er = true from by unfold errB; rw [decide_eq_false he]; rfl)
    go_enter Try.func29, Try.ntmps29
    go_wp2_with fail
    refine HD.out.mono ?_
    rintro _ w1 ⟨rfl, hI⟩
    obtain ⟨cs, hk, hs⟩ := HV.out w1 hI
    obtain ⟨u, hu⟩ : ∃ u, cs[7]? = some u := ⟨cs[7]'(by omega), Array.getElem?_eq_getElem (by omega)⟩
    have c7 := hk.cell 7 hu
    have f7 := hk.frozen 7
    have HI := hid hI
    clear hI hk hu HV HD
    go_wp2_with fail
    go_ret
    exact ⟨rfl, w1, HI.out, by rw [HE.out, show ((er : Int) != 0) = true from by simpa using he']⟩
theorem wp_cut {P : Program} {id : Nat} {ops : Array Oper} {b : Bool} {Q : Exit → Act → World → Prop} {a : Act} {w : World} (T : Act → Act → World → Prop) (h : (Code.region id ops b).wp P (fun e a' w' => e = .normal ∧ T a a' w') a w) (k : ∀ a' w', T a a' w' → Q .normal a' w') : (Code.region id ops b).wp P Q a w :=
  Code.wp_mono (fun e a' w' hh => by obtain ⟨rfl, ht⟩ := hh; exact k a' w' ht) h
/-- a vault in memory -/
structure VauIn (w : World) (base : Nat) (F : List Nat) (g v : Nat) (s : DS) (vs : VS) (slf rv : Value) (us : List Value) : Prop where
  dev : DevB w base F g s
  hd : Blk w v 42 (vcells slf g (areaV s.n vs.gen) rv vs.fin vs.broken)
  recs : Recs w base rv vs.recs us
  hv : base ≤ v
  vf : v ∉ F
  rf : ∀ b, (rv.ownBlock = some b ∨ ∃ u ∈ us, u.ownBlock = some b) → b ∉ F ∧ b ≠ v
theorem three_keep {W W' : World} {L : List Nat} {b1 b2 i1 i2 i3 : Nat} {x y z : Value} (h : W.cell? ⟨b1, i1, none⟩ = some x ∧ W.cell? ⟨b2, i2, none⟩ = some y ∧ W.cell? ⟨b2, i3, none⟩ = some z) (hc : Chg L W W') (h1 : b1 ∉ L) (h2 : b2 ∉ L) : W'.cell? ⟨b1, i1, none⟩ = some x ∧ W'.cell? ⟨b2, i2, none⟩ = some y ∧ W'.cell? ⟨b2, i3, none⟩ = some z :=
  ⟨cell_chg h.1 hc h1, cell_chg h.2.1 hc h2, cell_chg h.2.2 hc h2⟩
theorem blk6a {W w6 : World} {b : Nat} {x y z : Value} (h : Blk W b 40 #[x, y, z]) (hb : Below W.heap.size W w6) : w6.cell? ⟨b, 0, none⟩ = some x ∧ w6.cell? ⟨b, 1, none⟩ = some y ∧ w6.cell? ⟨b, 2, none⟩ = some z ∧ w6.frozen? ⟨b, 0, none⟩ = false ∧ w6.frozen? ⟨b, 1, none⟩ = false ∧ w6.frozen? ⟨b, 2, none⟩ = false :=
  ⟨(h.keep hb).cell 0 rfl, (h.keep hb).cell 1 rfl, (h.keep hb).cell 2 rfl, (h.keep hb).frozen 0, (h.keep hb).frozen 1, (h.keep hb).frozen 2⟩
theorem blk6i {W w6 : World} {b : Nat} {x : Value} (h : Blk W b 3 #[x]) (hb : Below W.heap.size W w6) : w6.cell? ⟨b, 0, none⟩ = some x ∧ w6.frozen? ⟨b, 0, none⟩ = false := ⟨(h.keep hb).cell 0 rfl, (h.keep hb).frozen 0⟩
end Go.Proofs.Ytgldhmmfofnmiaa
/- Contracts: the steps of move. -/
namespace Go.Proofs.Ytgldhmmfofnmiaa
open Go.RowKit

section
variable (base g bq v p : Nat) (F : List Nat) (s : DS) (w : World) (a : AR)
set_option maxRecDepth 20000 in
set_option maxHeartbeats 1000000 in
theorem mv1_calls (h : DevB w base F g s) (hbase : base ≤ w.heap.size) (hf : fuseOK s) (hlo : s.loose.length + 65536 ≤ 1000000) (hd : Blk w bq 23 #[.pointer (some ⟨v, 0, none⟩)]) (hbq : bq ∉ F) (hv : w.cell? ⟨v, 1, none⟩ = some (.pointer (some ⟨g, 0, none⟩))) (hvf : v ∉ F) (hp : Blk w p 40 #[.int .i64 a.a, .int .i64 a.b, .int .i64 a.g]) (hpf : p ∉ F) :
    Calls Try.prog 58 #[.pointer (some ⟨bq, 0, none⟩), .pointer (some ⟨p, 0, none⟩)] w fun e w' => e = .returned (.int .i64 ((blankR s a).2 : Int)) ∧ DevAt w base F g (blankR s a).1 w' := by
  have HW := hid (lgBlank_calls base g F s w.drew a h.drew hbase hf hlo)
  have HCH := hid (fun W (hc : Chg F w.drew W) => (⟨(hd.drew.chg hc hbq).cell 0 rfl, cell_chg (show w.drew.cell? ⟨v, 1, none⟩ = some (.pointer (some ⟨g, 0, none⟩)) from hv) hc hvf, (hp.drew.chg hc hpf).cell 0 rfl, (hp.drew.chg hc hpf).cell 1 rfl, (hp.drew.chg hc hpf).cell 2 rfl⟩ :
    W.cell? ⟨bq, 0, none⟩ = some (.pointer (some ⟨v, 0, none⟩)) ∧ W.cell? ⟨v, 1, none⟩ = some (.pointer (some ⟨g, 0, none⟩)) ∧ W.cell? ⟨p, 0, none⟩ = some (.int .i64 a.a) ∧ W.cell? ⟨p, 1, none⟩ = some (.int .i64 a.b) ∧ W.cell? ⟨p, 2, none⟩ = some (.int .i64 a.g)))
  have hS0 := HCH.out w.drew (Chg.of_below (L := F) (Below.refl _ _))
  obtain ⟨a0, a1, a2⟩ := a
  unfold arv at HW
  dsimp only at HW HCH hS0
  generalize blankR s ⟨a0, a1, a2⟩ = R at HW ⊢
  clear h hf hd hbq hv hvf hp hpf
  go_enter Try.func58, Try.ntmps58
  go_wp2_with fail
  go_region_held3 (fun W => W.cell? ⟨bq, 0, none⟩ = some (.pointer (some ⟨v, 0, none⟩)) ∧ W.cell? ⟨v, 1, none⟩ = some (.pointer (some ⟨g, 0, none⟩)) ∧ W.cell? ⟨p, 0, none⟩ = some (.int .i64 a0) ∧ W.cell? ⟨p, 1, none⟩ = some (.int .i64 a1) ∧ W.cell? ⟨p, 2, none⟩ = some (.int .i64 a2)) (first | assumption) (first
    | (go_at_call 45; refine HW.out.mono ?_; rintro e w7 ⟨rfl, hp⟩; have HP := hid hp; clear hp; have hS7 := HCH.out w7 HP.out.chg))
  go_wp2_with fail
  go_ret
  exact ⟨rfl, DevAt.from_ ((Below.refl _ _).drew) HP.out⟩
set_option maxRecDepth 20000 in
set_option maxHeartbeats 1000000 in
theorem mv2_calls (gen : Nat) (h : DevB w base F g s) (hbase : base ≤ w.heap.size) (hf : fuseOK s) (hgen : gen ≤ 2147483647) (hd : Blk w bq 23 #[.pointer (some ⟨v, 0, none⟩)]) (hbq : bq ∉ F) (hv : w.cell? ⟨v, 1, none⟩ = some (.pointer (some ⟨g, 0, none⟩))) (hvf : v ∉ F) (hp : w.cell? ⟨p, 2, none⟩ = some (.int .i64 (gen : Int))) (hpf : p ∉ F) :
    Calls Try.prog 59 #[.pointer (some ⟨bq, 0, none⟩), .pointer (some ⟨p, 0, none⟩)] w fun e w' => e = .returned (.int .i64 ((superR gen s).2 : Int)) ∧ DevAt w base F g (superR gen s).1 w' := by
  have HW := hid (super_calls base g F s gen w.drew h.drew hbase hf (by omega))
  have HCH := hid (fun W (hc : Chg F w.drew W) => (⟨(hd.drew.chg hc hbq).cell 0 rfl, cell_chg (show w.drew.cell? ⟨v, 1, none⟩ = some (.pointer (some ⟨g, 0, none⟩)) from hv) hc hvf, cell_chg (show w.drew.cell? ⟨p, 2, none⟩ = some (.int .i64 (gen : Int)) from hp) hc hpf⟩ :
    W.cell? ⟨bq, 0, none⟩ = some (.pointer (some ⟨v, 0, none⟩)) ∧ W.cell? ⟨v, 1, none⟩ = some (.pointer (some ⟨g, 0, none⟩)) ∧ W.cell? ⟨p, 2, none⟩ = some (.int .i64 (gen : Int))))
  have hS0 := HCH.out w.drew (Chg.of_below (L := F) (Below.refl _ _))
  generalize superR gen s = R at HW ⊢
  clear h hf hd hbq hv hvf hp hpf
  go_enter Try.func59, Try.ntmps59
  go_wp2_with fail
  go_region_held3 (fun W => W.cell? ⟨bq, 0, none⟩ = some (.pointer (some ⟨v, 0, none⟩)) ∧ W.cell? ⟨v, 1, none⟩ = some (.pointer (some ⟨g, 0, none⟩)) ∧ W.cell? ⟨p, 2, none⟩ = some (.int .i64 (gen : Int))) (first | assumption) (first
    | (go_at_call 47; refine HW.out.mono ?_; rintro e w7 ⟨rfl, hp⟩; have HP := hid hp; clear hp; have hS7 := HCH.out w7 HP.out.chg))
  go_wp2_with fail
  go_ret
  exact ⟨rfl, DevAt.from_ ((Below.refl _ _).drew) HP.out⟩
end
def mvVal (v g n gen G1 : Nat) (nx : Value) : Nat → Nat → Value
  | 0, _ => .pointer (some ⟨v, 0, none⟩)
  | 1, _ => .pointer (some ⟨v, 0, none⟩)
  | 2, _ => .pointer (some ⟨v, 1, none⟩)
  | 3, _ => .pointer (some ⟨g, 0, none⟩)
  | 4, _ => .int .i64 (n : Int)
  | 5, _ => .pointer (some ⟨v, 0, none⟩)
  | 6, _ => .pointer (some ⟨v, 0, none⟩)
  | 7, _ => .pointer (some ⟨v, 2, none⟩)
  | 8, _ => .pointer (some ⟨v, 4, none⟩)
  | 9, _ => .int .i64 (gen : Int)
  | 10, _ => .int .i64 (G1 : Int)
  | 11, _ => nx
  | 12, k => .pointer (some ⟨k, 0, none⟩)
  | 13, k => .pointer (some ⟨k, 0, none⟩)
  | _, _ => undef
theorem run_store_all {P : Program} {o : Oper} {a : Act} {w : World} {t : TypeId} {x y : Operand} {g : Nat} {cs old : Array Value} (ho : o.op = .store t x y) (hx : a.eval x = .pointer (some ⟨g, 0, none⟩)) (hy : a.eval y = .agg cs)
    (hb : Blk w g t old) (hi : (P.info? t).map (·.size) = some cs.size) (hold : old.size = cs.size) (h1 : cs.all (·.oneCell') = true) : (execOp a.eval o).run P w = .ok .skip (w.setRow g cs) := by
  unfold execOp
  simp only [ho, hx, hy, Instr.storeAt, Instr.sureAddr, Sem.run_bind, Sem.run_pure, Result.andThen_ok, run_storeVar_row w g t t old cs hb hi hold h1]
structure MvS (W0 : World) (ac : Array Value) (f : Nat → Bool) (gh : Nat → Nat) (w : World) : Prop where
  below : Below W0.heap.size W0 w
  ord : f 14 = true → f 12 = true
  na : f 12 = true → W0.heap.size ≤ gh 12 ∧ Blk w (gh 12) 40 (if f 14 then ac else #[.int .i64 0, .int .i64 0, .int .i64 0])
  ne : f 13 = true → W0.heap.size ≤ gh 13 ∧ Blk w (gh 13) 3 #[.int .i64 0]
section
variable {W0 w w' : World} {ac : Array Value} {f : Nat → Bool} {gh : Nat → Nat}
theorem MvS.step (h : MvS W0 ac f gh w) (hb : Below w.heap.size w w') (i k : Nat) (h1 : i ≠ 12) (h2 : i ≠ 13) (h3 : i ≠ 14) : MvS W0 ac (upd f i) (updN gh i k) w' := by
  have e : ∀ j, j ≠ i → upd f i j = f j := fun j hj => by unfold upd; simp [hj]
  have e' : ∀ j, j ≠ i → updN gh i k j = gh j := fun j hj => by unfold updN; rw [if_neg hj]
  refine ⟨h.below.trans (hb.mono h.below.size), fun hf => ?_, fun hf => ?_, fun hf => ?_⟩
  · rw [e 14 (Ne.symm h3)] at hf; rw [e 12 (Ne.symm h1)]; exact h.ord hf
  · rw [e 12 (Ne.symm h1)] at hf; rw [e 14 (Ne.symm h3), e' 12 (Ne.symm h1)]; exact ⟨(h.na hf).1, (h.na hf).2.keep hb⟩
  · rw [e 13 (Ne.symm h2)] at hf; rw [e' 13 (Ne.symm h2)]; exact ⟨(h.ne hf).1, (h.ne hf).2.keep hb⟩
theorem MvS.area (h : MvS W0 ac f gh w) (hf : f 12 = false) : MvS W0 ac (upd f 12) (updN gh 12 w.heap.size) (w.alloc (.cells #[.int .i64 0, .int .i64 0, .int .i64 0] 40)) := by
  have h14 : f 14 = false := by
    cases e : f 14 with
    | false => rfl
    | true => rw [h.ord e] at hf; cases hf
  refine ⟨h.below.trans ((below_new _ _).mono h.below.size), fun _ => rfl, fun _ => ⟨h.below.size, ?_⟩, fun hf => ⟨(h.ne hf).1, (h.ne hf).2.keep (below_new _ _)⟩⟩
  show Blk _ _ _ (if f 14 then ac else _)
  rw [h14]
  exact Blk.new _ _ _
theorem MvS.int (h : MvS W0 ac f gh w) : MvS W0 ac (upd f 13) (updN gh 13 w.heap.size) (w.alloc (.cells #[.int .i64 0] 3)) :=
  ⟨h.below.trans ((below_new _ _).mono h.below.size), h.ord, fun hf => ⟨(h.na hf).1, (h.na hf).2.keep (below_new _ _)⟩, fun _ => ⟨h.below.size, Blk.new _ _ _⟩⟩
theorem MvS.put (h : MvS W0 ac f gh w) (hf : f 12 = true) : MvS W0 ac (upd f 14) (updN gh 14 0) (w.setRow (gh 12) ac) := by
  obtain ⟨h1, h2⟩ := h.na hf
  refine ⟨h.below.trans (below_of_grown (grown_setRow _ _ _) h.below.size (fun g e => by cases e; exact h1)), fun _ => hf, fun _ => ⟨h1, h2.setRow ac⟩, fun h13 => ?_⟩
  obtain ⟨h3, h4⟩ := h.ne h13
  refine ⟨h3, h4.grown (grown_setRow _ _ _) (fun e => ?_)⟩
  have e' := Option.some.inj e
  unfold Blk at h2 h4
  rw [e', h4] at h2
  simp only [Option.some.injEq, Obj.cells.injEq] at h2
  exact absurd h2.2.1 (by decide)
theorem MvS.zero (h : MvS W0 ac f gh w) (hf : f 13 = true) : MvS W0 ac (upd f 15) (updN gh 15 0) (w.setCell ⟨gh 13, 0, none⟩ (.int .i64 0)) := by
  obtain ⟨h1, h2⟩ := h.ne hf
  refine ⟨h.below.trans (below_of_grown (grown_setCell _ _ _ _) h.below.size (fun g e => by cases e; exact h1)), h.ord, fun h12 => ?_, fun _ => ⟨h1, h2.set_ 0 (.int .i64 0)⟩⟩
  obtain ⟨h3, h4⟩ := h.na h12
  refine ⟨h3, h4.grown (grown_setCell _ _ _ _) (fun e => ?_)⟩
  have e' := Option.some.inj e
  unfold Blk at h2 h4
  rw [e', h4] at h2
  simp only [Option.some.injEq, Obj.cells.injEq] at h2
  exact absurd h2.2.1 (by decide)
end
theorem info_step : (Try.prog.info? 66).map (fun i => (i.zero, i.size, i.bytes)) = some (some .nilFunc, 1, 8) := by kernel_rfl
def blankFn (bq p : Nat) : FnV := ⟨58, #[], #[.pointer (some ⟨bq, 0, none⟩), .pointer (some ⟨p, 0, none⟩)]⟩
/-- the closures that write records -/
def WrAll (w W : World) (B v q : Nat) (F : List Nat) (a : AR) (l : List (List UInt8)) (bs : List Nat) : Prop :=
  ∀ (j b : Nat), bs[j]? = some b → ∃ x A' c, l[j]? = some x ∧ WEnv W b v q (.slice A' x.length c) a ∧ B ≤ b ∧ SB w w.heap.size A' x.length x ∧ x.length ≤ c ∧ ∀ b' off, 0 < x.length → A' = some ⟨b', off, none⟩ → b' ∉ F
theorem row_ne {w : World} {B : Nat} {e T : TypeId} {v : Value} {n : Nat} {xs : List Value} {b : Nat} {cs : Array Value} (hown : w.ownsRow B e 1 v n xs) (hb : Blk w b T cs) (hTe : T ≠ e) : v.ownBlock ≠ some b := by
  rcases hown.2 with ⟨rfl, _⟩ | ⟨g, cap, cur, rfl, _, hg, _⟩
  · simp [Value.ownBlock]
  · intro h
    simp only [Value.ownBlock, Option.some.injEq] at h
    subst h
    unfold Blk at hb
    rw [hg] at hb
    simp only [Option.some.injEq, Obj.cells.injEq] at hb
    exact hTe hb.2.1.symm
theorem WEnv.grown {w w' : World} {b v e : Nat} {sl : Value} {a : AR} {row : Option Nat} (h : WEnv w b v e sl a) (hg : w.grownBy w' row) {B n : Nat} {v8 : Value} {xs : List Value} (hr : w.ownsRow B 66 1 v8 n xs) (he : row = v8.ownBlock) : WEnv w' b v e sl a := by
  subst he
  exact ⟨h.pv.grown hg (row_ne hr h.pv (by decide)), h.ps.grown hg (row_ne hr h.ps (by decide)), h.pa.grown hg (row_ne hr h.pa (by decide)), h.pe.grown hg (row_ne hr h.pe (by decide))⟩
section
variable {w W W' : World} {B v q : Nat} {F : List Nat} {a : AR} {l : List (List UInt8)} {bs : List Nat}
theorem WrAll.keep (h : WrAll w W B v q F a l bs) (hb : Below W.heap.size W W') : WrAll w W' B v q F a l bs := fun j b hj => by
  obtain ⟨x, A', c, h1, h2, h3⟩ := h j b hj
  exact ⟨x, A', c, h1, h2.keep hb, h3⟩
theorem WrAll.grown {row : Option Nat} (h : WrAll w W B v q F a l bs) (hg : W.grownBy W' row) {B' n : Nat} {v8 : Value} {xs : List Value} (hr : W.ownsRow B' 66 1 v8 n xs) (he : row = v8.ownBlock) : WrAll w W' B v q F a l bs := fun j b hj => by
  obtain ⟨x, A', c, h1, h2, h3⟩ := h j b hj
  exact ⟨x, A', c, h1, h2.grown hg hr he, h3⟩
theorem WrAll.push {x : List UInt8} {A' : Option Addr} {c b : Nat} (h : WrAll w W B v q F a l bs) (hl : l[bs.length]? = some x) (h1 : WEnv W b v q (.slice A' x.length c) a) (h2 : B ≤ b) (h3 : SB w w.heap.size A' x.length x) (h4 : x.length ≤ c) (h5 : ∀ b' off, 0 < x.length → A' = some ⟨b', off, none⟩ → b' ∉ F) : WrAll w W B v q F a l (bs ++ [b]) := fun j b' hj => by
  rw [List.getElem?_append] at hj
  by_cases hlt : j < bs.length
  · rw [if_pos hlt] at hj
    exact h j b' hj
  · rw [if_neg hlt] at hj
    have e : j - bs.length = 0 := by
      have := (List.getElem?_eq_some_iff.1 hj).1
      simp at this; omega
    rw [e] at hj
    cases hj
    rw [show j = bs.length by omega]
    exact ⟨x, A', c, hl, h1, h2, h3, h4, h5⟩
end
def m11Val (v g : Nat) (u8 fl su : Value) : Nat → Value → Value
  | 0, _ => u8
  | 1, _ => .pointer (some ⟨v, 0, none⟩)
  | 2, _ => .pointer (some ⟨v, 0, none⟩)
  | 3, _ => .pointer (some ⟨v, 1, none⟩)
  | 4, _ => .pointer (some ⟨g, 0, none⟩)
  | 5, _ => fl
  | 6, _ => su
  | 7, _ => .pointer (some ⟨v, 0, none⟩)
  | 8, _ => .pointer (some ⟨v, 0, none⟩)
  | 9, _ => .pointer (some ⟨v, 1, none⟩)
  | 10, _ => .pointer (some ⟨g, 0, none⟩)
  | 11, _ => fl
  | _, x => x
structure M11 (w WB : World) (v q : Nat) (F : List Nat) (a : AR) (l : List (List UInt8)) (bs : List Nat) (u8 fl su : Value) (xs : List Value) (f : Nat → Bool) (gh : Nat → Value) (W : World) : Prop where
  below : Below WB.heap.size WB W
  row0 : f 13 = false → W.ownsRow WB.heap.size 66 1 u8 (bs.length + 1) xs
  blk : f 12 = true → f 13 = false → ∃ k, gh 12 = .slice (some ⟨k, 0, none⟩) 3 3 ∧ Blk W k 66 #[fl, su, fl] ∧ u8.ownBlock ≠ some k
  row1 : f 13 = true → W.ownsRow WB.heap.size 66 1 (gh 13) (bs.length + 1 + 3) (xs ++ [fl, su, fl])
  wra : WrAll w W WB.heap.size v q F a l bs
  fin : f 14 = true → gh 14 = gh 13
section
variable {w WB W W' : World} {v q : Nat} {F : List Nat} {a : AR} {l : List (List UInt8)} {bs : List Nat} {u8 fl su : Value} {xs : List Value} {f : Nat → Bool} {gh : Nat → Value}
theorem M11.step (h : M11 w WB v q F a l bs u8 fl su xs f gh W) (i : Nat) (k : Value) (h1 : i ≠ 12) (h2 : i ≠ 13) (h3 : i ≠ 14) : M11 w WB v q F a l bs u8 fl su xs (upd f i) (updN gh i k) W := by
  have e : ∀ j, j ≠ i → upd f i j = f j := fun j hj => by unfold upd; simp [hj]
  have e' : ∀ j, j ≠ i → updN gh i k j = gh j := fun j hj => by unfold updN; rw [if_neg hj]
  refine ⟨h.below, ?_, ?_, ?_, h.wra, ?_⟩
  · rw [e 13 (Ne.symm h2)]; exact h.row0
  · rw [e 13 (Ne.symm h2), e 12 (Ne.symm h1), e' 12 (Ne.symm h1)]; exact h.blk
  · rw [e 13 (Ne.symm h2), e' 13 (Ne.symm h2)]; exact h.row1
  · rw [e 14 (Ne.symm h3), e' 13 (Ne.symm h2), e' 14 (Ne.symm h3)]; exact h.fin
theorem M11.build (h : M11 w WB v q F a l bs u8 fl su xs f gh W) (h13 : f 13 = false) (h14 : f 14 = false) : M11 w WB v q F a l bs u8 fl su xs (upd f 12) (updN gh 12 (.slice (some ⟨W.heap.size, 0, none⟩) 3 3)) (W.alloc (.cells #[fl, su, fl] 66)) := by
  have hb := below_new W (.cells #[fl, su, fl] 66)
  refine ⟨h.below.trans (hb.mono h.below.size), fun _ => ownsRow_chg (h.row0 h13) (Chg.of_below (L := []) hb) (fun _ _ => by simp), fun _ _ => ⟨_, rfl, Blk.new _ _ _, fun e => ?_⟩, fun hh => ?_, h.wra.keep hb, fun hh => ?_⟩
  · have := (World.ownsRow.lt (h.row0 h13) _ e).2
    omega
  · exact absurd (show f 13 = true from hh) (by rw [h13]; simp)
  · exact absurd (show f 14 = true from hh) (by rw [h14]; simp)
theorem M11.app (h : M11 w WB v q F a l bs u8 fl su xs f gh W) (h13 : f 13 = false) (h14 : f 14 = false) {v8 : Value} (hr : W'.ownsRow WB.heap.size 66 1 v8 (bs.length + 1 + 3) (xs ++ [fl, su, fl])) (hg : W.grownBy W' u8.ownBlock) : M11 w WB v q F a l bs u8 fl su xs (upd f 13) (updN gh 13 v8) W' :=
  ⟨h.below.trans (below_of_grown hg h.below.size (fun b' e => (World.ownsRow.lt (h.row0 h13) b' e).1)), fun hh => (by cases hh), fun _ hh => (by cases hh), fun _ => hr, h.wra.grown hg (h.row0 h13) rfl, fun hh => absurd (show f 14 = true from hh) (by rw [h14]; simp)⟩
theorem M11.last (h : M11 w WB v q F a l bs u8 fl su xs f gh W) : M11 w WB v q F a l bs u8 fl su xs (upd f 14) (updN gh 14 (gh 13)) W :=
  ⟨h.below, h.row0, h.blk, h.row1, h.wra, fun _ => rfl⟩
theorem run_append_op {P : Program} {o : Oper} {a : Act} {w w' : World} {v : Value} (s x : Operand) (t t' : TypeId) (ho : o.op = .call { callee := .builtin .append, args := #[s, x], argTypes := #[t, t'] }) (u u' : Value) (hs : a.eval s = u) (hx : a.eval x = u')
    (hr : (Builtin.append_ #[t, t'] o.type #[u, u']).run P w = .ok v w') : (execOp a.eval o).run P w = .ok (.value v) w' := by
  unfold execOp
  simp only [ho, resolve, invoke, builtin, Sem.run_bind, Sem.run_pure, Result.andThen_ok, List.map_toArray, List.map_cons, List.map_nil, hs, hx, hr]
end
end Go.Proofs.Ytgldhmmfofnmiaa
/- Contract: the steps of move, done. -/
namespace Go.Proofs.Ytgldhmmfofnmiaa
open Go.RowKit

def flushFn (g : Nat) : FnV := ⟨31, #[.pointer (some ⟨g, 0, none⟩)], #[]⟩
def superFn (bq p : Nat) : FnV := ⟨59, #[], #[.pointer (some ⟨bq, 0, none⟩), .pointer (some ⟨p, 0, none⟩)]⟩
def mvFns (g bq p : Nat) (bs : List Nat) : List FnV := blankFn bq p :: (bs.map wrFn ++ [flushFn g, superFn bq p, flushFn g])
def mvCosts (l : List (List UInt8)) : List Nat := 32767 :: (l.map (fun r => needN r.length) ++ [0, 1, 0])
theorem onDev_costs {f : DS → DS × Nat} {c : Nat} (h : Costs (fun s : DS => s) f c) : Costs (fun p : DS × Int => p.1) (onDev f) c := fun p hp => h p.1 hp
theorem three_at {α : Type} {x y z u : α} {k : Nat} (h : [x, y, z][k]? = some u) : (k = 0 ∧ u = x) ∨ (k = 1 ∧ u = y) ∨ (k = 2 ∧ u = z) := by
  match k with
  | 0 => cases h; exact .inl ⟨rfl, rfl⟩
  | 1 => cases h; exact .inr (.inl ⟨rfl, rfl⟩)
  | 2 => cases h; exact .inr (.inr ⟨rfl, rfl⟩)
  | k + 3 => simp at h
theorem mid_at {α : Type} {x : α} {l : List α} {y1 y2 y3 u : α} {k : Nat} (h : (x :: (l ++ [y1, y2, y3]))[k]? = some u) : (k = 0 ∧ u = x) ∨ (∃ j, k = j + 1 ∧ j < l.length ∧ l[j]? = some u) ∨ (k = l.length + 1 ∧ u = y1) ∨ (k = l.length + 2 ∧ u = y2) ∨ (k = l.length + 3 ∧ u = y3) := by
  cases k with
  | zero => cases h; exact .inl ⟨rfl, rfl⟩
  | succ j =>
    rw [List.getElem?_cons_succ, List.getElem?_append] at h
    by_cases hj : j < l.length
    · rw [if_pos hj] at h
      exact .inr (.inl ⟨j, rfl, hj, h⟩)
    · rw [if_neg hj] at h
      rcases three_at h with ⟨e, hu⟩ | ⟨e, hu⟩ | ⟨e, hu⟩
      · exact .inr (.inr (.inl ⟨by omega, hu⟩))
      · exact .inr (.inr (.inr (.inl ⟨by omega, hu⟩)))
      · exact .inr (.inr (.inr (.inr ⟨by omega, hu⟩)))
theorem mv_costs (N gen : Nat) (l : List (List UInt8)) (hN : N ≤ 65536) : ∀ (k : Nat) f c, (moveSteps N gen l)[k]? = some f → (mvCosts l)[k]? = some c → Costs (fun p : DS × Int => p.1) f c := by
  intro k f c hf hc
  unfold moveSteps at hf
  unfold mvCosts at hc
  have e1 : (l.map (putStep (areaV N gen))).length = l.length := by simp
  have e2 : (l.map (fun r => needN r.length)).length = l.length := by simp
  rcases mid_at hf with ⟨rfl, rfl⟩ | ⟨j, rfl, hj, hf⟩ | ⟨hk, rfl⟩ | ⟨hk, rfl⟩ | ⟨hk, rfl⟩ <;> rcases mid_at hc with ⟨hk2, rfl⟩ | ⟨j', hk2, hj', hc⟩ | ⟨hk2, rfl⟩ | ⟨hk2, rfl⟩ | ⟨hk2, rfl⟩ <;> first | omega | skip
  · exact onDev_costs fun s hs => blank_costs _ 32767 (by rw [area_count]; exact half_le hN) hs
  · obtain rfl : j = j' := by omega
    rw [List.getElem?_map] at hf hc
    obtain ⟨x, hx, rfl⟩ := Option.map_eq_some_iff.1 hf
    obtain ⟨y, hy, rfl⟩ := Option.map_eq_some_iff.1 hc
    rw [hx] at hy
    cases hy
    exact fun p hp => lwrite_costs _ _ _ hp
  · exact onDev_costs fun s hs => flush_costs hs
  · exact onDev_costs fun s hs => write_costs _ _ hs
  · exact onDev_costs fun s hs => flush_costs hs
theorem mv_sum (l : List (List UInt8)) : (mvCosts l).sum = 32768 + needAll l := by
  unfold mvCosts needAll
  simp only [List.sum_cons, List.sum_append, List.sum_nil]
  omega
theorem VtAt.of_dev {w0 W W' : World} {base g q : Nat} {F F' : List Nat} {p : DS × Int} {s' : DS} (h2 : Chg (q :: F) w0 W) (h3 : ∀ b ∈ F', b ∈ F ∨ w0.heap.size ≤ b) (h4 : Blk W q 3 #[.int .i64 p.2]) (hq : q ∉ F') (k : DevAt W base F' g s' W') : VtAt w0 base F g q (s', p.2) W' := by
  obtain ⟨F'', q1, q2, q3⟩ := k
  refine ⟨F'', q1, h2.trans q2 (fun b hb => (h3 b hb).imp (fun h => List.mem_cons_of_mem _ h) id), fun b hb => (q3 b hb).elim (h3 b) (fun hb => .inr (Nat.le_trans h2.size hb)), h4.chg q2 hq⟩
section
variable (base g v q bq p br : Nat) (F : List Nat) (s : DS) (w w0 : World)
set_option maxHeartbeats 1000000 in
theorem mv_do (B gen c n : Nat) (l : List (List UInt8)) (bs : List Nat) (h : DevB w0 base F g s) (hbase : base ≤ w0.heap.size) (hfz : Fused s) (hlo : s.loose.length ≤ 400000) (hgen : gen ≤ 2147483647) (hneed : needAll l ≤ 32768) (hlen : bs.length = l.length) (hl : n = l.length + 4) (hl2 : l.length ≤ 1000000)
    (hd : Blk w0 bq 23 #[.pointer (some ⟨v, 0, none⟩)]) (hbq : bq ∉ q :: F) (hv : w0.cell? ⟨v, 1, none⟩ = some (.pointer (some ⟨g, 0, none⟩))) (hvl : v < w0.heap.size) (hvf : v ∉ q :: F)
    (hp : Blk w0 p 40 #[.int .i64 (areaV s.n gen).a, .int .i64 (areaV s.n gen).b, .int .i64 (areaV s.n gen).g]) (hpf : p ∉ q :: F) (he : Blk w0 q 3 #[.int .i64 0]) (hqF : q ∉ F) (hqB : q < B) (hFB : ∀ x ∈ F, x < B) (hww : Chg [] w w0) (hqw : w.heap.size ≤ q)
    (ha : WrAll w w0 B v q (v :: F) (areaV s.n gen) l bs) (hrow : ∀ (k : Nat) f, (mvFns g bq p bs)[k]? = some f → w0.cell? ⟨br, k, none⟩ = some (fnV f)) (hbr : br ∉ q :: F) :
    Calls Try.prog 40 #[.slice (some ⟨br, 0, none⟩) n c] w0 fun e w' => e = .returned (.int .i64 ((chainR (moveSteps s.n gen l) (s, 0)).2 : Int)) ∧ VtAt w0 base F g q (chainR (moveSteps s.n gen l) (s, 0)).1 w' := by
  have hnb := h.ok.nb
  have hqlt := he.lt
  refine do_calls (fun p' W => VtAt w0 base F g q p' W) (moveSteps s.n gen l) (mvFns g bq p bs) br c n (s, 0) w0 (by unfold mvFns moveSteps; simp [hlen]) (by unfold moveSteps; simp [hl]) (by omega) ⟨F, h, Chg.refl _ _, fun _ h => .inl h, he⟩ (fun s' W hI k f hf => ?_) (fun k f fv p' hf hfv hq => ?_)
  · obtain ⟨F', k1, k2, k3, k4⟩ := hI
    exact cell_chg (hrow k f hf) k2 hbr
  · obtain ⟨p1, p2, p3⟩ := chain_part (fun p : DS × Int => p.1) (moveSteps s.n gen l) (mvCosts l) (by unfold mvCosts moveSteps; simp) (mv_costs s.n gen l hnb) (s, 0) p' k hfz hq
    rw [mv_sum] at p3
    obtain ⟨s', at_⟩ := p'
    dsimp only at p1 p2 p3
    have hfo : fuseOK s' := ⟨p1, by omega⟩
    have key : ∀ W, VtAt w0 base F g q (s', at_) W → ∃ F', DevB W base F' g s' ∧ Chg (q :: F) w0 W ∧ (∀ b ∈ F', b ∈ F ∨ w0.heap.size ≤ b) ∧ Blk W q 3 #[.int .i64 at_] ∧ (∀ x, x < w0.heap.size → x ∉ q :: F → x ∉ F') ∧ q ∉ F' ∧ base ≤ W.heap.size := fun W hI => by
      obtain ⟨F', k1, k2, k3, k4⟩ := hI
      exact ⟨F', k1, k2, k3, k4, fun x hx hn hm => (k3 x hm).elim (fun hh => hn (List.mem_cons_of_mem _ hh)) (fun hh => by omega), fun hm => (k3 q hm).elim hqF (fun hh => by omega), Nat.le_trans hbase k2.size⟩
    have e1 : (l.map (putStep (areaV s.n gen))).length = l.length := by simp
    have e2 : (bs.map wrFn).length = l.length := by simp [hlen]
    unfold moveSteps at hf
    unfold mvFns at hfv
    rcases mid_at hf with ⟨rfl, rfl⟩ | ⟨j, rfl, hj, hf⟩ | ⟨hk, rfl⟩ | ⟨hk, rfl⟩ | ⟨hk, rfl⟩ <;> rcases mid_at hfv with ⟨hk2, rfl⟩ | ⟨j', hk2, hj', hfv⟩ | ⟨hk2, rfl⟩ | ⟨hk2, rfl⟩ | ⟨hk2, rfl⟩ <;> first | omega | skip
    · refine ⟨enters_of Try.func58 (by kernel_rfl) rfl, fun W hI => ?_⟩
      obtain ⟨F', k1, k2, k3, k4, k5, k6, k7⟩ := key W hI
      exact (mv1_calls base g bq v p F' s' W (areaV s.n gen) k1 k7 hfo (by omega) (hd.chg k2 hbq) (k5 _ hd.lt hbq) (cell_chg hv k2 hvf) (k5 _ hvl hvf) (hp.chg k2 hpf) (k5 _ hp.lt hpf)).mono fun e w' ⟨hh, hq'⟩ => ⟨hh, VtAt.of_dev (p := (s', at_)) k2 k3 k4 k6 hq'⟩
    · obtain rfl : j = j' := by omega
      rw [List.getElem?_map] at hf hfv
      obtain ⟨x, hx, rfl⟩ := Option.map_eq_some_iff.1 hf
      obtain ⟨b, hb, rfl⟩ := Option.map_eq_some_iff.1 hfv
      obtain ⟨x', A', c', hx', hE, hBb, hsb, hle, hne⟩ := ha j b hb
      rw [hx] at hx'
      cases hx'
      refine ⟨enters_of Try.func62 (by kernel_rfl) rfl, fun W hI => ?_⟩
      obtain ⟨F', k1, k2, k3, k4, k5, k6, k7⟩ := key W hI
      have hbl : b + 4 ≤ w0.heap.size := hE.pe.lt
      have hWb := k2.size
      have hsW : SB W W.heap.size A' x.length x := ((hsb.chg hww (fun _ _ _ _ => by simp)).chg_pos k2 (fun hp0 b' off e hlt hm => by
        rcases List.mem_cons.1 hm with rfl | hm
        · omega
        · exact hne b' off hp0 e (List.mem_cons_of_mem _ hm))).grow (by have := hww.size; omega)
      refine (wr1_calls base g F' s' W b v q x.length c' at_ A' x (areaV s.n gen) k1 k7 hfo (by omega) (cell_chg hv k2 hvf) (k5 _ hvl hvf) (fun e => hvf (by rw [e]; exact List.mem_cons_self)) (hE.chg k2 (fun y hy => by
        rcases List.mem_cons.1 hy with rfl | hy
        · omega
        · have := hFB y hy; omega)) (fun y hy => by
        rcases List.mem_cons.1 hy with rfl | hy
        · omega
        · rcases k3 y hy with hy | hy
          · have := hFB y hy; omega
          · omega) k4 k6 hsW hle (fun b' off hp0 e hm => by
        obtain ⟨b2, off2, e2', hlt2, -⟩ := hsb.2 hp0
        rw [e] at e2'
        cases e2'
        rcases k3 b' hm with hm | hm
        · exact hne b' off hp0 e (List.mem_cons_of_mem _ hm)
        · have := hww.size; omega)).mono fun e w' ⟨hh, hq'⟩ => ⟨hh, ?_⟩
      obtain ⟨F'', q1, q2, q3, q4⟩ := hq'
      exact ⟨F'', q1, k2.trans q2 (fun y hy => by
        rcases List.mem_cons.1 hy with rfl | hy
        · exact .inl List.mem_cons_self
        · exact (k3 y hy).imp (fun h => List.mem_cons_of_mem _ h) id), fun y hy => (q3 y hy).elim (k3 y) (fun hh => .inr (Nat.le_trans hWb hh)), q4⟩
    · refine ⟨enters_of Try.func31 (by kernel_rfl) rfl, fun W hI => ?_⟩
      obtain ⟨F', k1, k2, k3, k4, k5, k6, k7⟩ := key W hI
      exact (dFlush_calls base g F' s' W k1 hfo.1 hfo.2).mono fun e w' hq' => ⟨(DevAt.of_post hq').1, VtAt.of_dev (p := (s', at_)) k2 k3 k4 k6 (DevAt.of_post hq').2⟩
    · refine ⟨enters_of Try.func59 (by kernel_rfl) rfl, fun W hI => ?_⟩
      obtain ⟨F', k1, k2, k3, k4, k5, k6, k7⟩ := key W hI
      exact (mv2_calls base g bq v p F' s' W gen k1 k7 hfo hgen (hd.chg k2 hbq) (k5 _ hd.lt hbq) (cell_chg hv k2 hvf) (k5 _ hvl hvf) ((hp.chg k2 hpf).cell 2 rfl) (k5 _ hp.lt hpf)).mono fun e w' ⟨hh, hq'⟩ => ⟨hh, VtAt.of_dev (p := (s', at_)) k2 k3 k4 k6 hq'⟩
    · refine ⟨enters_of Try.func31 (by kernel_rfl) rfl, fun W hI => ?_⟩
      obtain ⟨F', k1, k2, k3, k4, k5, k6, k7⟩ := key W hI
      exact (dFlush_calls base g F' s' W k1 hfo.1 hfo.2).mono fun e w' hq' => ⟨(DevAt.of_post hq').1, VtAt.of_dev (p := (s', at_)) k2 k3 k4 k6 (DevAt.of_post hq').2⟩
end
end Go.Proofs.Ytgldhmmfofnmiaa
/- A vault behind what move does: what is kept, and what is stored. -/
namespace Go.Proofs.Ytgldhmmfofnmiaa
open Go.RowKit

theorem Recs.chg {w w' : World} {B : Nat} {L : List Nat} {v : Value} {l : List (List UInt8)} {us : List Value} (h : Recs w B v l us) (hc : Chg L w w') (hL : ∀ b, (v.ownBlock = some b ∨ ∃ u ∈ us, u.ownBlock = some b) → b ∉ L) : Recs w' B v l us :=
  ⟨ownsRow_chg h.row hc (fun b e => hL b (.inl e)), fun k x u hx hu => ownsRow_chg (h.each k x u hx hu) hc (fun b e => hL b (.inr ⟨u, List.mem_of_getElem? hu, e⟩)), h.far⟩
section
variable {w W : World} {base g v : Nat} {F F2 : List Nat} {s s2 : DS} {vs : VS} {slf rv : Value} {us : List Value}
theorem VauIn.after (h : VauIn w base F g v s vs slf rv us) (hc : Chg F w W) (k1 : DevB W base F2 g s2) (k3 : ∀ b ∈ F2, b ∈ F ∨ w.heap.size ≤ b) (hn : s2.n = s.n) : VauIn W base F2 g v s2 vs slf rv us where
  dev := k1
  hd := by rw [hn]; exact h.hd.chg hc h.vf
  recs := h.recs.chg hc (fun b hb => (h.rf b hb).1)
  hv := h.hv
  vf := fun hm => (k3 v hm).elim h.vf (fun hh => by have := h.hd.lt; omega)
  rf := fun b hb => ⟨fun hm => (k3 b hm).elim (h.rf b hb).1 (fun hh => by have := (h.recs.lt b hb).2; omega), (h.rf b hb).2⟩
theorem VauIn.broke (h : VauIn W base F g v s vs slf rv us) (b : Bool) : VauIn (W.setCell ⟨v, 7, none⟩ (.bool b)) base F g v s { vs with broken := b } slf rv us where
  dev := h.dev.chg (chg_set (L := [v]) (List.mem_singleton.2 rfl) 7 _) (fun b hb hm => h.vf (by rw [← List.mem_singleton.1 hm]; exact hb))
  hd := h.hd.set_ 7 _
  recs := h.recs.chg (chg_set (L := [v]) (List.mem_singleton.2 rfl) 7 _) (fun b hb hm => (h.rf b hb).2 (List.mem_singleton.1 hm))
  hv := h.hv
  vf := h.vf
  rf := h.rf
end
structure M15 (w5 : World) (v g : Nat) (slf rv : Value) (ao an : AR) (fo fn : Int) (l : List (List UInt8)) (f : Nat → Bool) (gh : Nat → Value) (W : World) : Prop where
  chg : Chg [v] w5 W
  hd : Blk W v 42 (vcells slf g (if f 9 = true then an else ao) (if f 12 = true then gh 5 else rv) (if f 15 = true then fn else fo) false)
  recs : f 5 = true → ∃ us, Recs W w5.heap.size (gh 5) l us
section
variable {w5 W W' : World} {v g : Nat} {slf rv : Value} {ao an : AR} {fo fn : Int} {l : List (List UInt8)} {f : Nat → Bool} {gh : Nat → Value}
theorem M15.step (h : M15 w5 v g slf rv ao an fo fn l f gh W) (i : Nat) (k : Value) (h1 : i ≠ 5) (h2 : i ≠ 9) (h3 : i ≠ 12) (h4 : i ≠ 15) : M15 w5 v g slf rv ao an fo fn l (upd f i) (updN gh i k) W := by
  have e : ∀ j, j ≠ i → upd f i j = f j := fun j hj => by unfold upd; simp [hj]
  have e' : ∀ j, j ≠ i → updN gh i k j = gh j := fun j hj => by unfold updN; rw [if_neg hj]
  refine ⟨h.chg, ?_, ?_⟩
  · rw [e 9 (Ne.symm h2), e 12 (Ne.symm h3), e 15 (Ne.symm h4), e' 5 (Ne.symm h1)]; exact h.hd
  · rw [e 5 (Ne.symm h1), e' 5 (Ne.symm h1)]; exact h.recs
theorem M15.clone (h : M15 w5 v g slf rv ao an fo fn l f gh W) (h12 : f 12 = false) (hb : Below W.heap.size W W') {x : Value} {us : List Value} (hr : Recs W' W.heap.size x l us) : M15 w5 v g slf rv ao an fo fn l (upd f 5) (updN gh 5 x) W' := by
  refine ⟨h.chg.trans (Chg.of_below (L := []) hb) (fun b hb => by cases hb), ?_, fun _ => ⟨us, hr.lower h.chg.size⟩⟩
  have hd := h.hd
  rw [h12] at hd
  show Blk W' v _ (vcells slf g (if f 9 = true then an else ao) (if f 12 = true then x else rv) (if f 15 = true then fn else fo) false)
  rw [h12]
  exact hd.keep hb
theorem M15.kept (h : M15 w5 v g slf rv ao an fo fn l f gh W) (hv : v < w5.heap.size) (hc : Chg [v] W W') (h5 : f 5 = true) : ∃ us, Recs W' w5.heap.size (gh 5) l us := by
  obtain ⟨us, hr⟩ := h.recs h5
  exact ⟨us, hr.chg hc (fun b hb hm => by have := (hr.lt b hb).1; have := List.mem_singleton.1 hm; omega)⟩
theorem M15.area (h : M15 w5 v g slf rv ao an fo fn l f gh W) (hv : v < w5.heap.size) : M15 w5 v g slf rv ao an fo fn l (upd f 9) (updN gh 9 undef) (W.setRow v (vcells slf g an (if f 12 = true then gh 5 else rv) (if f 15 = true then fn else fo) false)) :=
  ⟨h.chg.trans (chg_setRow (L := [v]) (List.mem_singleton.2 rfl) _) (fun _ hb => .inl hb), h.hd.setRow _, fun h5 => h.kept hv (chg_setRow (L := [v]) (List.mem_singleton.2 rfl) _) h5⟩
theorem M15.list (h : M15 w5 v g slf rv ao an fo fn l f gh W) (hv : v < w5.heap.size) : M15 w5 v g slf rv ao an fo fn l (upd f 12) (updN gh 12 undef) (W.setCell ⟨v, 5, none⟩ (gh 5)) :=
  ⟨h.chg.trans (chg_set (L := [v]) (List.mem_singleton.2 rfl) 5 _) (fun _ hb => .inl hb), h.hd.set_ 5 _, fun h5 => h.kept hv (chg_set (L := [v]) (List.mem_singleton.2 rfl) 5 _) h5⟩
theorem M15.fin (h : M15 w5 v g slf rv ao an fo fn l f gh W) (hv : v < w5.heap.size) : M15 w5 v g slf rv ao an fo fn l (upd f 15) (updN gh 15 undef) (W.setCell ⟨v, 6, none⟩ (.int .i64 fn)) :=
  ⟨h.chg.trans (chg_set (L := [v]) (List.mem_singleton.2 rfl) 6 _) (fun _ hb => .inl hb), h.hd.set_ 6 _, fun h5 => h.kept hv (chg_set (L := [v]) (List.mem_singleton.2 rfl) 6 _) h5⟩
theorem run_store_area {o : Oper} {a : Act} (ho : o.op = .store 40 (.tmp 74) (.tmp 69)) (hx : a.tmps[74]? = some (.pointer (some ⟨v, 2, none⟩))) (hy : a.tmps[69]? = some (.agg #[.int .i64 an.a, .int .i64 an.b, .int .i64 an.g])) {x : Value} {y : Int} (hb : Blk W v 42 (vcells slf g ao x y false)) :
    (execOp a.eval o).run Try.prog W = .ok .skip (W.setRow v (vcells slf g an x y false)) := by
  have hp := part_store (P := Try.prog) (pre := [slf, .pointer (some ⟨g, 0, none⟩)]) (mid := [.int .i64 ao.a, .int .i64 ao.b, .int .i64 ao.g]) (post := [x, .int .i64 y, .bool false]) (cs := [.int .i64 an.a, .int .i64 an.b, .int .i64 an.g]) hb 40 (off := 2) rfl (by kernel_rfl) rfl (by simp [Value.oneCell'])
  have hx' : a.eval (.tmp 74) = .pointer (some ⟨v, 2, none⟩) := by rw [eval_getD, hx]; rfl
  have hy' : a.eval (.tmp 69) = .agg #[.int .i64 an.a, .int .i64 an.b, .int .i64 an.g] := by rw [eval_getD, hy]; rfl
  unfold execOp
  simp only [ho, hx', hy', Instr.storeAt, Instr.sureAddr, Sem.run_bind, Sem.run_pure, Result.andThen_ok, hp]
  rfl
end
end Go.Proofs.Ytgldhmmfofnmiaa
/- Contract: a vault moved to records. -/
namespace Go.Proofs.Ytgldhmmfofnmiaa
open Go.RowKit
def m15Val (v : Nat) (ar sl : Value) (fn : Int) : Nat → Value → Value
  | 0, _ => .pointer (some ⟨v, 0, none⟩)
  | 1, _ => .pointer (some ⟨v, 0, none⟩)
  | 2, _ => .pointer (some ⟨v, 0, none⟩)
  | 3, _ => ar
  | 4, _ => sl
  | 5, x => x
  | 6, _ => .int .i64 fn
  | 7, _ => .pointer (some ⟨v, 0, none⟩)
  | 8, _ => .pointer (some ⟨v, 2, none⟩)
  | 10, _ => .pointer (some ⟨v, 0, none⟩)
  | 11, _ => .pointer (some ⟨v, 5, none⟩)
  | 13, _ => .pointer (some ⟨v, 0, none⟩)
  | 14, _ => .pointer (some ⟨v, 6, none⟩)
  | _, _ => undef
theorem moves_ok {n gen : Nat} {l : List (List UInt8)} (h : movesE n gen l = 0) : (∀ x ∈ l, x.length ≤ 1048576) ∧ needAll l ≤ halfN n := by
  unfold movesE at h
  by_cases h1 : gen = 2147483647
  · rw [if_pos h1] at h; cases h
  · rw [if_neg h1] at h
    by_cases h2 : (l.all fun r => decide (r.length ≤ 1048576)) = false
    · rw [if_pos h2] at h; cases h
    · rw [if_neg h2] at h
      by_cases h3 : halfN n < needAll l
      · rw [if_pos h3] at h; cases h
      · exact ⟨fun x hx => by
          have := (List.all_eq_true.1 (by simpa using h2 : (l.all fun r => decide (r.length ≤ 1048576)) = true)) x hx
          simpa using this, by omega⟩
section
variable (base g v : Nat) (F : List Nat) (s : DS) (vs : VS) (slf rv : Value) (us : List Value) (w : World)
set_option maxRecDepth 20000 in
set_option maxHeartbeats 1000000 in
theorem move_calls (A : Option Addr) (c : Nat) (l : List (List UInt8)) (h : VauIn w base F g v s vs slf rv us) (hbase : base ≤ w.heap.size) (hl : LstB w (v :: F) A l) (hm : l.length ≤ 1000000) (hfz : Fused s) (hlo : s.loose.length ≤ 400000) (hn : 8 ≤ s.n) (hg : vs.gen ≤ 2147483647) :
    Calls Try.prog 24 #[.pointer (some ⟨v, 0, none⟩), .slice A l.length c] w fun e w' => e = .returned (.int .i64 ((moveR s vs l).2.2 : Int)) ∧ ∃ F' rv' us', VauIn w' base F' g v (moveR s vs l).1 (moveR s vs l).2.1 slf rv' us' ∧ Chg (v :: F) w w' ∧ (∀ b ∈ F', b ∈ F ∨ w.heap.size ≤ b) := by
  have hnb := h.dev.ok.nb
  have kb := Blk.new w 23 #[.pointer (some ⟨v, 0, none⟩)]
  have bb := below_new w (.cells #[.pointer (some ⟨v, 0, none⟩)] 23)
  have HM := hid (moves_calls s.n vs.gen A c l (v :: F) hnb (h.hd.keep bb) (hl.chg (F' := v :: F) (Chg.of_below (L := v :: F) bb) (fun b h => .inl h)) hm)
  have c0 : (w.alloc (.cells #[.pointer (some ⟨v, 0, none⟩)] 23)).cell? ⟨w.heap.size, 0, none⟩ = some (.pointer (some ⟨v, 0, none⟩)) := kb.cell 0 rfl
  have KB0 := hid kb; have BB0 := hid bb; have HV := hid h; have HL := hid hl
  clear h hl kb bb
  by_cases hmv : movesE s.n vs.gen l = 0
  · rw [hmv] at HM
    have hg2 : vs.gen ≠ 2147483647 := fun e => by
      unfold movesE at hmv
      rw [if_pos e] at hmv
      cases hmv
    go_enter Try.func24, Try.ntmps24
    go_wp2_with fail
    refine HM.out.mono ?_
    rintro _ w1 ⟨rfl, hb1⟩
    have HB1 := hid (BB0.out.trans (hb1.mono BB0.out.size)); have KB1 := hid (KB0.out.keep hb1)
    rw [show ((0 : Nat) : Int) = 0 from rfl]
    clear c0 hb1 HM KB0 BB0
    have HC := hid (fun W (hb : Below w1.heap.size w1 W) => (⟨(KB1.out.keep hb).cell 0 rfl, (HV.out.hd.keep (HB1.out.trans (hb.mono HB1.out.size))).cell 1 rfl, (HV.out.hd.keep (HB1.out.trans (hb.mono HB1.out.size))).cell 4 rfl⟩ : W.cell? ⟨w.heap.size, 0, none⟩ = some (.pointer (some ⟨v, 0, none⟩)) ∧ W.cell? ⟨v, 1, none⟩ = some (.pointer (some ⟨g, 0, none⟩)) ∧ W.cell? ⟨v, 4, none⟩ = some (.int .i64 (vs.gen : Int))))
    have HZ := hid (fun W (hb : Below w1.heap.size w1 W) => dSize_calls base g F s W (HV.out.dev.keep (HB1.out.trans (hb.mono HB1.out.size))))
    have e1 : IntKind.i64.wrap ((vs.gen : Int) + 1) = ((vs.gen + 1 : Nat) : Int) := by rw [IntWalk.i64_in _ (by omega)]; omega
    obtain ⟨G1, hG1⟩ : ∃ G1, vs.gen + 1 = G1 := ⟨_, rfl⟩
    rw [hG1] at e1
    have HA := hid (fun W => areaOf_calls s.n G1 W (by omega) hnb (by omega))
    have d0 := HC.out w1 (Below.refl _ _)
    obtain ⟨d0, d1, d4⟩ := d0
    obtain ⟨NX, hNX⟩ : ∃ NX, areaV s.n G1 = NX := ⟨_, rfl⟩
    rw [hNX] at HA
    obtain ⟨x0, x1, x2⟩ := NX
    have HNX := hid hNX
    clear hNX
    unfold arv at HA
    dsimp only at HA
    generalize hbq : w.heap.size = bq at HC d0 KB1 ⊢
    go_wp2_with fail
    have hbl : bq < w1.heap.size := lt_of_cell d0
    have hvl : v < w1.heap.size := lt_of_cell d1
    refine wp_region_invB 79 0 (mvVal v g s.n vs.gen G1 (.agg #[.int .i64 x0, .int .i64 x1, .int .i64 x2])) (MvS w1 #[.int .i64 x0, .int .i64 x1, .int .i64 x2]) (by kernel_rfl) (by kernel_rfl) (by exact Nat.le_refl 79) ?_ ?_ ?_
    · exact ⟨(Below.refl _ _).drew, fun h => (by cases h), fun h => (by cases h), fun h => (by cases h)⟩
    · intro i o f gh a W hi hf hdep hsame hcl hval hS
      have hcell := HC.out W hS.below
      obtain ⟨c0, c1, c4⟩ := hcell
      have E2 : a.tmps[2]? = some (.pointer (some ⟨bq, 0, none⟩)) := (same_of hsame 2 (by rfl)).trans rfl
      rcases i with _ | _ | _ | _ | _ | _ | _ | _ | _ | _ | _ | _ | _ | _ | _ | _ | i
      all_goals simp only [List.getElem?_cons_succ, List.getElem?_cons_zero, List.getElem?_nil, Option.some.injEq, reduceCtorEq] at hi
      all_goals subst hi
      · refine does_value (w' := W) (v := .pointer (some ⟨v, 0, none⟩)) (by go_simp) ⟨0, .inr rfl, hS.step (Below.refl _ _) _ 0 (by decide) (by decide) (by decide)⟩
      · have E18 := hval 0 _ 18 rfl rfl (dep_of hdep 0 (by rfl))
        unfold mvVal at E18
        refine does_value (w' := W) (v := .pointer (some ⟨v, 0, none⟩)) (by go_simp) ⟨0, .inr rfl, hS.step (Below.refl _ _) _ 0 (by decide) (by decide) (by decide)⟩
      · have E18 := hval 1 _ 19 rfl rfl (dep_of hdep 1 (by rfl))
        unfold mvVal at E18
        refine does_value (w' := W) (v := .pointer (some ⟨v, 1, none⟩)) (by go_simp) ⟨0, .inr rfl, hS.step (Below.refl _ _) _ 0 (by decide) (by decide) (by decide)⟩
      · have E18 := hval 2 _ 20 rfl rfl (dep_of hdep 2 (by rfl))
        unfold mvVal at E18
        refine does_value (w' := W) (v := .pointer (some ⟨g, 0, none⟩)) (by go_simp) ⟨0, .inr rfl, hS.step (Below.refl _ _) _ 0 (by decide) (by decide) (by decide)⟩
      · have E18 := hval 3 _ 21 rfl rfl (dep_of hdep 3 (by rfl))
        unfold mvVal at E18
        refine does_call 22 #[.pointer (some ⟨g, 0, none⟩)] (by go_simp) ((HZ.out W hS.below).mono ?_)
        rintro _ _ ⟨rfl, rfl⟩
        exact ⟨_, rfl, 0, .inr rfl, hS.step (Below.refl _ _) _ 0 (by decide) (by decide) (by decide)⟩
      · refine does_value (w' := W) (v := .pointer (some ⟨v, 0, none⟩)) (by go_simp) ⟨0, .inr rfl, hS.step (Below.refl _ _) _ 0 (by decide) (by decide) (by decide)⟩
      · have E18 := hval 5 _ 23 rfl rfl (dep_of hdep 5 (by rfl))
        unfold mvVal at E18
        refine does_value (w' := W) (v := .pointer (some ⟨v, 0, none⟩)) (by go_simp) ⟨0, .inr rfl, hS.step (Below.refl _ _) _ 0 (by decide) (by decide) (by decide)⟩
      · have E18 := hval 6 _ 24 rfl rfl (dep_of hdep 6 (by rfl))
        unfold mvVal at E18
        refine does_value (w' := W) (v := .pointer (some ⟨v, 2, none⟩)) (by go_simp) ⟨0, .inr rfl, hS.step (Below.refl _ _) _ 0 (by decide) (by decide) (by decide)⟩
      · have E18 := hval 7 _ 25 rfl rfl (dep_of hdep 7 (by rfl))
        unfold mvVal at E18
        refine does_value (w' := W) (v := .pointer (some ⟨v, 4, none⟩)) (by go_simp) ⟨0, .inr rfl, hS.step (Below.refl _ _) _ 0 (by decide) (by decide) (by decide)⟩
      · have E18 := hval 8 _ 26 rfl rfl (dep_of hdep 8 (by rfl))
        unfold mvVal at E18
        refine does_value (w' := W) (v := .int .i64 (vs.gen : Int)) (by go_simp) ⟨0, .inr rfl, hS.step (Below.refl _ _) _ 0 (by decide) (by decide) (by decide)⟩
      · have E18 := hval 9 _ 27 rfl rfl (dep_of hdep 9 (by rfl))
        unfold mvVal at E18
        refine does_value (w' := W) (v := .int .i64 (G1 : Int)) (by go_simp) ⟨0, .inr rfl, hS.step (Below.refl _ _) _ 0 (by decide) (by decide) (by decide)⟩
      · have E18 := hval 4 _ 22 rfl rfl (dep_of hdep 4 (by rfl))
        have E19 := hval 10 _ 28 rfl rfl (dep_of hdep 10 (by rfl))
        unfold mvVal at E18 E19
        refine does_call 21 #[.int .i64 (s.n : Int), .int .i64 (G1 : Int)] (by go_simp) ((HA.out W).mono ?_)
        rintro _ W' ⟨rfl, hb⟩
        exact ⟨_, rfl, 0, .inr rfl, hS.step hb _ 0 (by decide) (by decide) (by decide)⟩
      · refine does_value (w' := W.alloc (.cells #[.int .i64 0, .int .i64 0, .int .i64 0] 40)) (v := .pointer (some ⟨W.heap.size, 0, none⟩)) (by go_simp) ⟨W.heap.size, .inr rfl, hS.area hf⟩
      · refine does_value (w' := W.alloc (.cells #[.int .i64 0] 3)) (v := .pointer (some ⟨W.heap.size, 0, none⟩)) (by go_simp) ⟨W.heap.size, .inr rfl, hS.int⟩
      · have f12 := dep_of hdep 12 (by rfl)
        have E18 := hval 12 _ 6 rfl rfl f12
        have E19 := hval 11 _ 29 rfl rfl (dep_of hdep 11 (by rfl))
        unfold mvVal at E18 E19
        obtain ⟨-, kb⟩ := hS.na f12
        refine does_skip (w' := W.setRow (gh 12) #[.int .i64 x0, .int .i64 x1, .int .i64 x2]) (run_store_all rfl (by rw [eval_getD, E18]; rfl) (by rw [eval_getD, E19]; rfl) kb (by kernel_rfl) (by split <;> first | rfl | simp) (by simp [Value.oneCell'])) ⟨0, .inl rfl, hS.put f12⟩
      · have f13 := dep_of hdep 13 (by rfl)
        have E18 := hval 13 _ 7 rfl rfl f13
        unfold mvVal at E18
        have kb := (hS.ne f13).2
        have kc := kb.cell 0 rfl
        have kf := kb.frozen 0
        refine does_skip (w' := W.setCell ⟨gh 13, 0, none⟩ (.int .i64 0)) (by go_simp) ⟨0, .inl rfl, hS.zero f13⟩
    · intro gh W hS
      simp only [putAll, mvVal, Nat.reduceAdd, Nat.zero_add, Act.put, List.setIfInBounds_toArray, List.set_cons_zero, List.set_cons_succ]
      obtain ⟨hp1, kp⟩ := hS.na rfl
      obtain ⟨hq1, kq⟩ := hS.ne rfl
      rw [if_pos rfl] at kp
      have hWb := hS.below
      clear hS
      generalize gh 12 = p at hp1 kp ⊢
      generalize gh 13 = q at hq1 kq ⊢
      clear d0 d1 d4 HZ HA
      obtain ⟨d0, d1, d4⟩ := HC.out W hWb
      have hlw : W.heap.size ≤ W.heap.size := Nat.le_refl _
      have hWsz : w.heap.size ≤ w1.heap.size := HB1.out.size
      have hWs2 : w1.heap.size ≤ W.heap.size := hWb.size
      have HCW := hid (fun W' (hb : Below W.heap.size W W') => (⟨(KB1.out.keep (hWb.trans (hb.mono hWb.size))).cell 0 rfl, (kp.keep hb).cell 0 rfl, (kp.keep hb).cell 1 rfl, (kp.keep hb).cell 2 rfl⟩ : W'.cell? ⟨bq, 0, none⟩ = some (.pointer (some ⟨v, 0, none⟩)) ∧ W'.cell? ⟨p, 0, none⟩ = some (.int .i64 x0) ∧ W'.cell? ⟨p, 1, none⟩ = some (.int .i64 x1) ∧ W'.cell? ⟨p, 2, none⟩ = some (.int .i64 x2)))
      have HWW := hid (show Below w.heap.size w W by rw [hbq]; exact (hbq ▸ HB1.out : Below bq w w1).trans (hWb.mono (by omega)))
      have HKP := hid kp; have HKQ := hid kq
      have HR0 := hid (show (W.alloc (.cells #[fnV (blankFn bq p)] 66)).ownsRow W.heap.size 66 1 (.slice (some ⟨W.heap.size, 0, none⟩) 1 1) (([] : List Nat).length + 1) (fnV (blankFn bq p) :: ([] : List Nat).map fun b => fnV (wrFn b)) from
        ⟨rfl, .inr ⟨W.heap.size, 1, _, rfl, Nat.le_refl _, Blk.new W _ _, by simp, by simp [maxLen], by simp, by simp⟩⟩)
      have HB0 := hid (below_new W (.cells #[fnV (blankFn bq p)] 66))
      have HW0 := hid (show WrAll w (W.alloc (.cells #[fnV (blankFn bq p)] 66)) W.heap.size v q (v :: F) ⟨x0, x1, x2⟩ l [] from fun j b h => by simp at h)
      clear kp kq
      go_wp2_with fail
      unfold blankFn fnV at HR0 HB0 HW0
      dsimp only at HR0 HB0 HW0
      generalize W.alloc (.cells #[Value.func (Fn.func 58) #[] #[.pointer (some ⟨bq, 0, none⟩), .pointer (some ⟨p, 0, none⟩)]] 66) = W0 at HR0 HB0 HW0 ⊢
      go_loopw [8, 10, 34] (fun v8 _ v34 wr => ∃ bs : List Nat, v34 = .int .i64 (bs.length : Int) ∧ bs.length ≤ l.length ∧ Hid (wr.ownsRow W.heap.size 66 1 v8 (bs.length + 1) (fnV (blankFn bq p) :: bs.map fun b => fnV (wrFn b))) ∧ Hid (WrAll w wr W.heap.size v q (v :: F) ⟨x0, x1, x2⟩ l bs) ∧ Hid (Below W.heap.size W wr)) (fun _ _ v34 _ => l.length - (intOf v34).toNat)
      case atStart => exact ⟨[], rfl, Nat.zero_le _, HR0, HW0, HB0⟩
      case round =>
        clear HR0 HB0 HW0 d0 d1 d4
        obtain ⟨bs, rfl, hk, HR, HA, HB⟩ := hrel
        by_cases hlt : bs.length < l.length
        · have hlt' : (bs.length : Int) < (l.length : Int) := by omega
          have hbw : Below w.heap.size w wr := HWW.out.trans (HB.out.mono HWW.out.size)
          obtain ⟨b, off, A', c', x, hA, hblt, hbF, hxk, hcx, hsx, hle, hnx⟩ := HL.out.at_ hlt
          subst hA
          have hcw : wr.cell? ⟨b, off + bs.length, none⟩ = some (.slice A' x.length c') := cell_chg hcx (Chg.of_below (L := []) hbw) (by simp)
          have HX := hid hxk; have HSX := hid hsx; have HNX := hid hnx
          obtain ⟨c0, c1, c2, c3⟩ := HCW.out wr HB.out
          have HWC := hid (writing_calls v x.length c' q A' ⟨x0, x1, x2⟩ wr)
          unfold arv at HWC
          dsimp only at HWC
          have hBr : W.heap.size ≤ wr.heap.size := HB.out.size
          clear hcx hsx hxk hnx hbw
          go_wp2_with fail
          refine HWC.out.mono ?_
          rintro _ w2 ⟨rfl, he, hb2⟩
          unfold fnV wrFn
          dsimp only
          have HE2 := hid he; have HR2 := hid (ownsRow_chg HR.out (Chg.of_below (L := []) hb2) (fun _ _ => by simp)); have HA2 := hid (HA.out.keep hb2); have HB2 := hid (HB.out.trans (hb2.mono HB.out.size))
          clear he hb2 HWC HR HA HB hcw c0 c1 c2 c3
          go_wp2_with (at_builtin; refine Held.go ?_)
          have hbn := below_new w2 (.cells #[Value.func (Fn.func 62) #[] #[.pointer (some ⟨wr.heap.size, 0, none⟩), .pointer (some ⟨wr.heap.size + 2, 0, none⟩), .pointer (some ⟨wr.heap.size + 3, 0, none⟩), .pointer (some ⟨wr.heap.size + 1, 0, none⟩)]] 66)
          have hone := cell_one_new w2 (Value.func (Fn.func 62) #[] #[.pointer (some ⟨wr.heap.size, 0, none⟩), .pointer (some ⟨wr.heap.size + 2, 0, none⟩), .pointer (some ⟨wr.heap.size + 3, 0, none⟩), .pointer (some ⟨wr.heap.size + 1, 0, none⟩)]) 66
          have hsz3 := hbn.size
          generalize w2.alloc (.cells #[Value.func (Fn.func 62) #[] #[.pointer (some ⟨wr.heap.size, 0, none⟩), .pointer (some ⟨wr.heap.size + 2, 0, none⟩), .pointer (some ⟨wr.heap.size + 3, 0, none⟩), .pointer (some ⟨wr.heap.size + 1, 0, none⟩)]] 66) = w3 at hbn hone hsz3 ⊢
          have HE3 := hid (HE2.out.keep hbn); have HR3 := hid (ownsRow_chg HR2.out (Chg.of_below (L := []) hbn) (fun _ _ => by simp)); have HA3 := hid (HA2.out.keep hbn); have HB3 := hid (HB2.out.trans (hbn.mono HB2.out.size))
          obtain ⟨i0, hi, hz0, hz1, hz2⟩ := info_parts info_step
          refine wpList_append_own_at w3 rfl _ _ 94 rfl W.heap.size 66 i0 _ 1 8 Try.underlying94 hi hz0 hz1 hz2 rfl (by omega) u8 (bs.length + 1) _ rfl HR3.out ⟨w2.heap.size, 0, none⟩ 1 1 [fnV (wrFn wr.heap.size)] rfl rfl hone (by simp [Value.oneCell', fnV]) (by simp [maxLen]; omega) (by omega) HB3.out.size ?_
          intro v8 w8 h8 hg8 _ hm8
          have HB8 := hid (HB3.out.trans (below_of_grown hg8 HB3.out.size (fun b' e => (World.ownsRow.lt HR3.out b' e).1)))
          have HA8 := hid ((HA3.out.grown hg8 HR3.out rfl).push HX.out (HE3.out.grown hg8 HR3.out rfl) hBr HSX.out hle HNX.out)
          have HR8 := hid (show w8.ownsRow W.heap.size 66 1 v8 ((bs ++ [wr.heap.size]).length + 1) (fnV (blankFn bq p) :: (bs ++ [wr.heap.size]).map fun b => fnV (wrFn b)) from by
            have h9 := h8
            simp only [List.length_append, List.length_cons, List.length_nil, List.map_append, List.map_cons, List.map_nil] at h9 ⊢
            exact h9)
          have hl8 : (bs ++ [wr.heap.size]).length = bs.length + 1 := by simp
          clear h8 hg8 hm8 hone hbn hi hz0 hz1 hz2 HE2 HE3 HR2 HR3 HA2 HA3 HB2 HB3
          go_wp2_with fail
          go_roundw
          case rel => exact ⟨bs ++ [wr.heap.size], by rw [hl8]; go_num, by omega, HR8, HA8, HB8⟩
          case measure => simp [intOf]; omega
        · have hbl2 : bs.length = l.length := by omega
          have hlt' : ¬ (bs.length : Int) < (l.length : Int) := by omega
          go_wp2_with fail
          refine wp_region_invB 79 undef (m11Val v g u8 (Value.func (Fn.func 31) #[.pointer (some ⟨g, 0, none⟩)] #[]) (Value.func (Fn.func 59) #[] #[.pointer (some ⟨bq, 0, none⟩), .pointer (some ⟨p, 0, none⟩)]))
            (M11 w W v q (v :: F) ⟨x0, x1, x2⟩ l bs u8 (Value.func (Fn.func 31) #[.pointer (some ⟨g, 0, none⟩)] #[]) (Value.func (Fn.func 59) #[] #[.pointer (some ⟨bq, 0, none⟩), .pointer (some ⟨p, 0, none⟩)]) (fnV (blankFn bq p) :: bs.map fun b => fnV (wrFn b))) (by kernel_rfl) (by kernel_rfl) (by exact Nat.le_refl 79) ?_ ?_ ?_
          · exact ⟨HB.out.drew, fun _ => ownsRow_chg HR.out (Chg.of_below (L := []) (Below.refl _ _).drew) (fun _ _ => by simp), fun h => (by cases h), fun h => (by cases h), HA.out.keep (Below.refl _ _).drew, fun h => (by cases h)⟩
          · intro i o f gh a W' hi hf hdep hsame hcl hval hS
            obtain ⟨c0, -, -, -⟩ := HCW.out W' hS.below
            have d1 := (HC.out W' (hWb.trans (hS.below.mono hWb.size))).2.1
            have E2 : a.tmps[2]? = some (.pointer (some ⟨bq, 0, none⟩)) := (same_of hsame 2 (by rfl)).trans rfl
            have E6 : a.tmps[6]? = some (.pointer (some ⟨p, 0, none⟩)) := (same_of hsame 6 (by rfl)).trans rfl
            rcases i with _ | _ | _ | _ | _ | _ | _ | _ | _ | _ | _ | _ | _ | _ | _ | i
            all_goals simp only [List.getElem?_cons_succ, List.getElem?_cons_zero, List.getElem?_nil, Option.some.injEq, reduceCtorEq] at hi
            all_goals subst hi
            · have E8 : a.tmps[8]? = some u8 := (same_but hsame 8 14 (not_yet hcl hf 14 (by rfl)) (by rfl)).trans rfl
              refine does_value (w' := W') (v := u8) (by go_simp) ⟨undef, .inr rfl, hS.step _ undef (by decide) (by decide) (by decide)⟩
            · refine does_value (w' := W') (v := .pointer (some ⟨v, 0, none⟩)) (by go_simp) ⟨undef, .inr rfl, hS.step _ undef (by decide) (by decide) (by decide)⟩
            · have E47 := hval 1 _ 47 rfl rfl (dep_of hdep 1 (by rfl))
              unfold m11Val at E47
              refine does_value (w' := W') (v := .pointer (some ⟨v, 0, none⟩)) (by go_simp) ⟨undef, .inr rfl, hS.step _ undef (by decide) (by decide) (by decide)⟩
            · have E48 := hval 2 _ 48 rfl rfl (dep_of hdep 2 (by rfl))
              unfold m11Val at E48
              refine does_value (w' := W') (v := .pointer (some ⟨v, 1, none⟩)) (by go_simp) ⟨undef, .inr rfl, hS.step _ undef (by decide) (by decide) (by decide)⟩
            · have E49 := hval 3 _ 49 rfl rfl (dep_of hdep 3 (by rfl))
              unfold m11Val at E49
              refine does_value (w' := W') (v := .pointer (some ⟨g, 0, none⟩)) (by go_simp) ⟨undef, .inr rfl, hS.step _ undef (by decide) (by decide) (by decide)⟩
            · have E50 := hval 4 _ 50 rfl rfl (dep_of hdep 4 (by rfl))
              unfold m11Val at E50
              refine does_value (w' := W') (v := Value.func (Fn.func 31) #[.pointer (some ⟨g, 0, none⟩)] #[]) (by go_simp) ⟨undef, .inr rfl, hS.step _ undef (by decide) (by decide) (by decide)⟩
            · refine does_value (w' := W') (v := Value.func (Fn.func 59) #[] #[.pointer (some ⟨bq, 0, none⟩), .pointer (some ⟨p, 0, none⟩)]) (by go_simp) ⟨undef, .inr rfl, hS.step _ undef (by decide) (by decide) (by decide)⟩
            · refine does_value (w' := W') (v := .pointer (some ⟨v, 0, none⟩)) (by go_simp) ⟨undef, .inr rfl, hS.step _ undef (by decide) (by decide) (by decide)⟩
            · have E53 := hval 7 _ 53 rfl rfl (dep_of hdep 7 (by rfl))
              unfold m11Val at E53
              refine does_value (w' := W') (v := .pointer (some ⟨v, 0, none⟩)) (by go_simp) ⟨undef, .inr rfl, hS.step _ undef (by decide) (by decide) (by decide)⟩
            · have E54 := hval 8 _ 54 rfl rfl (dep_of hdep 8 (by rfl))
              unfold m11Val at E54
              refine does_value (w' := W') (v := .pointer (some ⟨v, 1, none⟩)) (by go_simp) ⟨undef, .inr rfl, hS.step _ undef (by decide) (by decide) (by decide)⟩
            · have E55 := hval 9 _ 55 rfl rfl (dep_of hdep 9 (by rfl))
              unfold m11Val at E55
              refine does_value (w' := W') (v := .pointer (some ⟨g, 0, none⟩)) (by go_simp) ⟨undef, .inr rfl, hS.step _ undef (by decide) (by decide) (by decide)⟩
            · have E56 := hval 10 _ 56 rfl rfl (dep_of hdep 10 (by rfl))
              unfold m11Val at E56
              refine does_value (w' := W') (v := Value.func (Fn.func 31) #[.pointer (some ⟨g, 0, none⟩)] #[]) (by go_simp) ⟨undef, .inr rfl, hS.step _ undef (by decide) (by decide) (by decide)⟩
            · have E51 := hval 5 _ 51 rfl rfl (dep_of hdep 5 (by rfl))
              unfold m11Val at E51
              have E52 := hval 6 _ 52 rfl rfl (dep_of hdep 6 (by rfl))
              unfold m11Val at E52
              have E57 := hval 11 _ 57 rfl rfl (dep_of hdep 11 (by rfl))
              unfold m11Val at E57
              have f13 := not_yet hcl hf 13 (by rfl)
              have f14 := not_yet hcl f13 14 (by rfl)
              refine does_value (w' := W'.alloc (.cells #[Value.func (Fn.func 31) #[.pointer (some ⟨g, 0, none⟩)] #[], Value.func (Fn.func 59) #[] #[.pointer (some ⟨bq, 0, none⟩), .pointer (some ⟨p, 0, none⟩)], Value.func (Fn.func 31) #[.pointer (some ⟨g, 0, none⟩)] #[]] 66)) (v := .slice (some ⟨W'.heap.size, 0, none⟩) 3 3) (by go_simp) ⟨_, .inr rfl, hS.build f13 f14⟩
            · have E46 := hval 0 _ 46 rfl rfl (dep_of hdep 0 (by rfl))
              unfold m11Val at E46
              have f12 := dep_of hdep 12 (by rfl)
              have E58 := hval 12 _ 58 rfl rfl f12
              unfold m11Val at E58
              have f14 := not_yet hcl hf 14 (by rfl)
              obtain ⟨k, e12, kb, hne⟩ := hS.blk f12 hf
              rw [e12] at E58
              obtain ⟨i0, hi0, hz0, hz1, hz2⟩ := info_parts info_step
              obtain ⟨v', w', hr, h2, h3, -, -⟩ := run_append_own_at (P := Try.prog) W' W.heap.size 94 94 66 i0 _ 1 8 Try.underlying94 hi0 hz0 hz1 hz2 rfl (by omega) u8 (bs.length + 1) _ (hS.row0 hf) ⟨k, 0, none⟩ 3 3 [Value.func (Fn.func 31) #[.pointer (some ⟨g, 0, none⟩)] #[], Value.func (Fn.func 59) #[] #[.pointer (some ⟨bq, 0, none⟩), .pointer (some ⟨p, 0, none⟩)], Value.func (Fn.func 31) #[.pointer (some ⟨g, 0, none⟩)] #[]] rfl (fun j u hj => by have := kb.cell j (v := u) (by simpa using hj); rw [Addr.add_lit]; simpa using this) (by simp [Value.oneCell']) (by simp [maxLen]; omega) (by omega) hS.below.size
              exact does_value (run_append_op (.tmp 46) (.tmp 58) _ _ rfl _ _ (by rw [eval_getD, E46]; rfl) (by rw [eval_getD, E58]; rfl) hr) ⟨v', .inr rfl, hS.app hf f14 h2 h3⟩
            · have E59 := hval 13 _ 59 rfl rfl (dep_of hdep 13 (by rfl))
              unfold m11Val at E59
              refine does_value (w' := W') (v := gh 13) (by go_simp) ⟨gh 13, .inr rfl, hS.last⟩
          · intro gh W' hS
            simp only [putAll, m11Val, Nat.reduceAdd, Nat.zero_add, Act.put, List.setIfInBounds_toArray, List.set_cons_zero, List.set_cons_succ]
            have hr1 := hS.row1 rfl
            rw [← hS.fin rfl] at hr1
            have HA2 := hid hS.wra; have HB2 := hid hS.below
            clear hS HA HB HR
            generalize gh 14 = u14 at hr1 ⊢
            have HR2 := hid hr1
            clear hr1
            generalize gh 13 = u13
            generalize gh 12 = u12
            have hBW : Below w.heap.size w W' := HWW.out.trans (HB2.out.mono HWW.out.size)
            have hD := HV.out.dev.keep hBW
            have hvv := HV.out.hd.keep hBW
            have hvlt := HV.out.hd.lt
            have hFl : ∀ x ∈ F, x < w.heap.size := fun x hx => (HV.out.dev.lt x hx).2
            have hpW := HKP.out.keep HB2.out
            have hqW := HKQ.out.keep HB2.out
            have hpl := HKP.out.lt
            have hql := HKQ.out.lt
            have hWW' := HB2.out.size
            have hpq : p ≠ q := fun e => by
              have h1 := HKP.out
              have h2 := HKQ.out
              unfold Blk at h1 h2
              rw [e, h2] at h1
              simp only [Option.some.injEq, Obj.cells.injEq] at h1
              exact absurd h1.2.1 (by decide)
            have hqF : q ∉ F := fun hm => by have := hFl q hm; omega
            have hpF : p ∉ q :: F := fun hm => by
              rcases List.mem_cons.1 hm with e | hm
              · exact hpq e
              · have := hFl p hm; omega
            have hbqF : bq ∉ q :: F := fun hm => by
              rcases List.mem_cons.1 hm with e | hm
              · omega
              · have := hFl bq hm; omega
            have hvF : v ∉ q :: F := fun hm => by
              rcases List.mem_cons.1 hm with e | hm
              · omega
              · exact HV.out.vf hm
            have hbqW : Blk W' bq 23 #[.pointer (some ⟨v, 0, none⟩)] := (hbq ▸ KB1.out : Blk w1 bq _ _).keep (hWb.trans (HB2.out.mono hWb.size))
            obtain ⟨br, cap, hu14, hbrW, hrowc⟩ : ∃ br cap, u14 = .slice (some ⟨br, 0, none⟩) (bs.length + 1 + 3) cap ∧ W.heap.size ≤ br ∧ ∀ (k : Nat) f, (mvFns g bq p bs)[k]? = some f → W'.cell? ⟨br, k, none⟩ = some (fnV f) := by
              rcases HR2.out.2 with ⟨_, h0⟩ | ⟨br, cap, cur, e, hle, -⟩
              · omega
              · subst e
                refine ⟨br, cap, rfl, hle, fun k f hf => ?_⟩
                have := World.ownsRow.cells HR2.out (g := br) rfl k (fnV f) (by
                  have e2 : ((fnV (blankFn bq p) :: bs.map fun b => fnV (wrFn b)) ++ [Value.func (Fn.func 31) #[.pointer (some ⟨g, 0, none⟩)] #[], Value.func (Fn.func 59) #[] #[.pointer (some ⟨bq, 0, none⟩), .pointer (some ⟨p, 0, none⟩)], Value.func (Fn.func 31) #[.pointer (some ⟨g, 0, none⟩)] #[]]) = (mvFns g bq p bs).map fnV := by
                    unfold mvFns
                    simp [List.map_map, Function.comp_def, flushFn, superFn, fnV]
                  rw [e2, List.getElem?_map, hf]
                  rfl)
                rw [Addr.add_lit, Nat.zero_add] at this
                exact this
            obtain ⟨N, hN⟩ : ∃ N, bs.length + 1 + 3 = N := ⟨_, rfl⟩
            rw [hN] at hu14
            subst hu14
            have hbrF : br ∉ q :: F := fun hm => by
              rcases List.mem_cons.1 hm with e | hm
              · omega
              · have := hFl br hm; omega
            have hmv2 := moves_ok hmv
            have HDO := hid (mv_do base g v q bq p br F s w W' W.heap.size G1 cap N l bs hD (Nat.le_trans hbase hBW.size) hfz hlo (by omega) (by have := hmv2.2; have := half_le hnb; omega) hbl2 (by omega) hm hbqW hbqF (hvv.cell 1 rfl) (by omega) hvF (by rw [HNX.out]; exact hpW) hpF hqW hqF hql (fun x hx => by have := hFl x hx; omega) (Chg.of_below hBW) (by omega) (by rw [HNX.out]; exact HA2.out) hrowc hbrF)
            obtain ⟨R, hR⟩ : ∃ R, chainR (moveSteps s.n G1 l) (s, 0) = R := ⟨_, rfl⟩
            rw [hR] at HDO
            have HRR := hid hR
            obtain ⟨P, er⟩ := R
            have HVD := hid (vdo_calls (fun W2 => VtAt W' base F g q P W2) er v br cap N W' HDO.out (fun W2 hI => by
              obtain ⟨F2, k1, k2, k3, k4⟩ := hI
              exact ⟨_, hvv.chg k2 hvF, by simp [vcells]⟩))
            have c0 : W'.cell? ⟨bq, 0, none⟩ = some (.pointer (some ⟨v, 0, none⟩)) := hbqW.cell 0 rfl
            have HBQ := hid hbqW; have HVV := hid hvv; have HPW := hid hpW; have HMV := hid hmv2; have HDD := hid hD
            clear hR HDO hrowc HR2 HA2 hbqW hvv hpW hqW hD hmv2
            go_wp2_with fail
            refine HVD.out.mono ?_
            rintro _ w5 ⟨rfl, W5, hI, rfl⟩
            obtain ⟨F2, k1, k2, k3, k4⟩ := hI
            obtain ⟨s2, fn⟩ := P
            dsimp only at k1 k4
            have hn2 : s2.n = s.n := by
              have := (chain_costs (fun p : DS × Int => p.1) (moveSteps s.n G1 l) (mvCosts l) (by unfold mvCosts moveSteps; simp) (mv_costs s.n G1 l hnb) (s, 0) hfz).2.1
              rw [HRR.out] at this
              exact this
            have hqn : w.heap.size ≤ q := by omega
            have hcw : Chg F w W5 := ((Chg.of_below (L := F) hBW).trans k2 (fun b hb => by
              rcases List.mem_cons.1 hb with rfl | hb
              · exact .inr hqn
              · exact .inl hb))
            have hk3 : ∀ b ∈ F2, b ∈ F ∨ w.heap.size ≤ b := fun b hb => (k3 b hb).imp id (fun hh => Nat.le_trans hBW.size hh)
            have hvau := VauIn.after HV.out hcw k1 hk3 hn2
            have hc5 : Chg (v :: F) w (W5.setCell ⟨v, 7, none⟩ (.bool (errB er))) := (hcw.more (fun b hb => .inl (List.mem_cons_of_mem _ hb))).trans (chg_set (L := [v]) (List.mem_singleton.2 rfl) 7 _) (fun b hb => .inl (by rw [List.mem_singleton.1 hb]; exact List.mem_cons_self))
            have hb5 := hvau.broke (errB er)
            have hp5 := (HPW.out.chg k2 hpF).far (p := ⟨v, 7, none⟩) (show p ≠ v by omega) (.bool (errB er))
            have hq5 := k4.far (p := ⟨v, 7, none⟩) (show q ≠ v by omega) (.bool (errB er))
            have hbq5 := (HBQ.out.chg k2 hbqF).far (p := ⟨v, 7, none⟩) (show bq ≠ v by omega) (.bool (errB er))
            have HB5 := hid hb5; have HC5 := hid hc5; have HK3 := hid hk3; have HP5 := hid hp5; have HQ5 := hid hq5; have HBQ5 := hid hbq5
            clear hb5 hc5 hk3 hp5 hq5 hbq5 hvau hcw k1 k2 k3 k4 HVD c0
            by_cases her : er = 0
            · subst her
              rw [show errB 0 = false from rfl] at HB5 HC5 HP5 HQ5 HBQ5 ⊢
              generalize W5.setCell ⟨v, 7, none⟩ (.bool false) = w5 at HB5 HC5 HP5 HQ5 HBQ5 ⊢
              have HMR := hid (show moveR s vs l = (s2, ⟨vs.gen + 1, l, fn, false⟩, 0) from by
                unfold moveR
                rw [if_pos hmv, hG1, HRR.out]
                rfl)
              rw [show ((0 : Nat) : Int) = 0 from rfl]
              go_wp2_with fail
              have hv5 : v < w5.heap.size := HB5.out.hd.lt
              have HLL := hid (fun W6 (hc : Chg [v] w5 W6) => HL.out.chg (F' := v :: F) (HC5.out.trans hc (fun b hb => .inl (by rw [List.mem_singleton.1 hb]; exact List.mem_cons_self))) (fun b hb => .inl hb))
              refine wp_region_invB 79 undef (m15Val v (.agg #[.int .i64 x0, .int .i64 x1, .int .i64 x2]) (.slice A l.length c) fn) (M15 w5 v g slf rv (areaV s.n vs.gen) ⟨x0, x1, x2⟩ vs.fin fn l) (by kernel_rfl) (by kernel_rfl) (by exact Nat.le_refl 79) ?_ ?_ ?_
              · refine ⟨Chg.of_below (L := [v]) (Below.refl _ _).drew, ?_, fun h => (by cases h)⟩
                have := HB5.out.hd
                rw [hn2] at this
                exact this
              · intro i o f gh a W6 hi hf hdep hsame hcl hval hS
                have kp6 := HP5.out.chg hS.chg (by simp; omega)
                have kq6 := HQ5.out.chg hS.chg (by simp; omega)
                have kb6 := HBQ5.out.chg hS.chg (by simp; omega)
                have c0 : W6.cell? ⟨bq, 0, none⟩ = some (.pointer (some ⟨v, 0, none⟩)) := kb6.cell 0 rfl
                have c1 : W6.cell? ⟨p, 0, none⟩ = some (.int .i64 x0) := kp6.cell 0 rfl
                have c2 : W6.cell? ⟨p, 1, none⟩ = some (.int .i64 x1) := kp6.cell 1 rfl
                have c3 : W6.cell? ⟨p, 2, none⟩ = some (.int .i64 x2) := kp6.cell 2 rfl
                have c4 : W6.cell? ⟨q, 0, none⟩ = some (.int .i64 fn) := kq6.cell 0 rfl
                have E1 : a.tmps[1]? = some (.slice A l.length c) := (same_of hsame 1 (by rfl)).trans rfl
                have E2 : a.tmps[2]? = some (.pointer (some ⟨bq, 0, none⟩)) := (same_of hsame 2 (by rfl)).trans rfl
                have E6 : a.tmps[6]? = some (.pointer (some ⟨p, 0, none⟩)) := (same_of hsame 6 (by rfl)).trans rfl
                have E7 : a.tmps[7]? = some (.pointer (some ⟨q, 0, none⟩)) := (same_of hsame 7 (by rfl)).trans rfl
                clear kp6 kq6 kb6
                rcases i with _ | _ | _ | _ | _ | _ | _ | _ | _ | _ | _ | _ | _ | _ | _ | _ | i
                all_goals simp only [List.getElem?_cons_succ, List.getElem?_cons_zero, List.getElem?_nil, Option.some.injEq, reduceCtorEq] at hi
                all_goals subst hi
                · refine does_value (w' := W6) (v := .pointer (some ⟨v, 0, none⟩)) (by go_simp) ⟨undef, .inr rfl, hS.step _ undef (by decide) (by decide) (by decide) (by decide)⟩
                · refine does_value (w' := W6) (v := .pointer (some ⟨v, 0, none⟩)) (by go_simp) ⟨undef, .inr rfl, hS.step _ undef (by decide) (by decide) (by decide) (by decide)⟩
                · refine does_value (w' := W6) (v := .pointer (some ⟨v, 0, none⟩)) (by go_simp) ⟨undef, .inr rfl, hS.step _ undef (by decide) (by decide) (by decide) (by decide)⟩
                · refine does_value (w' := W6) (v := .agg #[.int .i64 x0, .int .i64 x1, .int .i64 x2]) (by go_simp) ⟨undef, .inr rfl, hS.step _ undef (by decide) (by decide) (by decide) (by decide)⟩
                · refine does_value (w' := W6) (v := .slice A l.length c) (by go_simp) ⟨undef, .inr rfl, hS.step _ undef (by decide) (by decide) (by decide) (by decide)⟩
                · have E70 := hval 4 _ 70 rfl rfl (dep_of hdep 4 (by rfl))
                  unfold m15Val at E70
                  have h12 := not_yet hcl hf 12 (by rfl)
                  refine does_call 39 #[.slice A l.length c] (by go_simp) ((clones_calls A c l (v :: F) W6 (HLL.out W6 hS.chg) hm HMV.out.1).mono ?_)
                  rintro _ W7 ⟨x, us', rfl, hr, hb⟩
                  exact ⟨x, rfl, x, .inr rfl, hS.clone h12 hb hr⟩
                · refine does_value (w' := W6) (v := .int .i64 fn) (by go_simp) ⟨undef, .inr rfl, hS.step _ undef (by decide) (by decide) (by decide) (by decide)⟩
                · have E66 := hval 0 _ 66 rfl rfl (dep_of hdep 0 (by rfl))
                  unfold m15Val at E66
                  refine does_value (w' := W6) (v := .pointer (some ⟨v, 0, none⟩)) (by go_simp) ⟨undef, .inr rfl, hS.step _ undef (by decide) (by decide) (by decide) (by decide)⟩
                · have E73 := hval 7 _ 73 rfl rfl (dep_of hdep 7 (by rfl))
                  unfold m15Val at E73
                  refine does_value (w' := W6) (v := .pointer (some ⟨v, 2, none⟩)) (by go_simp) ⟨undef, .inr rfl, hS.step _ undef (by decide) (by decide) (by decide) (by decide)⟩
                · have E74 := hval 8 _ 74 rfl rfl (dep_of hdep 8 (by rfl))
                  unfold m15Val at E74
                  have E69 := hval 3 _ 69 rfl rfl (dep_of hdep 3 (by rfl))
                  unfold m15Val at E69
                  refine does_skip (run_store_area (ao := if f 9 = true then ⟨x0, x1, x2⟩ else areaV s.n vs.gen) (an := ⟨x0, x1, x2⟩) rfl E74 E69 hS.hd) ⟨undef, .inl rfl, hS.area hv5⟩
                · have E67 := hval 1 _ 67 rfl rfl (dep_of hdep 1 (by rfl))
                  unfold m15Val at E67
                  refine does_value (w' := W6) (v := .pointer (some ⟨v, 0, none⟩)) (by go_simp) ⟨undef, .inr rfl, hS.step _ undef (by decide) (by decide) (by decide) (by decide)⟩
                · have E75 := hval 10 _ 75 rfl rfl (dep_of hdep 10 (by rfl))
                  unfold m15Val at E75
                  refine does_value (w' := W6) (v := .pointer (some ⟨v, 5, none⟩)) (by go_simp) ⟨undef, .inr rfl, hS.step _ undef (by decide) (by decide) (by decide) (by decide)⟩
                · have E76 := hval 11 _ 76 rfl rfl (dep_of hdep 11 (by rfl))
                  unfold m15Val at E76
                  have E71 := hval 5 _ 71 rfl rfl (dep_of hdep 5 (by rfl))
                  unfold m15Val at E71
                  have kf := hS.hd.frozen 5
                  have kc := hS.hd.cell 5 rfl
                  obtain ⟨us', hr⟩ := hS.recs (dep_of hdep 5 (by rfl))
                  obtain ⟨A', n', c', e5⟩ : ∃ A' n' c', gh 5 = .slice A' n' c' := by
                    rcases hr.row.2 with ⟨e, _⟩ | ⟨g', cap', cur', e, _⟩
                    · exact ⟨_, _, _, e⟩
                    · exact ⟨_, _, _, e⟩
                  have hl6 := hS.list hv5
                  rw [e5] at hl6 E71
                  clear hr
                  refine does_skip (w' := W6.setCell ⟨v, 5, none⟩ (.slice A' n' c')) (by go_simp) ⟨undef, .inl rfl, hl6⟩
                · have E68 := hval 2 _ 68 rfl rfl (dep_of hdep 2 (by rfl))
                  unfold m15Val at E68
                  refine does_value (w' := W6) (v := .pointer (some ⟨v, 0, none⟩)) (by go_simp) ⟨undef, .inr rfl, hS.step _ undef (by decide) (by decide) (by decide) (by decide)⟩
                · have E77 := hval 13 _ 77 rfl rfl (dep_of hdep 13 (by rfl))
                  unfold m15Val at E77
                  refine does_value (w' := W6) (v := .pointer (some ⟨v, 6, none⟩)) (by go_simp) ⟨undef, .inr rfl, hS.step _ undef (by decide) (by decide) (by decide) (by decide)⟩
                · have E78 := hval 14 _ 78 rfl rfl (dep_of hdep 14 (by rfl))
                  unfold m15Val at E78
                  have E72 := hval 6 _ 72 rfl rfl (dep_of hdep 6 (by rfl))
                  unfold m15Val at E72
                  have kf := hS.hd.frozen 6
                  have kc := hS.hd.cell 6 rfl
                  refine does_skip (w' := W6.setCell ⟨v, 6, none⟩ (.int .i64 fn)) (by go_simp) ⟨undef, .inl rfl, hS.fin hv5⟩
              · intro gh W6 hS
                simp only [putAll, m15Val, Nat.reduceAdd, Nat.zero_add, Act.put, List.setIfInBounds_toArray, List.set_cons_zero, List.set_cons_succ]
                have hd6 := hS.hd
                rw [if_pos rfl, if_pos rfl, if_pos rfl] at hd6
                obtain ⟨us6, hr6⟩ := hS.recs rfl
                have HD6 := hid hd6; have HR6 := hid hr6; have HC6 := hid hS.chg
                clear hS hd6 hr6
                generalize gh 5 = rv' at HD6 HR6 ⊢
                go_wp2_with fail
                go_ret
                rw [HMR.out]
                have hs5 := HC5.out.size
                refine ⟨rfl, F2, rv', us6, ⟨HB5.out.dev.chg HC6.out (fun b hb hm => HB5.out.vf (by rw [← List.mem_singleton.1 hm]; exact hb)), ?_, HR6.out.lower (by omega), HB5.out.hv, HB5.out.vf, fun b hb => ?_⟩, HC5.out.trans HC6.out (fun b hb => .inl (by rw [List.mem_singleton.1 hb]; exact List.mem_cons_self)), HK3.out⟩
                · show Blk W6 v _ (vcells slf g (areaV s2.n (vs.gen + 1)) rv' fn false)
                  rw [hn2, hG1, HNX.out]
                  exact HD6.out
                · have h1 := (HR6.out.lt b hb).1
                  exact ⟨fun hm => by have := (HB5.out.dev.lt b hm).2; omega, by omega⟩
            · have hEB : errB er = true := by unfold errB; rw [decide_eq_false her]; rfl
              rw [hEB] at HB5 HC5 HP5 HQ5 HBQ5 ⊢
              generalize W5.setCell ⟨v, 7, none⟩ (.bool true) = w5 at HB5 HC5 HP5 HQ5 HBQ5 ⊢
              have HMR := hid (show moveR s vs l = (s2, { vs with broken := true }, er) from by
                unfold moveR
                rw [if_pos hmv, hG1, HRR.out]
                exact if_neg her)
              have her' : ¬ (er : Int) = 0 := by omega
              go_wp2_with fail
              go_ret
              rw [HMR.out]
              exact ⟨rfl, F2, rv, us, HB5.out, HC5.out, HK3.out⟩
  · have HMR := hid (show moveR s vs l = (s, vs, movesE s.n vs.gen l) from if_neg hmv)
    have hmv' : ¬ ((movesE s.n vs.gen l : Nat) : Int) = 0 := by omega
    generalize movesE s.n vs.gen l = E at HM HMR hmv'
    go_enter Try.func24, Try.ntmps24
    go_wp2_with fail
    refine HM.out.mono ?_
    rintro _ w1 ⟨rfl, hb1⟩
    have HB1 := hid (BB0.out.trans (hb1.mono BB0.out.size))
    clear c0 hb1 HM KB0 BB0
    go_wp2_with fail
    go_ret
    rw [HMR.out]
    exact ⟨rfl, F, rv, us, VauIn.after HV.out (Chg.of_below HB1.out) (HV.out.dev.keep HB1.out) (fun _ h => .inl h) rfl, Chg.of_below HB1.out, fun _ h => .inl h⟩
end
end Go.Proofs.Ytgldhmmfofnmiaa
/- Contracts: Replace and Records of a vault. -/
namespace Go.Proofs.Ytgldhmmfofnmiaa
open Go.RowKit

section
variable (base g v : Nat) (F : List Nat) (s : DS) (vs : VS) (rv : Value) (us : List Value) (w : World)
set_option maxHeartbeats 1000000 in
theorem replace_calls (A : Option Addr) (c : Nat) (l : List (List UInt8)) (h : VauIn w base F g v s vs (ptrV v) rv us) (hbase : base ≤ w.heap.size) (hl : LstB w (v :: F) A l) (hm : l.length ≤ 1000000) (hfz : Fused s) (hlo : s.loose.length ≤ 400000) (hn : 8 ≤ s.n) (hg : vs.gen ≤ 2147483647) :
    Calls Try.prog 8 #[.pointer (some ⟨v, 0, none⟩), .slice A l.length c] w fun e w' => e = .returned (.int .i64 ((replaceR s vs l).2.2 : Int)) ∧ ∃ F' rv' us', VauIn w' base F' g v (replaceR s vs l).1 (replaceR s vs l).2.1 (ptrV v) rv' us' ∧ Chg (v :: F) w w' ∧ (∀ b ∈ F', b ∈ F ∨ w.heap.size ≤ b) := by
  have HS := hid (vstate_calls h.hd)
  by_cases hb : vs.broken = true
  · have HR := hid (show replaceR s vs l = (s, vs, 23) from if_pos hb)
    rw [hb, if_pos rfl] at HS
    have HV := hid h
    clear h hl hb
    go_enter Try.func8, Try.ntmps8
    go_wp2_with fail
    refine HS.out.mono ?_
    rintro _ _ ⟨rfl, rfl⟩
    go_wp2_with fail
    go_ret
    rw [HR.out]
    exact ⟨rfl, F, rv, us, HV.out, Chg.refl _ _, fun _ h => .inl h⟩
  · have HR := hid (show replaceR s vs l = moveR s vs l from if_neg hb)
    rw [if_neg hb] at HS
    have HM := hid (move_calls base g v F s vs (ptrV v) rv us w A c l h hbase hl hm hfz hlo hn hg)
    clear h hl hb
    go_enter Try.func8, Try.ntmps8
    go_wp2_with fail
    refine HS.out.mono ?_
    rintro _ _ ⟨rfl, rfl⟩
    go_wp2_with fail
    refine HM.out.mono ?_
    rintro _ w' ⟨rfl, hp⟩
    have HP := hid hp
    clear hp HM HS
    go_wp2_with fail
    go_ret
    rw [HR.out]
    exact ⟨rfl, HP.out⟩
theorem Recs.lst {w : World} {B : Nat} {v : Value} {l : List (List UInt8)} {us : List Value} (h : Recs w B v l us) (F : List Nat) (hF : ∀ b, (v.ownBlock = some b ∨ ∃ u ∈ us, u.ownBlock = some b) → b ∉ F) : ∃ A c, v = .slice A l.length c ∧ LstB w F A l := by
  have hlen := h.len
  have key : ∀ (k : Nat) x u, l[k]? = some x → us[k]? = some u → ∃ A' c, u = .slice A' x.length c ∧ SB w w.heap.size A' x.length x ∧ x.length ≤ c ∧ ∀ b off, 0 < x.length → A' = some ⟨b, off, none⟩ → b ∉ F := fun k x u hx hu => by
    have ho := h.each k x u hx hu
    obtain ⟨Au, cu, hu', hle, hs, -⟩ := ho.sb
    refine ⟨Au, cu, hu', hs, hle, fun b off _ e => hF b (.inr ⟨u, List.mem_of_getElem? hu, ?_⟩)⟩
    rw [hu', e]
    rfl
  rcases h.row.2 with ⟨rfl, h0⟩ | ⟨b, cap, cur, rfl, _, _, hle, _⟩
  · have : l = [] := List.eq_nil_of_length_eq_zero h0
    subst this
    exact ⟨none, 0, rfl, LstB.nil _ _ _⟩
  · refine ⟨some ⟨b, 0, none⟩, cap, rfl, us, hlen, fun _ => ⟨b, 0, rfl, (World.ownsRow.lt h.row b rfl).2, hF b (.inl rfl), fun j u hj => ?_⟩, key⟩
    have := World.ownsRow.cells h.row (g := b) rfl j u hj
    rwa [Addr.add_lit] at this
theorem records_calls (h : VauIn w base F g v s vs (ptrV v) rv us) (hm : vs.recs.length ≤ 1000000) (hx : ∀ x ∈ vs.recs, x.length ≤ 1048576) :
    Calls Try.prog 15 #[.pointer (some ⟨v, 0, none⟩)] w fun e w' => ∃ u us', e = .returned u ∧ Recs w' w.heap.size u vs.recs us' ∧ Below w.heap.size w w' := by
  have HS := hid (vvalid_calls h.hd)
  obtain ⟨A, c, hrv, hlst⟩ := h.recs.lst [] (fun _ _ hm => by cases hm)
  subst hrv
  have c5 : w.cell? ⟨v, 5, none⟩ = some (.slice A vs.recs.length c) := h.hd.cell 5 rfl
  have HC := hid (clones_calls A c vs.recs [] w hlst hm hx)
  clear h hlst hx
  go_enter Try.func15, Try.ntmps15
  go_wp2_with fail
  refine HS.out.mono ?_
  rintro _ _ ⟨rfl, rfl⟩
  go_wp2_with fail
  refine HC.out.mono ?_
  rintro _ w' ⟨u, us', rfl, hr, hb⟩
  have HR := hid hr; have HB := hid hb
  clear hr hb HC HS
  go_wp2_with fail
  go_ret
  exact ⟨u, us', rfl, HR.out, HB.out⟩
end
end Go.Proofs.Ytgldhmmfofnmiaa
/- Contract: Open. -/
namespace Go.Proofs.Ytgldhmmfofnmiaa
open Go.RowKit

/-- what Open leaves -/
def OpenPost (w : World) (base : Nat) (F : List Nat) (g : Nat) (R : DS × VS × Nat) (e : Ending) (w' : World) : Prop :=
  ∃ pv, e = .returned (.tuple #[pv, .int .i64 (R.2.2 : Int)]) ∧ DevAt w base F g R.1 w' ∧ (R.2.2 ≠ 0 → pv = .pointer none) ∧
    (R.2.2 = 0 → ∃ v rv us F', pv = .pointer (some ⟨v, 0, none⟩) ∧ w.heap.size ≤ v ∧ VauIn w' base F' g v R.1 R.2.1 (ptrV v) rv us ∧ Chg F w w' ∧ ∀ b ∈ F', b ∈ F ∨ w.heap.size ≤ b)
theorem VauIn.self_ {W : World} {base g v : Nat} {F : List Nat} {s : DS} {vs : VS} {slf rv : Value} {us : List Value} (h : VauIn W base F g v s vs slf rv us) : VauIn (W.setCell ⟨v, 0, none⟩ (ptrV v)) base F g v s vs (ptrV v) rv us where
  dev := h.dev.chg (chg_set (L := [v]) (List.mem_singleton.2 rfl) 0 _) (fun b hb hm => h.vf (by rw [← List.mem_singleton.1 hm]; exact hb))
  hd := h.hd.set_ 0 _
  recs := h.recs.chg (chg_set (L := [v]) (List.mem_singleton.2 rfl) 0 _) (fun b hb hm => (h.rf b hb).2 (List.mem_singleton.1 hm))
  hv := h.hv
  vf := h.vf
  rf := h.rf
section
variable (base g : Nat) (F : List Nat) (s : DS) (w : World)
theorem open_bad {w1 : World} {R : DS × VS × Nat} {E : Nat} {vs : VS} (h : DevB w base F g s) (hb : Below w.heap.size w w1) (hR : R = (s, vs, E)) (hE : E ≠ 0) : OpenPost w base F g R (.returned (.tuple #[.pointer none, .int .i64 (E : Int)])) w1 := by
  subst hR
  exact ⟨_, rfl, DevAt.start h hb, fun _ => rfl, fun hh => absurd hh hE⟩
set_option maxRecDepth 20000 in
set_option maxHeartbeats 1000000 in
theorem open_calls (h : DevB w base F g s) (hbase : base ≤ w.heap.size) (hfz : Fused s) (hlo : s.loose.length ≤ 400000) (hgen : (countR s).1 ≤ 2147483647) (hlen : ∀ a, (scanR s a).1.length ≤ 1000000) :
    Calls Try.prog 6 #[.pointer (some ⟨g, 0, none⟩)] w (OpenPost w base F g (openR s)) := by
  have hnb := h.ok.nb
  have HH := hid h
  have HC := hid (check_calls_v base g F s w h)
  clear h
  by_cases hck : checkV s = 0
  · have hn := check_ge hck
    have HN := hid (fun W (hW : Below w.heap.size w W) => counting_calls base g F s W (HH.out.keep hW) (by omega))
    rw [hck] at HC
    by_cases hct : (countR s).2 = 0
    · have HZ := hid (fun W (hW : Below w.heap.size w W) => dSize_calls base g F s W (HH.out.keep hW))
      have HA := hid (fun W => areaOf_calls s.n (countR s).1 W (by omega) hnb (by omega))
      have HSC := hid (fun W (hW : Below w.heap.size w W) => scan_calls base g F s W (areaV s.n (countR s).1) (HH.out.keep hW))
      rw [hct] at HN
      have HCT := hid hct; have HCK := hid hck
      obtain ⟨C, hC⟩ : ∃ C, (countR s).1 = C := ⟨_, rfl⟩
      rw [hC] at HN HA HSC hgen
      have HCC := hid hC
      obtain ⟨NX, hNX⟩ : ∃ NX, areaV s.n C = NX := ⟨_, rfl⟩
      rw [hNX] at HA HSC
      have HNX := hid hNX
      obtain ⟨x0, x1, x2⟩ := NX
      unfold arv at HA HSC
      dsimp only at HA HSC
      clear hct hck hC hNX
      go_enter Try.func6, Try.ntmps6
      go_wp2_with fail
      refine HC.out.mono ?_
      rintro _ w1 ⟨rfl, hb1⟩
      have HB1 := hid hb1
      clear hb1 HC
      rw [show ((0 : Nat) : Int) = 0 from rfl]
      go_wp2_with fail
      refine (HN.out w1 HB1.out).mono ?_
      rintro _ w2 ⟨rfl, hb2⟩
      have HB2 := hid (HB1.out.trans (hb2.mono HB1.out.size))
      clear hb2 HN
      rw [show ((0 : Nat) : Int) = 0 from rfl]
      go_wp2_with fail
      refine (HZ.out w2 HB2.out).mono ?_
      rintro _ _ ⟨rfl, rfl⟩
      go_wp2_with fail
      refine (HA.out w2).mono ?_
      rintro _ w3 ⟨rfl, hb3⟩
      have HB3 := hid (HB2.out.trans (hb3.mono HB2.out.size))
      clear hb3 HA HZ
      go_wp2_with fail
      have kv := Blk.new w3 42 (vcells (.pointer none) g ⟨x0, x1, x2⟩ (.slice none 0 0) 0 false)
      have b4 := below_new w3 (.cells (vcells (.pointer none) g ⟨x0, x1, x2⟩ (.slice none 0 0) 0 false) 42)
      unfold vcells at kv b4
      dsimp only at kv b4
      have hv3 : w.heap.size ≤ w3.heap.size := HB3.out.size
      generalize w3.alloc (.cells #[.pointer none, .pointer (some ⟨g, 0, none⟩), .int .i64 x0, .int .i64 x1, .int .i64 x2, .slice none 0 0, .int .i64 0, .bool false] 42) = w4 at kv b4 ⊢
      have HB4 := hid (HB3.out.trans (b4.mono HB3.out.size))
      clear b4
      generalize w3.heap.size = v at kv hv3 ⊢
      have hv4 : v < w4.heap.size := kv.lt
      refine (HSC.out w4 HB4.out).mono ?_
      rintro _ w5 ⟨rv, us, rfl, hr, hb5⟩
      have hFl : ∀ x ∈ F, x < w.heap.size := fun x hx => (HH.out.lt x hx).2
      have hvF : v ∉ F := fun hm => by have := hFl v hm; omega
      have h45 := hb5.size
      obtain ⟨A, c, hrv, hlst⟩ := hr.lst (v :: F) (fun b hb hm => by
        have := (hr.lt b hb).1
        rcases List.mem_cons.1 hm with rfl | hm
        · omega
        · have := hFl b hm; omega)
      subst hrv
      have HB5 := hid (HB4.out.trans (hb5.mono HB4.out.size)); have KV5 := hid (kv.keep hb5); have HL := hid hlst
      have hlm := hlen ⟨x0, x1, x2⟩
      clear hr hb5 kv hlst HSC
      by_cases hsc : scanE s ⟨x0, x1, x2⟩ = 0
      · have HM := hid (move_calls base g v F s ⟨C, [], 0, false⟩ (.pointer none) (.slice none 0 0) [] w5 A c (scanR s ⟨x0, x1, x2⟩).1 ⟨HH.out.keep HB5.out, by rw [HNX.out]; exact KV5.out, ⟨World.ownsRow_nil _ _ _ _, fun k x u h => by simp at h, fun u hu => by cases hu⟩, by omega, hvF, fun b hb => by
          rcases hb with hb | ⟨u, hu, -⟩
          · simp [Value.ownBlock] at hb
          · cases hu⟩ (by have := HB5.out.size; omega) HL.out hlm hfz hlo hn hgen)
        have HR := hid (show openR s = moveR s ⟨C, [], 0, false⟩ (scanR s ⟨x0, x1, x2⟩).1 from by
          unfold openR
          rw [if_pos HCK.out, if_pos HCT.out, HCC.out, HNX.out, if_pos hsc])
        generalize moveR s ⟨C, [], 0, false⟩ (scanR s ⟨x0, x1, x2⟩).1 = R at HM HR
        rw [hsc]
        rw [show ((0 : Nat) : Int) = 0 from rfl]
        clear hsc
        generalize (scanR s ⟨x0, x1, x2⟩).2 = T2
        generalize (scanR s ⟨x0, x1, x2⟩).1.length = T1 at HM hlm ⊢
        obtain ⟨s6, vs6, E⟩ := R
        dsimp only at HM
        go_wp2_with fail
        refine HM.out.mono ?_
        rintro _ w6 ⟨rfl, F', rv', us', hv6, hc6, h36⟩
        have h56 := hc6.size
        have h05 := HB5.out.size
        have hcw : Chg F w w6 := (Chg.of_below (L := F) HB5.out).trans hc6 (fun b hb => by
          rcases List.mem_cons.1 hb with rfl | hb
          · exact .inr hv3
          · exact .inl hb)
        have h3w : ∀ b ∈ F', b ∈ F ∨ w.heap.size ≤ b := fun b hb => (h36 b hb).imp id (fun hh => by omega)
        by_cases her : E = 0
        · subst her
          have c0 := hv6.hd.cell 0 rfl
          have f0 := hv6.hd.frozen 0
          have HV6 := hid hv6; have HCW := hid hcw; have H3W := hid h3w
          clear hv6 hcw h3w hc6 h36 HM
          rw [show ((0 : Nat) : Int) = 0 from rfl]
          go_wp2_with fail
          go_ret2
          rw [HR.out]
          have hs := HV6.out.self_
          have hcs : Chg F w (w6.setCell ⟨v, 0, none⟩ (ptrV v)) := HCW.out.trans (chg_set (L := [v]) (List.mem_singleton.2 rfl) 0 _) (fun b hb => .inr (by rw [List.mem_singleton.1 hb]; exact hv3))
          exact ⟨_, rfl, ⟨F', hs.dev, hcs, H3W.out⟩, fun hh => absurd rfl hh, fun _ => ⟨v, rv', us', F', rfl, hv3, hs, hcs, H3W.out⟩⟩
        · have her' : ¬ (E : Int) = 0 := by omega
          have HV6 := hid hv6; have HCW := hid hcw; have H3W := hid h3w
          clear hv6 hcw h3w hc6 h36 HM
          go_wp2_with fail
          go_ret2
          rw [HR.out]
          exact ⟨_, rfl, ⟨F', HV6.out.dev, HCW.out, H3W.out⟩, fun _ => rfl, fun hh => absurd hh her⟩
      · have HR := hid (show openR s = (s, ⟨0, [], 0, false⟩, scanE s ⟨x0, x1, x2⟩) from by
          unfold openR
          rw [if_pos HCK.out, if_pos HCT.out, HCC.out, HNX.out, if_neg hsc])
        generalize scanE s ⟨x0, x1, x2⟩ = E at HR hsc ⊢
        have hsc' : ¬ (E : Int) = 0 := by omega
        generalize (scanR s ⟨x0, x1, x2⟩).2 = T2
        generalize (scanR s ⟨x0, x1, x2⟩).1.length = T1
        go_wp2_with fail
        go_ret2
        exact open_bad base g F s w HH.out HB5.out HR.out hsc
    · have HR := hid (show openR s = (s, ⟨0, [], 0, false⟩, (countR s).2) from by
        unfold openR
        rw [if_pos hck, if_neg hct])
      have hct' : ¬ (((countR s).2 : Nat) : Int) = 0 := by omega
      obtain ⟨E, hE⟩ : ∃ E, (countR s).2 = E := ⟨_, rfl⟩
      rw [hE] at HN HR hct hct'
      clear hE
      go_enter Try.func6, Try.ntmps6
      go_wp2_with fail
      refine HC.out.mono ?_
      rintro _ w1 ⟨rfl, hb1⟩
      have HB1 := hid hb1
      clear hb1 HC
      rw [show ((0 : Nat) : Int) = 0 from rfl]
      go_wp2_with fail
      refine (HN.out w1 HB1.out).mono ?_
      rintro _ w2 ⟨rfl, hb2⟩
      have HB2 := hid (HB1.out.trans (hb2.mono HB1.out.size))
      clear hb2
      go_wp2_with fail
      go_ret2
      exact open_bad base g F s w HH.out HB2.out HR.out hct
  · have HR := hid (show openR s = (s, ⟨0, [], 0, false⟩, checkV s) from if_neg hck)
    have hck' : ¬ ((checkV s : Nat) : Int) = 0 := by omega
    generalize checkV s = E at HC HR hck' hck
    go_enter Try.func6, Try.ntmps6
    go_wp2_with fail
    refine HC.out.mono ?_
    rintro _ w1 ⟨rfl, hb1⟩
    have HB1 := hid hb1
    clear hb1 HC
    go_wp2_with fail
    go_ret2
    exact open_bad base g F s w HH.out HB1.out HR.out hck
end
end Go.Proofs.Ytgldhmmfofnmiaa
/- Contract: the steps of Append, done. -/
namespace Go.Proofs.Ytgldhmmfofnmiaa
open Go.RowKit

theorem ap_costs (a : AR) (rec : List UInt8) : ∀ (k : Nat) f c, (appendSteps a rec)[k]? = some f → ([needN rec.length, 0] : List Nat)[k]? = some c → Costs (fun p : DS × Int => p.1) f c := by
  intro k f c hf hc
  match k with
  | 0 => cases hf; cases hc; exact fun p hp => lwrite_costs _ _ _ hp
  | 1 => cases hf; cases hc; exact onDev_costs fun s hs => flush_costs hs
  | k + 2 => simp [appendSteps] at hf
section
variable (base g v q b k0 : Nat) (F : List Nat) (s : DS) (w0 : World)
set_option maxHeartbeats 1000000 in
theorem ap_do (a : AR) (fin : Int) (c c' : Nat) (A' : Option Addr) (rec : List UInt8) (h : DevB w0 base F g s) (hbase : base ≤ w0.heap.size) (hfz : Fused s) (hlo : s.loose.length ≤ 400000) (hlen : rec.length ≤ 1048576)
    (hv : w0.cell? ⟨v, 1, none⟩ = some (.pointer (some ⟨g, 0, none⟩))) (hvl : v < w0.heap.size) (hvf : v ∉ q :: F) (he : Blk w0 q 3 #[.int .i64 fin]) (hqF : q ∉ F) (hE : WEnv w0 b v q (.slice A' rec.length c') a) (hqb : q < b) (hFb : ∀ x ∈ F, x < b)
    (hsb : SB w0 w0.heap.size A' rec.length rec) (hle : rec.length ≤ c') (hne : ∀ b' off, 0 < rec.length → A' = some ⟨b', off, none⟩ → b' ∉ q :: F) (h0 : w0.cell? ⟨k0, 0, none⟩ = some (fnV (wrFn b))) (h1 : w0.cell? ⟨k0, 1, none⟩ = some (fnV (flushFn g))) (hk0 : k0 ∉ q :: F) :
    Calls Try.prog 40 #[.slice (some ⟨k0, 0, none⟩) 2 c] w0 fun e w' => e = .returned (.int .i64 ((chainR (appendSteps a rec) (s, fin)).2 : Int)) ∧ VtAt w0 base F g q (chainR (appendSteps a rec) (s, fin)).1 w' := by
  have hqlt := he.lt
  have hnd := needN_le hlen
  refine do_calls (fun p' W => VtAt w0 base F g q p' W) (appendSteps a rec) [wrFn b, flushFn g] k0 c 2 (s, fin) w0 rfl rfl (by omega) ⟨F, h, Chg.refl _ _, fun _ h => .inl h, he⟩ (fun s' W hI k f hf => ?_) (fun k f fv p' hf hfv hq => ?_)
  · obtain ⟨F', k1, k2, k3, k4⟩ := hI
    match k with
    | 0 => cases hf; exact cell_chg h0 k2 hk0
    | 1 => cases hf; exact cell_chg h1 k2 hk0
    | k + 2 => simp at hf
  · obtain ⟨p1, p2, p3⟩ := chain_part (fun p : DS × Int => p.1) (appendSteps a rec) [needN rec.length, 0] rfl (ap_costs a rec) (s, fin) p' k hfz hq
    obtain ⟨s', at_⟩ := p'
    dsimp only at p1 p2 p3
    have hsum : ([needN rec.length, 0] : List Nat).sum = needN rec.length := by simp
    rw [hsum] at p3
    have hfo : fuseOK s' := ⟨p1, by omega⟩
    have key : ∀ W, VtAt w0 base F g q (s', at_) W → ∃ F', DevB W base F' g s' ∧ Chg (q :: F) w0 W ∧ (∀ b ∈ F', b ∈ F ∨ w0.heap.size ≤ b) ∧ Blk W q 3 #[.int .i64 at_] ∧ (∀ x, x < w0.heap.size → x ∉ q :: F → x ∉ F') ∧ q ∉ F' ∧ base ≤ W.heap.size := fun W hI => by
      obtain ⟨F', k1, k2, k3, k4⟩ := hI
      exact ⟨F', k1, k2, k3, k4, fun x hx hn hm => (k3 x hm).elim (fun hh => hn (List.mem_cons_of_mem _ hh)) (fun hh => by omega), fun hm => (k3 q hm).elim hqF (fun hh => by omega), Nat.le_trans hbase k2.size⟩
    match k with
    | 0 =>
      cases hf; cases hfv
      refine ⟨enters_of Try.func62 (by kernel_rfl) rfl, fun W hI => ?_⟩
      obtain ⟨F', k1, k2, k3, k4, k5, k6, k7⟩ := key W hI
      have hbl : b + 4 ≤ w0.heap.size := hE.pe.lt
      have hWb := k2.size
      have hsW : SB W W.heap.size A' rec.length rec := (hsb.chg_pos k2 (fun hp0 b' off e _ => hne b' off hp0 e)).grow hWb
      refine (wr1_calls base g F' s' W b v q rec.length c' at_ A' rec a k1 k7 hfo (by omega) (cell_chg hv k2 hvf) (k5 _ hvl hvf) (fun e => hvf (by rw [e]; exact List.mem_cons_self)) (hE.chg k2 (fun y hy => by
        rcases List.mem_cons.1 hy with rfl | hy
        · omega
        · have := hFb y hy; omega)) (fun y hy => by
        rcases List.mem_cons.1 hy with rfl | hy
        · omega
        · rcases k3 y hy with hy | hy
          · have := hFb y hy; omega
          · omega) k4 k6 hsW hle (fun b' off hp0 e hm => by
        obtain ⟨b2, off2, e2', hlt2, -⟩ := hsb.2 hp0
        rw [e] at e2'
        cases e2'
        rcases k3 b' hm with hm | hm
        · exact hne b' off hp0 e (List.mem_cons_of_mem _ hm)
        · omega)).mono fun e w' ⟨hh, hq'⟩ => ⟨hh, ?_⟩
      obtain ⟨F'', q1, q2, q3, q4⟩ := hq'
      exact ⟨F'', q1, k2.trans q2 (fun y hy => by
        rcases List.mem_cons.1 hy with rfl | hy
        · exact .inl List.mem_cons_self
        · exact (k3 y hy).imp (fun h => List.mem_cons_of_mem _ h) id), fun y hy => (q3 y hy).elim (k3 y) (fun hh => .inr (Nat.le_trans hWb hh)), q4⟩
    | 1 =>
      cases hf; cases hfv
      refine ⟨enters_of Try.func31 (by kernel_rfl) rfl, fun W hI => ?_⟩
      obtain ⟨F', k1, k2, k3, k4, k5, k6, k7⟩ := key W hI
      exact (dFlush_calls base g F' s' W k1 hfo.1 hfo.2).mono fun e w' hq' => ⟨(DevAt.of_post hq').1, VtAt.of_dev (p := (s', at_)) k2 k3 k4 k6 (DevAt.of_post hq').2⟩
    | k + 2 => simp [appendSteps] at hf
end
end Go.Proofs.Ytgldhmmfofnmiaa
/- Contract: Append. -/
namespace Go.Proofs.Ytgldhmmfofnmiaa
open Go.RowKit

theorem VtAt.from_ {w0 w W : World} {base g e : Nat} {F : List Nat} {p : DS × Int} (hb : Below w0.heap.size w0 w) (h : VtAt w base F g e p W) : VtAt w0 base F g e p W := by
  obtain ⟨F', k1, k2, k3, k4⟩ := h
  exact ⟨F', k1, (Chg.of_below (L := e :: F) hb).trans k2 (fun b hb => .inl hb), fun b hb' => (k3 b hb').imp id (fun hh => Nat.le_trans hb.size hh), k4⟩
def a9Val (v g er : Nat) (sl ar fl : Value) : Nat → Value → Value
  | 0, _ => .pointer (some ⟨v, 0, none⟩)
  | 1, _ => .pointer (some ⟨v, 0, none⟩)
  | 2, _ => sl
  | 3, _ => .pointer (some ⟨v, 0, none⟩)
  | 4, _ => .pointer (some ⟨v, 0, none⟩)
  | 5, _ => .pointer (some ⟨v, 2, none⟩)
  | 6, _ => ar
  | 7, x => x
  | 8, _ => .pointer (some ⟨v, 0, none⟩)
  | 9, _ => .pointer (some ⟨v, 0, none⟩)
  | 10, _ => .pointer (some ⟨v, 1, none⟩)
  | 11, _ => .pointer (some ⟨g, 0, none⟩)
  | 12, _ => fl
  | 13, x => x
  | 14, _ => .int .i64 (er : Int)
  | 15, _ => .int .i64 (er : Int)
  | _, _ => undef
structure A9 (W0 : World) (v q : Nat) (sl fl : Value) (a : AR) (Post : World → Prop) (f : Nat → Bool) (gh : Nat → Value) (W : World) : Prop where
  pre : f 14 = false → Below W0.heap.size W0 W
  wr : f 7 = true → f 14 = false → ∃ b, gh 7 = fnV (wrFn b) ∧ WEnv W b v q sl a ∧ W0.heap.size ≤ b
  row : f 13 = true → f 14 = false → ∃ k, gh 13 = .slice (some ⟨k, 0, none⟩) 2 2 ∧ Blk W k 66 #[gh 7, fl] ∧ W0.heap.size ≤ k
  post : f 14 = true → Post W
section
variable {W0 W W' : World} {v q : Nat} {sl fl : Value} {a : AR} {Post : World → Prop} {f : Nat → Bool} {gh : Nat → Value}
theorem A9.step (h : A9 W0 v q sl fl a Post f gh W) (i : Nat) (k : Value) (h1 : i ≠ 7) (h2 : i ≠ 13) (h3 : i ≠ 14) : A9 W0 v q sl fl a Post (upd f i) (updN gh i k) W := by
  have e : ∀ j, j ≠ i → upd f i j = f j := fun j hj => by unfold upd; simp [hj]
  have e' : ∀ j, j ≠ i → updN gh i k j = gh j := fun j hj => by unfold updN; rw [if_neg hj]
  refine ⟨?_, ?_, ?_, ?_⟩
  · rw [e 14 (Ne.symm h3)]; exact h.pre
  · rw [e 14 (Ne.symm h3), e 7 (Ne.symm h1), e' 7 (Ne.symm h1)]; exact h.wr
  · rw [e 14 (Ne.symm h3), e 13 (Ne.symm h2), e' 13 (Ne.symm h2), e' 7 (Ne.symm h1)]; exact h.row
  · rw [e 14 (Ne.symm h3)]; exact h.post
theorem A9.writ (h : A9 W0 v q sl fl a Post f gh W) (h13 : f 13 = false) (h14 : f 14 = false) (hb : Below W.heap.size W W') (hE : WEnv W' W.heap.size v q sl a) : A9 W0 v q sl fl a Post (upd f 7) (updN gh 7 (fnV (wrFn W.heap.size))) W' :=
  ⟨fun _ => (h.pre h14).trans (hb.mono (h.pre h14).size), fun _ _ => ⟨_, rfl, hE, (h.pre h14).size⟩, fun hh => absurd (show f 13 = true from hh) (by rw [h13]; simp), fun hh => absurd (show f 14 = true from hh) (by rw [h14]; simp)⟩
theorem A9.build (h : A9 W0 v q sl fl a Post f gh W) (h7 : f 7 = true) (h14 : f 14 = false) {x : Value} (hx : gh 7 = x) : A9 W0 v q sl fl a Post (upd f 13) (updN gh 13 (.slice (some ⟨W.heap.size, 0, none⟩) 2 2)) (W.alloc (.cells #[x, fl] 66)) := by
  have hb := below_new W (.cells #[x, fl] 66)
  obtain ⟨b, e, hE, hle⟩ := h.wr h7 h14
  subst hx
  exact ⟨fun _ => (h.pre h14).trans (hb.mono (h.pre h14).size), fun _ _ => ⟨b, e, hE.keep hb, hle⟩, fun _ _ => ⟨_, rfl, Blk.new _ _ _, (h.pre h14).size⟩, fun hh => absurd (show f 14 = true from hh) (by rw [h14]; simp)⟩
theorem A9.done (_h : A9 W0 v q sl fl a Post f gh W) (hp : Post W') : A9 W0 v q sl fl a Post (upd f 14) (updN gh 14 undef) W' :=
  ⟨fun hh => (by cases hh), fun _ hh => (by cases hh), fun _ hh => (by cases hh), fun _ => hp⟩
end
/-- records behind an append: the blocks are those that were there, or new -/
def P8 (w5 : World) (base : Nat) (L : List Nat) (rv : Value) (us : List Value) (recs : List (List UInt8)) (rec : List UInt8) (x : Value) (W : World) : Prop :=
  Chg L w5 W ∧ ∃ us', Recs W base x (recs ++ [rec]) us' ∧ ∀ b, (x.ownBlock = some b ∨ ∃ u ∈ us', u.ownBlock = some b) → (rv.ownBlock = some b ∨ ∃ u ∈ us, u.ownBlock = some b) ∨ w5.heap.size ≤ b
def c12Val (v : Nat) (sl rv : Value) : Nat → Value → Value
  | 0, _ => .pointer (some ⟨v, 0, none⟩)
  | 1, _ => .pointer (some ⟨v, 0, none⟩)
  | 2, _ => .pointer (some ⟨v, 0, none⟩)
  | 3, _ => .pointer (some ⟨v, 5, none⟩)
  | 4, _ => rv
  | 5, _ => sl
  | 9, _ => .pointer (some ⟨v, 0, none⟩)
  | 10, _ => .pointer (some ⟨v, 5, none⟩)
  | 11, _ => undef
  | _, x => x
structure C12 (w5 : World) (v : Nat) (Q8 : Value → World → Prop) (rec : List UInt8) (f : Nat → Bool) (gh : Nat → Value) (W : World) : Prop where
  pre : f 8 = false → Below w5.heap.size w5 W
  cl : f 6 = true → f 8 = false → Own W w5.heap.size 5 (gh 6) rec.length rec
  row : f 7 = true → f 8 = false → ∃ k, gh 7 = .slice (some ⟨k, 0, none⟩) 1 1 ∧ Blk W k 38 #[gh 6]
  app : f 8 = true → f 11 = false → Q8 (gh 8) W
  fin : f 11 = true → ∃ W', Q8 (gh 8) W' ∧ W = W'.setCell ⟨v, 5, none⟩ (gh 8)
section
variable {w5 W W' : World} {v : Nat} {Q8 : Value → World → Prop} {rec : List UInt8} {f : Nat → Bool} {gh : Nat → Value}
theorem C12.step (h : C12 w5 v Q8 rec f gh W) (i : Nat) (k : Value) (h1 : i ≠ 6) (h2 : i ≠ 7) (h3 : i ≠ 8) (h4 : i ≠ 11) : C12 w5 v Q8 rec (upd f i) (updN gh i k) W := by
  have e : ∀ j, j ≠ i → upd f i j = f j := fun j hj => by unfold upd; simp [hj]
  have e' : ∀ j, j ≠ i → updN gh i k j = gh j := fun j hj => by unfold updN; rw [if_neg hj]
  refine ⟨?_, ?_, ?_, ?_, ?_⟩
  · rw [e 8 (Ne.symm h3)]; exact h.pre
  · rw [e 8 (Ne.symm h3), e 6 (Ne.symm h1), e' 6 (Ne.symm h1)]; exact h.cl
  · rw [e 8 (Ne.symm h3), e 7 (Ne.symm h2), e' 7 (Ne.symm h2), e' 6 (Ne.symm h1)]; exact h.row
  · rw [e 8 (Ne.symm h3), e 11 (Ne.symm h4), e' 8 (Ne.symm h3)]; exact h.app
  · rw [e 11 (Ne.symm h4), e' 8 (Ne.symm h3)]; exact h.fin
theorem C12.cln (h : C12 w5 v Q8 rec f gh W) (h7 : f 7 = false) (h8 : f 8 = false) (h11 : f 11 = false) {x : Value} (hb : Below W.heap.size W W') (ho : Own W' W.heap.size 5 x rec.length rec) : C12 w5 v Q8 rec (upd f 6) (updN gh 6 x) W' :=
  ⟨fun _ => (h.pre h8).trans (hb.mono (h.pre h8).size), fun _ _ => ho.lower (h.pre h8).size, fun hh => absurd (show f 7 = true from hh) (by rw [h7]; simp), fun hh => absurd (show f 8 = true from hh) (by rw [h8]; simp), fun hh => absurd (show f 11 = true from hh) (by rw [h11]; simp)⟩
theorem C12.bld (h : C12 w5 v Q8 rec f gh W) (h6 : f 6 = true) (h8 : f 8 = false) (h11 : f 11 = false) {x : Value} (hx : gh 6 = x) : C12 w5 v Q8 rec (upd f 7) (updN gh 7 (.slice (some ⟨W.heap.size, 0, none⟩) 1 1)) (W.alloc (.cells #[x] 38)) := by
  have hb := below_new W (.cells #[x] 38)
  subst hx
  exact ⟨fun _ => (h.pre h8).trans (hb.mono (h.pre h8).size), fun _ _ => (h.cl h6 h8).keep hb, fun _ _ => ⟨_, rfl, Blk.new _ _ _⟩, fun hh => absurd (show f 8 = true from hh) (by rw [h8]; simp), fun hh => absurd (show f 11 = true from hh) (by rw [h11]; simp)⟩
theorem C12.ap (_h : C12 w5 v Q8 rec f gh W) (h11 : f 11 = false) {x : Value} (hq : Q8 x W') : C12 w5 v Q8 rec (upd f 8) (updN gh 8 x) W' :=
  ⟨fun hh => (by cases hh), fun _ hh => (by cases hh), fun _ hh => (by cases hh), fun _ _ => hq, fun hh => absurd (show f 11 = true from hh) (by rw [h11]; simp)⟩
theorem C12.st (h : C12 w5 v Q8 rec f gh W) (h8 : f 8 = true) (h11 : f 11 = false) : C12 w5 v Q8 rec (upd f 11) (updN gh 11 undef) (W.setCell ⟨v, 5, none⟩ (gh 8)) :=
  ⟨fun hh => absurd (show f 8 = false from hh) (by rw [h8]; simp), fun _ hh => absurd (show f 8 = false from hh) (by rw [h8]; simp), fun _ hh => absurd (show f 8 = false from hh) (by rw [h8]; simp), fun _ hh => (by cases hh), fun _ => ⟨W, h.app h8 h11, rfl⟩⟩
end
section
variable (base g v : Nat) (F : List Nat) (s : DS) (vs : VS) (rv : Value) (us : List Value) (w : World)
theorem app_bad {w1 : World} {R : DS × VS × Nat} {E : Nat} {L : List Nat} (h : VauIn w base F g v s vs (ptrV v) rv us) (hb : Below w.heap.size w w1) (hR : R = (s, vs, E)) :
    Ending.returned (.int .i64 (E : Int)) = Ending.returned (.int .i64 (R.2.2 : Int)) ∧ ∃ F' rv' us', VauIn w1 base F' g v R.1 R.2.1 (ptrV v) rv' us' ∧ Chg L w w1 ∧ (∀ b ∈ F', b ∈ F ∨ w.heap.size ≤ b) := by
  subst hR
  exact ⟨rfl, F, rv, us, VauIn.after h (Chg.of_below hb) (h.dev.keep hb) (fun _ h => .inl h) rfl, Chg.of_below hb, fun _ h => .inl h⟩
set_option maxRecDepth 20000 in
set_option maxHeartbeats 1000000 in
theorem append_calls (A : Option Addr) (c : Nat) (rec : List UInt8) (h : VauIn w base F g v s vs (ptrV v) rv us) (hbase : base ≤ w.heap.size) (hs : SB w w.heap.size A rec.length rec) (hle : rec.length ≤ c) (hne : ∀ b off, 0 < rec.length → A = some ⟨b, off, none⟩ → b ∉ v :: F)
    (hfz : Fused s) (hlo : s.loose.length ≤ 400000) (hrl : vs.recs.length ≤ 1000000) (hfin : 0 ≤ vs.fin ∧ vs.fin ≤ 65536) (hlen : rec.length ≤ 9223372036854775807) :
    Calls Try.prog 10 #[.pointer (some ⟨v, 0, none⟩), .slice A rec.length c] w fun e w' => e = .returned (.int .i64 ((appendR s vs rec).2.2 : Int)) ∧ ∃ F' rv' us', VauIn w' base F' g v (appendR s vs rec).1 (appendR s vs rec).2.1 (ptrV v) rv' us' ∧ Chg (v :: (rv.ownBlock.toList ++ F)) w w' ∧ (∀ b ∈ F', b ∈ F ∨ w.heap.size ≤ b) := by
  have HS := hid (vstate_calls h.hd)
  have hnb := h.dev.ok.nb
  have hhf := half_le hnb
  have HV := hid h; have HSB := hid hs; have HNE := hid hne
  by_cases hb : vs.broken = true
  · have HR := hid (show appendR s vs rec = (s, vs, 23) from if_pos hb)
    rw [hb, if_pos rfl] at HS
    clear h hs hne hb
    go_enter Try.func10, Try.ntmps10
    go_wp2_with fail
    refine HS.out.mono ?_
    rintro _ _ ⟨rfl, rfl⟩
    go_wp2_with fail
    go_ret
    exact app_bad base g v F s vs rv us w HV.out (Below.refl _ _) HR.out
  · rw [if_neg hb] at HS
    by_cases hl : 1048576 < rec.length
    · have HR := hid (show appendR s vs rec = (s, vs, 4) from by unfold appendR; rw [if_neg hb, if_pos hl])
      have hl' : (1048576 : Int) < (rec.length : Int) := by omega
      clear h hs hne hb
      go_enter Try.func10, Try.ntmps10
      go_wp2_with fail
      refine HS.out.mono ?_
      rintro _ _ ⟨rfl, rfl⟩
      go_wp2_with fail
      go_ret
      exact app_bad base g v F s vs rv us w HV.out (Below.refl _ _) HR.out
    · have hl' : ¬ (1048576 : Int) < (rec.length : Int) := by omega
      have HND := hid (need_calls (rec.length : Int))
      rw [vneedE (by omega)] at HND
      have hfr : (areaV s.n vs.gen).b - (areaV s.n vs.gen).a - vs.fin = freeV s.n vs := by unfold areaV freeV; dsimp only; omega
      have hfa : (areaV s.n vs.gen).b - (areaV s.n vs.gen).a = (halfN s.n : Int) := by unfold areaV; dsimp only; omega
      have HF := hid (vfree_calls h.hd (by rw [hfa]; exact IntWalk.i64_in _ (by omega)) (by rw [hfr]; unfold freeV; exact IntWalk.i64_in _ (by omega)))
      rw [hfr] at HF
      by_cases hfu : freeV s.n vs < (needN rec.length : Int)
      · have HR := hid (show appendR s vs rec = (s, vs, 10) from by unfold appendR; rw [if_neg hb, if_neg hl, if_pos hfu])
        generalize freeV s.n vs = FV at HF hfu hfr
        generalize needN rec.length = ND at HND hfu
        clear h hs hne hb hfr hfa
        go_enter Try.func10, Try.ntmps10
        go_wp2_with fail
        refine HS.out.mono ?_
        rintro _ _ ⟨rfl, rfl⟩
        go_wp2_with fail
        refine (HND.out _).mono ?_
        rintro _ _ ⟨rfl, rfl⟩
        go_wp2_with fail
        refine HF.out.mono ?_
        rintro _ w1 ⟨rfl, hb1⟩
        have HB1 := hid hb1
        clear hb1 HF
        go_wp2_with fail
        go_ret
        exact app_bad base g v F s vs rv us w HV.out HB1.out HR.out
      · have HR := hid (show appendR s vs rec = if (chainR (appendSteps (areaV s.n vs.gen) rec) (s, vs.fin)).2 = 0 then ((chainR (appendSteps (areaV s.n vs.gen) rec) (s, vs.fin)).1.1, { vs with recs := vs.recs ++ [rec], fin := (chainR (appendSteps (areaV s.n vs.gen) rec) (s, vs.fin)).1.2, broken := false }, 0)
            else ((chainR (appendSteps (areaV s.n vs.gen) rec) (s, vs.fin)).1.1, { vs with broken := true }, (chainR (appendSteps (areaV s.n vs.gen) rec) (s, vs.fin)).2) from by unfold appendR; rw [if_neg hb, if_neg hl, if_neg hfu])
        generalize freeV s.n vs = FV at HF hfu hfr
        generalize needN rec.length = ND at HND hfu
        have HBR := hid hb
        clear h hs hne hb hfr hfa
        go_enter Try.func10, Try.ntmps10
        go_wp2_with fail
        refine HS.out.mono ?_
        rintro _ _ ⟨rfl, rfl⟩
        go_wp2_with fail
        refine (HND.out _).mono ?_
        rintro _ _ ⟨rfl, rfl⟩
        go_wp2_with fail
        refine HF.out.mono ?_
        rintro _ w1 ⟨rfl, hb1⟩
        have HB1 := hid hb1
        have c6 : w1.cell? ⟨v, 6, none⟩ = some (.int .i64 vs.fin) := (HV.out.hd.keep hb1).cell 6 rfl
        clear hb1 HF
        go_wp2_with fail
        have hvl := HV.out.hd.lt
        have hFl : ∀ x ∈ F, x < w.heap.size := fun x hx => (HV.out.dev.lt x hx).2
        have h01 := HB1.out.size
        have kq := Blk.new w1 3 #[.int .i64 vs.fin]
        have bq := below_new w1 (.cells #[.int .i64 vs.fin] 3)
        generalize w1.alloc (.cells #[.int .i64 vs.fin] 3) = W0 at kq bq ⊢
        have HB0 := hid (HB1.out.trans (bq.mono h01))
        clear bq
        generalize w1.heap.size = q at kq h01 ⊢
        have hq0 := kq.lt
        have HKQ := hid kq
        clear kq
        obtain ⟨R, hRq⟩ : ∃ R, chainR (appendSteps (areaV s.n vs.gen) rec) (s, vs.fin) = R := ⟨_, rfl⟩
        rw [hRq] at HR
        have HRQ := hid hRq
        clear hRq
        obtain ⟨P, er⟩ := R
        obtain ⟨⟨x0, x1, x2⟩, hNX⟩ : ∃ NX, areaV s.n vs.gen = NX := ⟨_, rfl⟩
        have HNX := hid hNX
        have HCV := hid (fun W (hb : Below W0.heap.size W0 W) => (⟨(HV.out.hd.keep (HB0.out.trans (hb.mono HB0.out.size))).cell 1 rfl, by have := (HV.out.hd.keep (HB0.out.trans (hb.mono HB0.out.size))).cell 2 rfl; rw [hNX] at this; exact this, by have := (HV.out.hd.keep (HB0.out.trans (hb.mono HB0.out.size))).cell 3 rfl; rw [hNX] at this; exact this, by have := (HV.out.hd.keep (HB0.out.trans (hb.mono HB0.out.size))).cell 4 rfl; rw [hNX] at this; exact this⟩ :
          W.cell? ⟨v, 1, none⟩ = some (.pointer (some ⟨g, 0, none⟩)) ∧ W.cell? ⟨v, 2, none⟩ = some (.int .i64 x0) ∧ W.cell? ⟨v, 3, none⟩ = some (.int .i64 x1) ∧ W.cell? ⟨v, 4, none⟩ = some (.int .i64 x2)))
        have hqF : q ∉ F := fun hm => by have := hFl q hm; omega
        have hvF : v ∉ q :: F := fun hm => by
          rcases List.mem_cons.1 hm with e | hm
          · omega
          · exact HV.out.vf hm
        have HDO := hid (fun W b k (hb : Below W0.heap.size W0 W) (hE : WEnv W b v q (.slice A rec.length c) ⟨x0, x1, x2⟩) (hbl : W0.heap.size ≤ b) (kb : Blk W k 66 #[fnV (wrFn b), Value.func (Fn.func 31) #[.pointer (some ⟨g, 0, none⟩)] #[]]) (hkl : W0.heap.size ≤ k) => by
          have hbw := HB0.out.trans (hb.mono HB0.out.size)
          have hbs := hbw.size
          have hdo := ap_do base g v q b k F s W ⟨x0, x1, x2⟩ vs.fin 2 c A rec (HV.out.dev.keep hbw) (by omega) hfz hlo (by omega) (HCV.out W hb).1 (by omega) hvF (HKQ.out.keep hb) hqF hE (by omega) (fun x hx => by have := hFl x hx; have := HB0.out.size; omega)
            ((HSB.out.chg (Chg.of_below (L := []) hbw) (fun _ _ _ _ => by simp)).grow hbs) hle (fun b' off hp e hm => by
              rcases List.mem_cons.1 hm with rfl | hm
              · obtain ⟨b2, off2, e2, hlt2, -⟩ := HSB.out.2 hp
                rw [e] at e2
                cases e2
                omega
              · exact HNE.out b' off hp e (List.mem_cons_of_mem _ hm)) (kb.cell 0 rfl) (kb.cell 1 rfl) (fun hm => by
              rcases List.mem_cons.1 hm with rfl | hm
              · omega
              · have := hFl k hm; omega)
          rw [← HNX.out, HRQ.out] at hdo
          exact (vdo_calls (fun W2 => VtAt W base F g q P W2) er v k 2 2 W hdo (fun W2 hI => by
            obtain ⟨F2, k1, k2, k3, k4⟩ := hI
            exact ⟨_, (HV.out.hd.keep hbw).chg k2 hvF, by simp [vcells]⟩)).mono (R' := fun e w' => e = .returned (.int .i64 (er : Int)) ∧ ∃ W5, VtAt W0 base F g q P W5 ∧ w' = W5.setCell ⟨v, 7, none⟩ (.bool (errB er))) fun e w' hh => by
              obtain ⟨h1, W5, h2, h3⟩ := hh
              exact ⟨h1, W5, VtAt.from_ hb h2, h3⟩)
        clear c6 hNX
        refine wp_region_invB 61 undef (a9Val v g er (.slice A rec.length c) (.agg #[.int .i64 x0, .int .i64 x1, .int .i64 x2]) (Value.func (Fn.func 31) #[.pointer (some ⟨g, 0, none⟩)] #[]))
          (A9 W0 v q (.slice A rec.length c) (Value.func (Fn.func 31) #[.pointer (some ⟨g, 0, none⟩)] #[]) ⟨x0, x1, x2⟩ (fun w' => ∃ W5, VtAt W0 base F g q P W5 ∧ w' = W5.setCell ⟨v, 7, none⟩ (.bool (errB er)))) (by kernel_rfl) (by kernel_rfl) (by exact Nat.le_refl 61) ?_ ?_ ?_
        · exact ⟨fun _ => (Below.refl _ _).drew, fun h => (by cases h), fun h => (by cases h), fun h => (by cases h)⟩
        · intro i o f gh a W hi hf hdep hsame hcl hval hS
          have E0 : a.tmps[0]? = some (.pointer (some ⟨v, 0, none⟩)) := (same_of hsame 0 (by rfl)).trans rfl
          have E1 : a.tmps[1]? = some (.slice A rec.length c) := (same_of hsame 1 (by rfl)).trans rfl
          have E6 : a.tmps[6]? = some (.pointer (some ⟨q, 0, none⟩)) := (same_of hsame 6 (by rfl)).trans rfl
          rcases i with _ | _ | _ | _ | _ | _ | _ | _ | _ | _ | _ | _ | _ | _ | _ | _ | i
          all_goals simp only [List.getElem?_cons_succ, List.getElem?_cons_zero, List.getElem?_nil, Option.some.injEq, reduceCtorEq] at hi
          all_goals subst hi
          · refine does_value (w' := W) (v := .pointer (some ⟨v, 0, none⟩)) (by go_simp) ⟨undef, .inr rfl, hS.step _ undef (by decide) (by decide) (by decide)⟩
          · refine does_value (w' := W) (v := .pointer (some ⟨v, 0, none⟩)) (by go_simp) ⟨undef, .inr rfl, hS.step _ undef (by decide) (by decide) (by decide)⟩
          · refine does_value (w' := W) (v := .slice A rec.length c) (by go_simp) ⟨undef, .inr rfl, hS.step _ undef (by decide) (by decide) (by decide)⟩
          · refine does_value (w' := W) (v := .pointer (some ⟨v, 0, none⟩)) (by go_simp) ⟨undef, .inr rfl, hS.step _ undef (by decide) (by decide) (by decide)⟩
          · have E31 := hval 3 _ 31 rfl rfl (dep_of hdep 3 (by rfl))
            unfold a9Val at E31
            refine does_value (w' := W) (v := .pointer (some ⟨v, 0, none⟩)) (by go_simp) ⟨undef, .inr rfl, hS.step _ undef (by decide) (by decide) (by decide)⟩
          · have E32 := hval 4 _ 32 rfl rfl (dep_of hdep 4 (by rfl))
            unfold a9Val at E32
            refine does_value (w' := W) (v := .pointer (some ⟨v, 2, none⟩)) (by go_simp) ⟨undef, .inr rfl, hS.step _ undef (by decide) (by decide) (by decide)⟩
          · have h7 := not_yet hcl hf 7 (by rfl)
            have h13 := not_yet hcl h7 13 (by rfl)
            have h14 := not_yet hcl h13 14 (by rfl)
            have hpre := hS.pre h14
            obtain ⟨c1, c2, c3, c4⟩ := HCV.out W hpre
            have E33 := hval 5 _ 33 rfl rfl (dep_of hdep 5 (by rfl))
            unfold a9Val at E33
            refine does_value (w' := W) (v := .agg #[.int .i64 x0, .int .i64 x1, .int .i64 x2]) (by go_simp) ⟨undef, .inr rfl, hS.step _ undef (by decide) (by decide) (by decide)⟩
          · have h13 := not_yet hcl hf 13 (by rfl)
            have h14 := not_yet hcl h13 14 (by rfl)
            have E29 := hval 1 _ 29 rfl rfl (dep_of hdep 1 (by rfl))
            unfold a9Val at E29
            have E30 := hval 2 _ 30 rfl rfl (dep_of hdep 2 (by rfl))
            unfold a9Val at E30
            have E34 := hval 6 _ 34 rfl rfl (dep_of hdep 6 (by rfl))
            unfold a9Val at E34
            have HWC := writing_calls v rec.length c q A ⟨x0, x1, x2⟩ W
            unfold arv at HWC
            dsimp only at HWC
            refine does_call 30 #[.pointer (some ⟨v, 0, none⟩), .slice A rec.length c, .agg #[.int .i64 x0, .int .i64 x1, .int .i64 x2], .pointer (some ⟨q, 0, none⟩)] (by clear HWC; go_simp) (HWC.mono ?_)
            rintro _ W' ⟨rfl, hE, hb⟩
            exact ⟨_, rfl, _, .inr rfl, hS.writ h13 h14 hb hE⟩
          · refine does_value (w' := W) (v := .pointer (some ⟨v, 0, none⟩)) (by go_simp) ⟨undef, .inr rfl, hS.step _ undef (by decide) (by decide) (by decide)⟩
          · have E36 := hval 8 _ 36 rfl rfl (dep_of hdep 8 (by rfl))
            unfold a9Val at E36
            refine does_value (w' := W) (v := .pointer (some ⟨v, 0, none⟩)) (by go_simp) ⟨undef, .inr rfl, hS.step _ undef (by decide) (by decide) (by decide)⟩
          · have E37 := hval 9 _ 37 rfl rfl (dep_of hdep 9 (by rfl))
            unfold a9Val at E37
            refine does_value (w' := W) (v := .pointer (some ⟨v, 1, none⟩)) (by go_simp) ⟨undef, .inr rfl, hS.step _ undef (by decide) (by decide) (by decide)⟩
          · have h12 := not_yet hcl hf 12 (by rfl)
            have h13 := not_yet hcl h12 13 (by rfl)
            have h14 := not_yet hcl h13 14 (by rfl)
            have hpre := hS.pre h14
            obtain ⟨c1, c2, c3, c4⟩ := HCV.out W hpre
            have E38 := hval 10 _ 38 rfl rfl (dep_of hdep 10 (by rfl))
            unfold a9Val at E38
            refine does_value (w' := W) (v := .pointer (some ⟨g, 0, none⟩)) (by go_simp) ⟨undef, .inr rfl, hS.step _ undef (by decide) (by decide) (by decide)⟩
          · have E39 := hval 11 _ 39 rfl rfl (dep_of hdep 11 (by rfl))
            unfold a9Val at E39
            refine does_value (w' := W) (v := Value.func (Fn.func 31) #[.pointer (some ⟨g, 0, none⟩)] #[]) (by go_simp) ⟨undef, .inr rfl, hS.step _ undef (by decide) (by decide) (by decide)⟩
          · have h14 := not_yet hcl hf 14 (by rfl)
            have h7 := dep_of hdep 7 (by rfl)
            have E35 := hval 7 _ 35 rfl rfl (dep_of hdep 7 (by rfl))
            unfold a9Val at E35
            have E40 := hval 12 _ 40 rfl rfl (dep_of hdep 12 (by rfl))
            unfold a9Val at E40
            obtain ⟨b, e7, -, -⟩ := hS.wr h7 h14
            have hbd := hS.build h7 h14 e7
            rw [e7] at E35
            unfold fnV wrFn at E35 hbd
            dsimp only at E35 hbd
            exact does_value (w' := W.alloc (.cells #[Value.func (Fn.func 62) #[] #[.pointer (some ⟨b, 0, none⟩), .pointer (some ⟨b + 2, 0, none⟩), .pointer (some ⟨b + 3, 0, none⟩), .pointer (some ⟨b + 1, 0, none⟩)], Value.func (Fn.func 31) #[.pointer (some ⟨g, 0, none⟩)] #[]] 66)) (v := .slice (some ⟨W.heap.size, 0, none⟩) 2 2) (by go_simp) ⟨_, .inr rfl, hbd⟩
          · have h13 := dep_of hdep 13 (by rfl)
            have h7 := hcl 13 _ rfl h13 |> fun hd => dep_of hd 7 (by rfl)
            have E28 := hval 0 _ 28 rfl rfl (dep_of hdep 0 (by rfl))
            unfold a9Val at E28
            have E41 := hval 13 _ 41 rfl rfl (dep_of hdep 13 (by rfl))
            unfold a9Val at E41
            obtain ⟨b, e7, hE, hbl⟩ := hS.wr h7 hf
            obtain ⟨k, e13, kb, hkl⟩ := hS.row h13 hf
            rw [e13] at E41
            rw [e7] at kb
            have hVD := HDO.out W b k (hS.pre hf) hE hbl kb hkl
            refine does_call 29 #[.pointer (some ⟨v, 0, none⟩), .slice (some ⟨k, 0, none⟩) 2 2] (by clear hVD; go_simp) (hVD.mono ?_)
            rintro _ W' ⟨rfl, hp⟩
            exact ⟨_, rfl, undef, .inr rfl, hS.done hp⟩
          · have E42 := hval 14 _ 42 rfl rfl (dep_of hdep 14 (by rfl))
            unfold a9Val at E42
            refine does_value (w' := W) (v := .int .i64 (er : Int)) (by go_simp) ⟨undef, .inr rfl, hS.step _ undef (by decide) (by decide) (by decide)⟩
        · intro gh W hS
          simp only [putAll, a9Val, Nat.reduceAdd, Nat.zero_add, Act.put, List.setIfInBounds_toArray, List.set_cons_zero, List.set_cons_succ]
          obtain ⟨W5, hI, rfl⟩ := hS.post rfl
          clear hS
          generalize gh 7 = u7
          generalize gh 13 = u13
          obtain ⟨F2, k1, k2, k3, k4⟩ := hI
          obtain ⟨s2, fn⟩ := P
          dsimp only at k1 k4
          have hn2 : s2.n = s.n := by
            have := (chain_costs (fun p : DS × Int => p.1) (appendSteps (areaV s.n vs.gen) rec) [needN rec.length, 0] rfl (ap_costs _ rec) (s, vs.fin) hfz).2.1
            rw [HRQ.out] at this
            exact this
          have hqn : w.heap.size ≤ q := by omega
          have hcw : Chg F w W5 := ((Chg.of_below (L := F) HB0.out).trans k2 (fun b hb => by
            rcases List.mem_cons.1 hb with rfl | hb
            · exact .inr hqn
            · exact .inl hb))
          have hk3 : ∀ b ∈ F2, b ∈ F ∨ w.heap.size ≤ b := fun b hb => (k3 b hb).imp id (fun hh => Nat.le_trans HB0.out.size hh)
          have hvau := VauIn.after HV.out hcw k1 hk3 hn2
          have hc5 : Chg (v :: F) w (W5.setCell ⟨v, 7, none⟩ (.bool (errB er))) := (hcw.more (fun b hb => .inl (List.mem_cons_of_mem _ hb))).trans (chg_set (L := [v]) (List.mem_singleton.2 rfl) 7 _) (fun b hb => .inl (by rw [List.mem_singleton.1 hb]; exact List.mem_cons_self))
          have hq5 := k4.far (p := ⟨v, 7, none⟩) (show q ≠ v by omega) (.bool (errB er))
          have HB5 := hid (hvau.broke (errB er)); have HC5 := hid hc5; have HK3 := hid hk3; have HQ5 := hid hq5
          clear hc5 hk3 hq5 hvau hcw k1 k2 k3 k4 HDO
          by_cases her : er = 0
          · subst her
            rw [show errB 0 = false from rfl] at HB5 HC5 HQ5 ⊢
            generalize W5.setCell ⟨v, 7, none⟩ (.bool false) = w5 at HB5 HC5 HQ5 ⊢
            have HMR := hid (show appendR s vs rec = (s2, { vs with recs := vs.recs ++ [rec], fin := fn, broken := false }, 0) from HR.out.trans (if_pos rfl))
            rw [show ((0 : Nat) : Int) = 0 from rfl]
            have hw5 := HC5.out.size
            have hb5 : base ≤ w5.heap.size := by omega
            have HSW := hid (fun W (hb : Below w5.heap.size w5 W) => ((HSB.out.chg_pos HC5.out (fun hp b off e _ => HNE.out b off hp e)).chg (Chg.of_below (L := []) hb) (fun _ _ _ _ => by simp)).grow (show w.heap.size ≤ W.heap.size from Nat.le_trans hw5 hb.size))
            go_wp2_with fail
            refine wp_region_invB 61 undef (c12Val v (.slice A rec.length c) rv) (C12 w5 v (P8 w5 base rv.ownBlock.toList rv us vs.recs rec) rec) (by kernel_rfl) (by kernel_rfl) (by exact Nat.le_refl 61) ?_ ?_ ?_
            · exact ⟨fun _ => (Below.refl _ _).drew, fun h => (by cases h), fun h => (by cases h), fun h => (by cases h), fun h => (by cases h)⟩
            · intro i o f gh a W hi hf hdep hsame hcl hval hS
              have E0 : a.tmps[0]? = some (.pointer (some ⟨v, 0, none⟩)) := (same_of hsame 0 (by rfl)).trans rfl
              have E1 : a.tmps[1]? = some (.slice A rec.length c) := (same_of hsame 1 (by rfl)).trans rfl
              rcases i with _ | _ | _ | _ | _ | _ | _ | _ | _ | _ | _ | _ | i
              all_goals simp only [List.getElem?_cons_succ, List.getElem?_cons_zero, List.getElem?_nil, Option.some.injEq, reduceCtorEq] at hi
              all_goals subst hi
              · refine does_value (w' := W) (v := .pointer (some ⟨v, 0, none⟩)) (by go_simp) ⟨undef, .inr rfl, hS.step _ undef (by decide) (by decide) (by decide) (by decide)⟩
              · refine does_value (w' := W) (v := .pointer (some ⟨v, 0, none⟩)) (by go_simp) ⟨undef, .inr rfl, hS.step _ undef (by decide) (by decide) (by decide) (by decide)⟩
              · have E47 := hval 1 _ 47 rfl rfl (dep_of hdep 1 (by rfl))
                unfold c12Val at E47
                refine does_value (w' := W) (v := .pointer (some ⟨v, 0, none⟩)) (by go_simp) ⟨undef, .inr rfl, hS.step _ undef (by decide) (by decide) (by decide) (by decide)⟩
              · have E48 := hval 2 _ 48 rfl rfl (dep_of hdep 2 (by rfl))
                unfold c12Val at E48
                refine does_value (w' := W) (v := .pointer (some ⟨v, 5, none⟩)) (by go_simp) ⟨undef, .inr rfl, hS.step _ undef (by decide) (by decide) (by decide) (by decide)⟩
              · have h8 := not_yet hcl hf 8 (by rfl)
                have c5 : W.cell? ⟨v, 5, none⟩ = some rv := (HB5.out.hd.keep (hS.pre h8)).cell 5 rfl
                have E49 := hval 3 _ 49 rfl rfl (dep_of hdep 3 (by rfl))
                unfold c12Val at E49
                refine does_value (w' := W) (v := rv) (by go_simp) ⟨undef, .inr rfl, hS.step _ undef (by decide) (by decide) (by decide) (by decide)⟩
              · refine does_value (w' := W) (v := .slice A rec.length c) (by go_simp) ⟨undef, .inr rfl, hS.step _ undef (by decide) (by decide) (by decide) (by decide)⟩
              · have h7 := not_yet hcl hf 7 (by rfl)
                have h8 := not_yet hcl h7 8 (by rfl)
                have h11 := not_yet hcl h8 11 (by rfl)
                have E51 := hval 5 _ 51 rfl rfl (dep_of hdep 5 (by rfl))
                unfold c12Val at E51
                have HCL := clone_calls W.heap.size rec.length c A rec W (HSW.out W (hS.pre h8)) (by omega)
                refine does_call 32 #[.slice A rec.length c] (by clear HCL; go_simp) (HCL.mono ?_)
                rintro _ W' ⟨x, rfl, ho, hb⟩
                exact ⟨x, rfl, x, .inr rfl, hS.cln h7 h8 h11 hb ho⟩
              · have h6 := dep_of hdep 6 (by rfl)
                have h8 := not_yet hcl hf 8 (by rfl)
                have h11 := not_yet hcl h8 11 (by rfl)
                have E52 := hval 6 _ 52 rfl rfl (dep_of hdep 6 (by rfl))
                unfold c12Val at E52
                obtain ⟨Au, cu, e6, -, -, -⟩ := (hS.cl h6 h8).sb
                have hbd := hS.bld h6 h8 h11 e6
                rw [e6] at E52
                exact does_value (w' := W.alloc (.cells #[.slice Au rec.length cu] 38)) (v := .slice (some ⟨W.heap.size, 0, none⟩) 1 1) (by go_simp) ⟨_, .inr rfl, hbd⟩
              · have h7 := dep_of hdep 7 (by rfl)
                have h6 := hcl 7 _ rfl h7 |> fun hd => dep_of hd 6 (by rfl)
                have h11 := not_yet hcl hf 11 (by rfl)
                have E50 := hval 4 _ 50 rfl rfl (dep_of hdep 4 (by rfl))
                unfold c12Val at E50
                have E53 := hval 7 _ 53 rfl rfl (dep_of hdep 7 (by rfl))
                unfold c12Val at E53
                have ho := hS.cl h6 hf
                obtain ⟨k, e7, kb⟩ := hS.row h7 hf
                obtain ⟨Au, cu, e6, -, -, -⟩ := ho.sb
                rw [e7] at E53
                have hpre := hS.pre hf
                have hrec := HB5.out.recs.keep hpre
                obtain ⟨i0, hi0, hz0, hz1, hz2⟩ := info_parts info_row
                obtain ⟨v', w', hr, h2, h3, -, h5⟩ := run_append_own_at (P := Try.prog) W base 31 31 38 i0 _ 1 24 Try.underlying31 hi0 hz0 hz1 hz2 rfl (by omega) rv vs.recs.length us hrec.row ⟨k, 0, none⟩ 1 1 [gh 6] rfl (fun j u hj => by have := kb.cell j (v := u) (by simpa using hj); rw [Addr.add_lit]; simpa using this) (by simp [e6, Value.oneCell']) (by simp [maxLen]; omega) (by omega) (by have := hpre.size; omega)
                refine does_value (run_append_op (.tmp 50) (.tmp 53) _ _ rfl _ _ (by rw [eval_getD, E50]; rfl) (by rw [eval_getD, E53]; rfl) hr) ⟨v', .inr rfl, hS.ap h11 ?_⟩
                have hol : ∀ b, (gh 6).ownBlock = some b → w5.heap.size ≤ b := fun b e => (ho.block b e).1
                refine ⟨(Chg.of_below (L := rv.ownBlock.toList) hpre).trans (Chg.of_grown (L := rv.ownBlock.toList) h3 (fun g' e => by simp [e])) (fun _ hb => .inl hb), us ++ [gh 6], hrec.push (ho.lower hb5) (fun b e => ⟨fun e2 => by have := (HB5.out.recs.lt b (.inl e2)).2; have := hol b e; omega, fun u hu e2 => by have := (HB5.out.recs.lt b (.inr ⟨u, hu, e2⟩)).2; have := hol b e; omega⟩) h2 h3 (h5.imp id fun e => ⟨_, e, Nat.le_refl _⟩), fun b hb => ?_⟩
                rcases hb with hb | ⟨u, hu, hb⟩
                · rcases h5 with e | e
                  · exact .inl (.inl (e ▸ hb))
                  · rw [e] at hb
                    cases hb
                    exact .inr hpre.size
                · rcases List.mem_append.1 hu with hu | hu
                  · exact .inl (.inr ⟨u, hu, hb⟩)
                  · obtain rfl := List.mem_singleton.1 hu
                    exact .inr (hol b hb)
              · have E46 := hval 0 _ 46 rfl rfl (dep_of hdep 0 (by rfl))
                unfold c12Val at E46
                refine does_value (w' := W) (v := .pointer (some ⟨v, 0, none⟩)) (by go_simp) ⟨undef, .inr rfl, hS.step _ undef (by decide) (by decide) (by decide) (by decide)⟩
              · have E55 := hval 9 _ 55 rfl rfl (dep_of hdep 9 (by rfl))
                unfold c12Val at E55
                refine does_value (w' := W) (v := .pointer (some ⟨v, 5, none⟩)) (by go_simp) ⟨undef, .inr rfl, hS.step _ undef (by decide) (by decide) (by decide) (by decide)⟩
              · have h8 := dep_of hdep 8 (by rfl)
                have E56 := hval 10 _ 56 rfl rfl (dep_of hdep 10 (by rfl))
                unfold c12Val at E56
                have E54 := hval 8 _ 54 rfl rfl (dep_of hdep 8 (by rfl))
                unfold c12Val at E54
                have hst := hS.st h8 hf
                obtain ⟨hch, us', hr8, -⟩ := hS.app h8 hf
                have hvb := HB5.out.hd.chg hch (fun hm => (HB5.out.rf v (.inl (by simpa using hm))).2 rfl)
                have kc := hvb.cell 5 rfl
                have kf := hvb.frozen 5
                obtain ⟨A', n', c', e8⟩ : ∃ A' n' c', gh 8 = .slice A' n' c' := by
                  rcases hr8.row.2 with ⟨e, _⟩ | ⟨g', cap', cur', e, _⟩
                  · exact ⟨_, _, _, e⟩
                  · exact ⟨_, _, _, e⟩
                rw [e8] at hst E54
                clear hr8 hvb
                refine does_skip (w' := W.setCell ⟨v, 5, none⟩ (.slice A' n' c')) (by go_simp) ⟨undef, .inl rfl, hst⟩
            · intro gh W hS
              simp only [putAll, c12Val, Nat.reduceAdd, Nat.zero_add, Act.put, List.setIfInBounds_toArray, List.set_cons_zero, List.set_cons_succ]
              obtain ⟨W', hQ, rfl⟩ := hS.fin rfl
              clear hS
              generalize gh 8 = rv' at hQ ⊢
              generalize gh 7 = u7
              generalize gh 6 = u6
              obtain ⟨hch, us', hr8, hnew⟩ := hQ
              have hrlt : ∀ b, rv.ownBlock = some b → b < w.heap.size := fun b e => (HV.out.recs.lt b (.inl e)).2
              have hvL : v ∉ rv.ownBlock.toList := fun hm => (HB5.out.rf v (.inl (by simpa using hm))).2 rfl
              have hqL : q ∉ rv.ownBlock.toList := fun hm => by have := hrlt q (by simpa using hm); omega
              have hv5 := HB5.out.hd.lt
              have hvb := (HB5.out.hd.chg hch hvL).set_ 5 rv'
              have c6 := hvb.cell 6 rfl
              have f6 := hvb.frozen 6
              have cq : (W'.setCell ⟨v, 5, none⟩ rv').cell? ⟨q, 0, none⟩ = some (.int .i64 fn) := ((HQ5.out.chg hch hqL).far (p := ⟨v, 5, none⟩) (show q ≠ v by omega) rv').cell 0 rfl
              have HVB := hid hvb; have HCH := hid hch; have HR8 := hid hr8; have HNW := hid hnew
              clear hvb hch hr8 hnew
              go_wp2_with fail
              go_ret
              rw [HMR.out]
              have hnv : ∀ b, (rv'.ownBlock = some b ∨ ∃ u ∈ us', u.ownBlock = some b) → b ∉ F2 ∧ b ≠ v := fun b hb => by
                rcases HNW.out b hb with ho | hge
                · exact HB5.out.rf b ho
                · exact ⟨fun hm => by have := (HB5.out.dev.lt b hm).2; omega, by omega⟩
              have g1 : Chg [v] W' (W'.setCell ⟨v, 5, none⟩ rv') := chg_set (L := [v]) (List.mem_singleton.2 rfl) 5 _
              have g2 : Chg [v] (W'.setCell ⟨v, 5, none⟩ rv') ((W'.setCell ⟨v, 5, none⟩ rv').setCell ⟨v, 6, none⟩ (.int .i64 fn)) := chg_set (L := [v]) (List.mem_singleton.2 rfl) 6 _
              have g3 : Chg [v] W' ((W'.setCell ⟨v, 5, none⟩ rv').setCell ⟨v, 6, none⟩ (.int .i64 fn)) := g1.trans g2 (fun _ h => .inl h)
              have hvau : VauIn ((W'.setCell ⟨v, 5, none⟩ rv').setCell ⟨v, 6, none⟩ (.int .i64 fn)) base F2 g v s2 { vs with recs := vs.recs ++ [rec], fin := fn, broken := false } (ptrV v) rv' us' :=
                ⟨(HB5.out.dev.chg HCH.out (fun b hb hm => (HB5.out.rf b (.inl (by simpa using hm))).1 hb)).chg g3 (fun b hb hm => HB5.out.vf (by rw [← List.mem_singleton.1 hm]; exact hb)), HVB.out.set_ 6 _, HR8.out.chg g3 (fun b hb hm => (hnv b hb).2 (List.mem_singleton.1 hm)), HB5.out.hv, HB5.out.vf, hnv⟩
              refine ⟨rfl, F2, ⟨rv', us', hvau⟩, ?_, HK3.out⟩
              refine (HC5.out.more (fun b hb => .inl ?_)).trans ((HCH.out.more (L' := v :: rv.ownBlock.toList) (fun b hb => .inl (List.mem_cons_of_mem _ hb))).trans g3 (fun b hb => .inl (by rw [List.mem_singleton.1 hb]; exact List.mem_cons_self))) (fun b hb => .inl ?_)
              · rcases List.mem_cons.1 hb with rfl | hb
                · exact List.mem_cons_self
                · exact List.mem_cons_of_mem _ (List.mem_append_right _ hb)
              · rcases List.mem_cons.1 hb with rfl | hb
                · exact List.mem_cons_self
                · exact List.mem_cons_of_mem _ (List.mem_append_left _ hb)
          · have hEB : errB er = true := by unfold errB; rw [decide_eq_false her]; rfl
            rw [hEB] at HB5 HC5 HQ5 ⊢
            generalize W5.setCell ⟨v, 7, none⟩ (.bool true) = w5 at HB5 HC5 HQ5 ⊢
            have HMR := hid (show appendR s vs rec = (s2, { vs with broken := true }, er) from HR.out.trans (if_neg her))
            have her' : ¬ (er : Int) = 0 := by omega
            go_wp2_with fail
            go_ret
            rw [HMR.out]
            exact ⟨rfl, F2, ⟨rv, us, HB5.out⟩, HC5.out.more (fun b hb => .inl (by
              rcases List.mem_cons.1 hb with rfl | hb
              · exact List.mem_cons_self
              · exact List.mem_cons_of_mem _ (List.mem_append_right _ hb))), HK3.out⟩
end
end Go.Proofs.Ytgldhmmfofnmiaa
