/- Contracts of package quota: remove, Unlink. Written by tools/mkqt.py out of XQtRem.tpl. -/
import Derived.Test.YtjgnbmkhibdcfaaQtLink
namespace Go.Proofs.Ytjgnbmkhibdcfaa
open Go.RowKit

theorem RanG.ne_map {P : Program} {t e t2 e2 : TypeId} {K E K2 E2 : Type} {κ : KeyK P t K} {ε : ElemK P e E} {κ2 : KeyK P t2 K2} {ε2 : ElemK P e2 E2} {w : World} {m r n m2 n2 : Nat} {f : K → Option E} {todo : K → Bool} {f2 : K2 → Option E2} (h : RanG κ ε w m r n f todo) (h2 : MapG κ2 ε2 w m2 n2 f2) : r ≠ m2 := fun e => by
  subst e
  obtain ⟨_, _, _, ⟨_, _, _, _, _, _, _, _, _, hr, _⟩, _⟩ := h
  obtain ⟨_, ⟨_, _, hm, _⟩, _⟩ := h2
  rw [hr] at hm
  cases hm
theorem RanG.ne_blk {P : Program} {t e : TypeId} {K E : Type} {κ : KeyK P t K} {ε : ElemK P e E} {w : World} {m r n : Nat} {f : K → Option E} {todo : K → Bool} (h : RanG κ ε w m r n f todo) {b : Nat} {ty : TypeId} {cs : Array Value} (h2 : Blk w b ty cs) : r ≠ b := fun e => by
  subst e
  obtain ⟨_, _, _, ⟨_, _, _, _, _, _, _, _, _, hr, _⟩, _⟩ := h
  unfold Blk at h2
  rw [hr] at h2
  cases h2
theorem RanG.congr {P : Program} {t e : TypeId} {K E : Type} {κ : KeyK P t K} {ε : ElemK P e E} {w : World} {m r n : Nat} {f f' : K → Option E} {todo todo' : K → Bool} (h : RanG κ ε w m r n f todo) (hf : ∀ k, κ.ok k → f k = f' k) (ht : ∀ k, κ.ok k → todo k = todo' k) : RanG κ ε w m r n f' todo' := by
  obtain ⟨D, left, cnt, h1, h2, h3⟩ := h
  exact ⟨D, left, cnt, h1, fun k hk => by rw [h2 k hk, hf k hk], fun k hk => by rw [h3 k hk, ht k hk]⟩
/-- on the way through remove -/
structure RemI (w W : World) (s m u p n : Nat) (lim : Int) (g : List UInt8 → Option Nat) (f : LKey → Option Int) (r id : List UInt8) (b1 : Nat) (cn sm : Int) : Prop where
  chg : Chg [m, u, b1] w W
  hd : Blk W s 52 (qcells s m u lim)
  us : MapG stK ptK W u n g
  mp : MapG lkK szK W m n f
  kp : Blk W p 71 (kcells (r, id))
  bu : Blk W b1 91 #[.int .i64 cn, .int .i64 sm]
  nb : b1 ≠ s ∧ b1 ≠ m ∧ b1 ≠ u ∧ b1 ≠ p
  ne : s ≠ m ∧ s ≠ u ∧ m ≠ u ∧ p ≠ m ∧ p ≠ u
  ran : ∀ (j : Nat) (todo : List UInt8 → Bool), RanG stK ptK w u j n g todo → RanG stK ptK W u j n g todo ∧ W.rangeLeft u j = w.rangeLeft u j
section
variable {w W W' : World} {s m u p n b1 : Nat} {lim : Int} {g : List UInt8 → Option Nat} {f f' : LKey → Option Int} {r id : List UInt8} {cn sm : Int}
theorem RemI.keep (h : RemI w W s m u p n lim g f r id b1 cn sm) (hb : Below W.heap.size W W') : RemI w W' s m u p n lim g f r id b1 cn sm :=
  ⟨h.chg.trans (Chg.of_below (L := []) hb) (fun _ hn => (by cases hn)), h.hd.keep hb, h.us.keep hb, h.mp.keep hb, h.kp.keep hb, h.bu.keep hb, h.nb, h.ne, fun j todo hr => by
    obtain ⟨h1, h2⟩ := h.ran j todo hr
    obtain ⟨h3, h4⟩ := h1.keep hb
    exact ⟨h3, h4.trans h2⟩⟩
theorem RemI.set_ (h : RemI w W s m u p n lim g f r id b1 cn sm) (i : Nat) (v : Value) {cn' sm' : Int} (he : (#[Value.int .i64 cn, .int .i64 sm]).setIfInBounds i v = #[Value.int .i64 cn', .int .i64 sm']) : RemI w (W.setCell ⟨b1, i, none⟩ v) s m u p n lim g f r id b1 cn' sm' := by
  have hg := grown_setCell W b1 i v
  obtain ⟨n1, n2, n3, n4⟩ := h.nb
  refine ⟨h.chg.trans (Chg.of_grown (L := [b1]) hg (fun g e => (by cases e; simp))) (fun b hb => .inl (by simp at hb; simp [hb])), h.hd.grown hg (by simp [n1]), h.us.grown hg (by simp [n3]), h.mp.grown hg (by simp [n2]), h.kp.grown hg (by simp [n4]), (by have := h.bu.set_ i v; rw [he] at this; exact this), h.nb, h.ne, fun j todo hr => ?_⟩
  obtain ⟨h1, h2⟩ := h.ran j todo hr
  obtain ⟨h3, h4⟩ := h1.chg (Chg.of_grown (L := [b1]) hg (fun g e => (by cases e; simp))) (by simp; exact Ne.symm n3) (by simp; exact h1.ne_blk h.bu)
  exact ⟨h3, h4.trans h2⟩
theorem RemI.del (h : RemI w W s m u p n lim g f r id b1 cn sm) (hm : MapG lkK szK W' m n f') (hg : W.grownBy W' (some m)) : RemI w W' s m u p n lim g f' r id b1 cn sm := by
  obtain ⟨n1, n2, n3, n4⟩ := h.nb
  obtain ⟨e1, e2, e3, e4, e5⟩ := h.ne
  refine ⟨h.chg.trans (Chg.of_grown (L := [m]) hg (fun g e => (by cases e; simp))) (fun b hb => .inl (by simp at hb; simp [hb])), h.hd.grown hg (by simpa using Ne.symm e1), h.us.grown hg (by simpa using e3), hm, h.kp.grown hg (by simpa using Ne.symm e4), h.bu.grown hg (by simpa using Ne.symm n2), h.nb, h.ne, fun j todo hr => ?_⟩
  obtain ⟨h1, h2⟩ := h.ran j todo hr
  obtain ⟨h3, h4⟩ := h1.chg (Chg.of_grown (L := [m]) hg (fun g e => (by cases e; simp))) (by simp; exact Ne.symm e3) (by simp; exact h1.ne_map h.mp)
  exact ⟨h3, h4.trans h2⟩
end
/-- what remove leaves -/
def DelP (w : World) (F : List Nat) (s m u n : Nat) (q : QS) (g : List UInt8 → Option Nat) (k : LKey) (w' : World) : Prop :=
  ∃ g', QtB w' F s m u n { q with l := delQ q.l k } g' ∧ Chg F w w' ∧ ∀ (j : Nat) (todo : List UInt8 → Bool), RanG stK ptK w u j n g todo → todo k.1 = false → RanG stK ptK w' u j n g' todo ∧ w'.rangeLeft u j ≤ w.rangeLeft u j
section
variable {w w' : World} {F : List Nat} {s m u n : Nat} {q : QS} {g : List UInt8 → Option Nat}
theorem QtB.has (h : QtB w F s m u n q g) {k : LKey} (hk : kok k) {y : Int} (hy : szQ q.l k = some y) : ∃ b, g k.1 = some b := by
  have he := h.each k.1 hk.1
  cases hg : g k.1 with
  | some b => exact ⟨b, rfl⟩
  | none =>
    rw [hg] at he
    have he' : ofQ q.l k.1 = [] := he
    have : (k, y) ∈ ofQ q.l k.1 := by
      unfold ofQ
      exact List.mem_filter.2 ⟨szQ_some hy, by simp⟩
    rw [he'] at this
    cases this
def rem1Val (s : Nat) (u : Nat) (p : Nat) (b1 : Nat) (r : List UInt8) : Nat → Unit → Value
  | 0, _ => .pointer (some ⟨s, 0, none⟩)
  | 1, _ => .pointer (some ⟨s, 0, none⟩)
  | 2, _ => .pointer (some ⟨s, 3, none⟩)
  | 3, _ => .map (some u)
  | 4, _ => .pointer (some ⟨p, 0, none⟩)
  | 5, _ => .string (strB r)
  | 6, _ => .pointer (some ⟨b1, 0, none⟩)
  | 7, _ => .pointer (some ⟨b1, 0, none⟩)
  | _, _ => undef
def rem3Val (s : Nat) (m : Nat) (b1 : Nat) (sm : Int) (r : List UInt8) (id : List UInt8) (y : Int) : Nat → Unit → Value
  | 0, _ => .pointer (some ⟨b1, 0, none⟩)
  | 1, _ => .pointer (some ⟨b1, 0, none⟩)
  | 2, _ => .pointer (some ⟨b1, 1, none⟩)
  | 3, _ => .int .i64 sm
  | 4, _ => .pointer (some ⟨s, 0, none⟩)
  | 5, _ => .pointer (some ⟨s, 0, none⟩)
  | 6, _ => .pointer (some ⟨s, 2, none⟩)
  | 7, _ => .map (some m)
  | 8, _ => kval (r, id)
  | 9, _ => .agg #[.int .i64 y]
  | 10, _ => .int .i64 y
  | 11, _ => .int .i64 (sm - y)
  | 12, _ => .pointer (some ⟨b1, 0, none⟩)
  | 13, _ => .pointer (some ⟨b1, 1, none⟩)
  | _, _ => undef
def rem4Val (s : Nat) (m : Nat) (r : List UInt8) (id : List UInt8) : Nat → Unit → Value
  | 0, _ => .pointer (some ⟨s, 0, none⟩)
  | 1, _ => .pointer (some ⟨s, 0, none⟩)
  | 2, _ => .pointer (some ⟨s, 2, none⟩)
  | 3, _ => .map (some m)
  | 4, _ => kval (r, id)
  | _, _ => undef
def rem6Val (s : Nat) (u : Nat) (p : Nat) (r : List UInt8) : Nat → Unit → Value
  | 0, _ => .pointer (some ⟨s, 0, none⟩)
  | 1, _ => .pointer (some ⟨s, 0, none⟩)
  | 2, _ => .pointer (some ⟨s, 3, none⟩)
  | 3, _ => .map (some u)
  | 4, _ => .pointer (some ⟨p, 0, none⟩)
  | 5, _ => .string (strB r)
  | _, _ => undef
set_option maxRecDepth 20000 in
set_option maxHeartbeats 4000000 in
theorem qremove_calls (h : QtB w F s m u n q g) (r id : List UInt8) (hk : kok (r, id)) (y : Int) (hy : szQ q.l (r, id) = some y) :
    Calls Try.prog 46 #[.pointer (some ⟨s, 0, none⟩), kval (r, id)] w fun e w' => e = .returned (.tuple #[]) ∧ DelP w F s m u n q g (r, id) w' := by
  have hbx := below_new w (.cells (kcells (r, id)) 71)
  have hkx := Blk.new w 71 (kcells (r, id))
  obtain ⟨b1, hg1⟩ := h.has hk hy
  have HSZ := hid (size33 (k := (r, id)) hk.2)
  have HKO := hid (show lkK.ok (r, id) from hk)
  have HRL := hid (show stK.ok r from hk.1)
  have HG := hid hg1; have HY := hid hy; have HH := hid h
  have he := h.each r hk.1
  rw [hg1] at he
  obtain ⟨_, hbu, hbF, n1, n2, n3⟩ := he
  have hcb := h.ok.cnt r
  have hsb := h.ok.sum r
  have hyb := h.ok.szs _ (szQ_some hy)
  have HCS := hid (show ∃ cn sm, cntQ q.l r = cn ∧ sumQ q.l r = sm from ⟨_, _, rfl, rfl⟩)
  obtain ⟨cn, sm, hcn, hsm⟩ := HCS.out
  rw [hcn, hsm] at hbu
  rw [hcn] at hcb
  rw [hsm] at hsb
  have HC0 := hid hcn; have HS0 := hid hsm; have HBN := hid (⟨hcb, hsb, hyb⟩ : (0 ≤ cn ∧ cn ≤ 65536) ∧ (0 ≤ sm ∧ sm ≤ 268435456) ∧ (0 ≤ y ∧ y ≤ 4096))
  have l1 := h.lt s h.ins.1; have l2 := h.lt m h.ins.2.1; have l3 := h.lt u h.ins.2.2; have l4 := h.lt b1 hbF
  have hri : RemI w (w.alloc (.cells (kcells (r, id)) 71)) s m u w.heap.size n q.limit g (szQ q.l) r id b1 cn sm :=
    ⟨Chg.of_below hbx, h.hd.keep hbx, h.us.keep hbx, h.mp.keep hbx, hkx, hbu.keep hbx, ⟨n1, n2, n3, by omega⟩, ⟨h.ne.1, h.ne.2.1, h.ne.2.2, by omega, by omega⟩, fun j todo hr => hr.keep hbx⟩
  clear hk hy h hg1 hbu n1 n2 n3 hcb hsb hyb hcn hsm HCS l1 l2 l3 l4 hbx hkx
  have HBF := hid hbF
  clear hbF
  unfold kval
  go_enter Try.func46, Try.ntmps46
  go_wp2_with fail
  generalize w.alloc (.cells (kcells (r, id)) 71) = w1 at hri ⊢
  generalize w.heap.size = p at hri ⊢
  have HC := hid (fun W (hb : Below w1.heap.size w1 W) => (⟨(hri.keep hb).hd.cell 3 rfl, (hri.keep hb).kp.cell 0 rfl, by have := look_use (hri.keep hb).us (r := r) HRL.out; rw [HG.out] at this; exact this⟩ : W.cell? ⟨s, 3, none⟩ = some (.map (some u)) ∧ W.cell? ⟨p, 0, none⟩ = some (.string (strB r)) ∧ (Instr.lookup 50 (.map (some u)) (.string (strB r)) false).run Try.prog W = .ok (.pointer (some ⟨b1, 0, none⟩)) W))
  have HR1 := hid hri
  clear hri
  refine wp_region_invG 49 () (rem1Val s u p b1 r) (fun _ _ W => Below w1.heap.size w1 W) (by kernel_rfl) (by kernel_rfl) (by exact Nat.le_refl 49) ?_ ?_ ?_
  · exact (Below.refl _ _).drew
  · intro i o f gh a W hi hf hdep hsame hcl hval hS
    rcases i with _ | _ | _ | _ | _ | _ | _ | _ | i
    all_goals simp only [List.getElem?_cons_succ, List.getElem?_cons_zero, List.getElem?_nil, Option.some.injEq, reduceCtorEq] at hi
    all_goals subst hi
    · have E0 : a.tmps[0]? = some (.pointer (some ⟨s, 0, none⟩)) := (same_of hsame 0 (by rfl)).trans rfl
      refine g_plain rfl ?_
      exact does_value (w' := W) (v := .pointer (some ⟨s, 0, none⟩)) (by go_simp) ⟨(), .inr rfl, hS⟩
    · have E5 := hval 0 _ 5 rfl rfl (dep_of hdep 0 (by rfl))
      unfold rem1Val at E5
      refine g_plain rfl ?_
      exact does_value (w' := W) (v := .pointer (some ⟨s, 0, none⟩)) (by go_simp) ⟨(), .inr rfl, hS⟩
    · have E6 := hval 1 _ 6 rfl rfl (dep_of hdep 1 (by rfl))
      unfold rem1Val at E6
      refine g_plain rfl ?_
      exact does_value (w' := W) (v := .pointer (some ⟨s, 3, none⟩)) (by go_simp) ⟨(), .inr rfl, hS⟩
    · have E7 := hval 2 _ 7 rfl rfl (dep_of hdep 2 (by rfl))
      unfold rem1Val at E7
      obtain ⟨c3, cp, hlk⟩ := HC.out W hS
      refine g_plain rfl ?_
      exact does_value (w' := W) (v := .map (some u)) (by go_simp) ⟨(), .inr rfl, hS⟩
    · have E3 : a.tmps[3]? = some (.pointer (some ⟨p, 0, none⟩)) := (same_of hsame 3 (by rfl)).trans rfl
      refine g_plain rfl ?_
      exact does_value (w' := W) (v := .pointer (some ⟨p, 0, none⟩)) (by go_simp) ⟨(), .inr rfl, hS⟩
    · have E9 := hval 4 _ 9 rfl rfl (dep_of hdep 4 (by rfl))
      unfold rem1Val at E9
      obtain ⟨c3, cp, hlk⟩ := HC.out W hS
      refine g_plain rfl ?_
      exact does_value (w' := W) (v := .string (strB r)) (by go_simp) ⟨(), .inr rfl, hS⟩
    · have E8 := hval 3 _ 8 rfl rfl (dep_of hdep 3 (by rfl))
      have E10 := hval 5 _ 10 rfl rfl (dep_of hdep 5 (by rfl))
      unfold rem1Val at E8 E10
      obtain ⟨c3, cp, hlk⟩ := HC.out W hS
      refine g_plain rfl ?_
      exact does_value (w' := W) (v := .pointer (some ⟨b1, 0, none⟩)) (by go_simp) ⟨(), .inr rfl, hS⟩
    · have E11 := hval 6 _ 11 rfl rfl (dep_of hdep 6 (by rfl))
      unfold rem1Val at E11
      refine g_plain rfl ?_
      exact does_value (w' := W) (v := .pointer (some ⟨b1, 0, none⟩)) (by go_simp) ⟨(), .inr rfl, hS⟩
  · intro gh w2 hS
    have hr2 := HR1.out.keep hS
    have hr3 := hr2.set_ 0 (.int .i64 (cn - 1)) (cn' := cn - 1) (sm' := sm) rfl
    have c0 := hr2.bu.cell 0 (v := .int .i64 cn) rfl
    have z0 := hr2.bu.frozen 0
    have hw0 : IntKind.i64.wrap (cn - 1) = cn - 1 := IntWalk.i64_in _ (by have := HBN.out.1; omega)
    have HR3 := hid hr3
    clear hr2 hr3 hS HC HR1
    simp only [putAll, rem1Val, Nat.reduceAdd, Nat.zero_add, Act.put, List.setIfInBounds_toArray, List.set_cons_zero, List.set_cons_succ]
    go_wp2_with fail
    clear c0 z0 hw0
    generalize World.setCell w2 ⟨b1, 0, none⟩ (.int .i64 (cn - 1)) = w3 at HR3 ⊢
    have hr4 := HR3.out.keep ((Below.refl w3.heap.size w3).drew)
    generalize hwd : w3.drew = w4 at hr4
    have HWD := hid hwd
    have HC := hid (⟨hr4.hd.cell 2 rfl, hr4.bu.cell 1 rfl, by have := look_link1 hr4.mp (k := (r, id)) HKO.out; rw [HY.out] at this; exact this, fun W => by kernel_rfl⟩ : w4.cell? ⟨s, 2, none⟩ = some (.map (some m)) ∧ w4.cell? ⟨b1, 1, none⟩ = some (.int .i64 sm) ∧ (Instr.lookup 49 (.map (some m)) (kval (r, id)) false).run Try.prog w4 = .ok (.agg #[.int .i64 y]) w4 ∧ ∀ W, (Instr.field 81 (.agg #[.int .i64 y]) 0).run Try.prog W = .ok (.int .i64 y) W)
    have HKP := hid hr4.kp
    have HZ := hid (hr4.bu.frozen 1)
    have HW := hid (show IntKind.i64.wrap (sm - y) = sm - y from IntWalk.i64_in _ (by have := HBN.out.2; omega))
    have HR4 := hid hr4
    clear hr4 hwd HR3
    refine wp_region_invG 49 () (rem3Val s m b1 sm r id y) (fun f _ W => WrS w4 14 (fun W' => W' = World.setCell w4 ⟨b1, 1, none⟩ (.int .i64 (sm - y))) f W) (by kernel_rfl) (by kernel_rfl) (by exact Nat.le_refl 49) ?_ ?_ ?_
    · exact (by rw [HWD.out]; exact WrS.start 15 (by decide))
    · intro i o f gh a W hi hf hdep hsame hcl hval hS
      rcases i with _ | _ | _ | _ | _ | _ | _ | _ | _ | _ | _ | _ | _ | _ | _ | i
      all_goals simp only [List.getElem?_cons_succ, List.getElem?_cons_zero, List.getElem?_nil, Option.some.injEq, reduceCtorEq] at hi
      all_goals subst hi
      · have E4 : a.tmps[4]? = some (.pointer (some ⟨b1, 0, none⟩)) := (same_of hsame 4 (by rfl)).trans rfl
        have n12 := not_yet hcl hf 12 (by rfl)
        have n13 := not_yet hcl n12 13 (by rfl)
        have n14 := not_yet hcl n13 14 (by rfl)
        obtain rfl := (hS.pre n14).symm
        refine g_plain rfl ?_
        exact does_value (w' := _) (v := .pointer (some ⟨b1, 0, none⟩)) (by go_simp) ⟨(), .inr rfl, (hS.same 0 (by decide))⟩
      · have E19 := hval 0 _ 19 rfl rfl (dep_of hdep 0 (by rfl))
        unfold rem3Val at E19
        have n2 := not_yet hcl hf 2 (by rfl)
        have n3 := not_yet hcl n2 3 (by rfl)
        have n11 := not_yet hcl n3 11 (by rfl)
        have n14 := not_yet hcl n11 14 (by rfl)
        obtain rfl := (hS.pre n14).symm
        refine g_plain rfl ?_
        exact does_value (w' := _) (v := .pointer (some ⟨b1, 0, none⟩)) (by go_simp) ⟨(), .inr rfl, (hS.same 1 (by decide))⟩
      · have E20 := hval 1 _ 20 rfl rfl (dep_of hdep 1 (by rfl))
        unfold rem3Val at E20
        have n3 := not_yet hcl hf 3 (by rfl)
        have n11 := not_yet hcl n3 11 (by rfl)
        have n14 := not_yet hcl n11 14 (by rfl)
        obtain rfl := (hS.pre n14).symm
        refine g_plain rfl ?_
        exact does_value (w' := _) (v := .pointer (some ⟨b1, 1, none⟩)) (by go_simp) ⟨(), .inr rfl, (hS.same 2 (by decide))⟩
      · have E21 := hval 2 _ 21 rfl rfl (dep_of hdep 2 (by rfl))
        unfold rem3Val at E21
        have n11 := not_yet hcl hf 11 (by rfl)
        have n14 := not_yet hcl n11 14 (by rfl)
        obtain rfl := (hS.pre n14).symm
        obtain ⟨c2, cb, hlk, hfd⟩ := HC.out
        refine g_plain rfl ?_
        exact does_value (w' := _) (v := .int .i64 sm) (by go_simp) ⟨(), .inr rfl, (hS.same 3 (by decide))⟩
      · have E0 : a.tmps[0]? = some (.pointer (some ⟨s, 0, none⟩)) := (same_of hsame 0 (by rfl)).trans rfl
        have n5 := not_yet hcl hf 5 (by rfl)
        have n6 := not_yet hcl n5 6 (by rfl)
        have n7 := not_yet hcl n6 7 (by rfl)
        have n9 := not_yet hcl n7 9 (by rfl)
        have n10 := not_yet hcl n9 10 (by rfl)
        have n11 := not_yet hcl n10 11 (by rfl)
        have n14 := not_yet hcl n11 14 (by rfl)
        obtain rfl := (hS.pre n14).symm
        refine g_plain rfl ?_
        exact does_value (w' := _) (v := .pointer (some ⟨s, 0, none⟩)) (by go_simp) ⟨(), .inr rfl, (hS.same 4 (by decide))⟩
      · have E23 := hval 4 _ 23 rfl rfl (dep_of hdep 4 (by rfl))
        unfold rem3Val at E23
        have n6 := not_yet hcl hf 6 (by rfl)
        have n7 := not_yet hcl n6 7 (by rfl)
        have n9 := not_yet hcl n7 9 (by rfl)
        have n10 := not_yet hcl n9 10 (by rfl)
        have n11 := not_yet hcl n10 11 (by rfl)
        have n14 := not_yet hcl n11 14 (by rfl)
        obtain rfl := (hS.pre n14).symm
        refine g_plain rfl ?_
        exact does_value (w' := _) (v := .pointer (some ⟨s, 0, none⟩)) (by go_simp) ⟨(), .inr rfl, (hS.same 5 (by decide))⟩
      · have E24 := hval 5 _ 24 rfl rfl (dep_of hdep 5 (by rfl))
        unfold rem3Val at E24
        have n7 := not_yet hcl hf 7 (by rfl)
        have n9 := not_yet hcl n7 9 (by rfl)
        have n10 := not_yet hcl n9 10 (by rfl)
        have n11 := not_yet hcl n10 11 (by rfl)
        have n14 := not_yet hcl n11 14 (by rfl)
        obtain rfl := (hS.pre n14).symm
        refine g_plain rfl ?_
        exact does_value (w' := _) (v := .pointer (some ⟨s, 2, none⟩)) (by go_simp) ⟨(), .inr rfl, (hS.same 6 (by decide))⟩
      · have E25 := hval 6 _ 25 rfl rfl (dep_of hdep 6 (by rfl))
        unfold rem3Val at E25
        have n9 := not_yet hcl hf 9 (by rfl)
        have n10 := not_yet hcl n9 10 (by rfl)
        have n11 := not_yet hcl n10 11 (by rfl)
        have n14 := not_yet hcl n11 14 (by rfl)
        obtain rfl := (hS.pre n14).symm
        obtain ⟨c2, cb, hlk, hfd⟩ := HC.out
        refine g_plain rfl ?_
        exact does_value (w' := _) (v := .map (some m)) (by go_simp) ⟨(), .inr rfl, (hS.same 7 (by decide))⟩
      · have E3 : a.tmps[3]? = some (.pointer (some ⟨p, 0, none⟩)) := (same_of hsame 3 (by rfl)).trans rfl
        have n9 := not_yet hcl hf 9 (by rfl)
        have n10 := not_yet hcl n9 10 (by rfl)
        have n11 := not_yet hcl n10 11 (by rfl)
        have n14 := not_yet hcl n11 14 (by rfl)
        obtain rfl := (hS.pre n14).symm
        refine g_plain rfl ?_
        exact does_load _ _ rfl p (by rw [eval_getD, E3]; rfl) _ (HKP.out) _ Try.underlying71 rfl HSZ.out ⟨(), .inr rfl, (hS.same 8 (by decide))⟩
      · have E26 := hval 7 _ 26 rfl rfl (dep_of hdep 7 (by rfl))
        have E27 := hval 8 _ 27 rfl rfl (dep_of hdep 8 (by rfl))
        unfold rem3Val at E26 E27
        have n10 := not_yet hcl hf 10 (by rfl)
        have n11 := not_yet hcl n10 11 (by rfl)
        have n14 := not_yet hcl n11 14 (by rfl)
        obtain rfl := (hS.pre n14).symm
        obtain ⟨c2, cb, hlk, hfd⟩ := HC.out
        refine g_plain rfl ?_
        exact does_value (w' := _) (v := .agg #[.int .i64 y]) (by go_simp) ⟨(), .inr rfl, (hS.same 9 (by decide))⟩
      · have E28 := hval 9 _ 28 rfl rfl (dep_of hdep 9 (by rfl))
        unfold rem3Val at E28
        have n11 := not_yet hcl hf 11 (by rfl)
        have n14 := not_yet hcl n11 14 (by rfl)
        obtain rfl := (hS.pre n14).symm
        obtain ⟨c2, cb, hlk, hfd⟩ := HC.out
        refine g_plain rfl ?_
        exact does_value (w' := _) (v := .int .i64 y) (by go_simp) ⟨(), .inr rfl, (hS.same 10 (by decide))⟩
      · have E22 := hval 3 _ 22 rfl rfl (dep_of hdep 3 (by rfl))
        have E29 := hval 10 _ 29 rfl rfl (dep_of hdep 10 (by rfl))
        unfold rem3Val at E22 E29
        have n14 := not_yet hcl hf 14 (by rfl)
        obtain rfl := (hS.pre n14).symm
        have hw := HW.out
        refine g_plain rfl ?_
        exact does_value (w' := _) (v := .int .i64 (sm - y)) (by go_simp) ⟨(), .inr rfl, (hS.same 11 (by decide))⟩
      · have E19 := hval 0 _ 19 rfl rfl (dep_of hdep 0 (by rfl))
        unfold rem3Val at E19
        have n13 := not_yet hcl hf 13 (by rfl)
        have n14 := not_yet hcl n13 14 (by rfl)
        obtain rfl := (hS.pre n14).symm
        refine g_plain rfl ?_
        exact does_value (w' := _) (v := .pointer (some ⟨b1, 0, none⟩)) (by go_simp) ⟨(), .inr rfl, (hS.same 12 (by decide))⟩
      · have E31 := hval 12 _ 31 rfl rfl (dep_of hdep 12 (by rfl))
        unfold rem3Val at E31
        have n14 := not_yet hcl hf 14 (by rfl)
        obtain rfl := (hS.pre n14).symm
        refine g_plain rfl ?_
        exact does_value (w' := _) (v := .pointer (some ⟨b1, 1, none⟩)) (by go_simp) ⟨(), .inr rfl, (hS.same 13 (by decide))⟩
      · have E32 := hval 13 _ 32 rfl rfl (dep_of hdep 13 (by rfl))
        have E30 := hval 11 _ 30 rfl rfl (dep_of hdep 11 (by rfl))
        unfold rem3Val at E32 E30
        refine g_plain rfl ?_
        obtain rfl := (hS.pre hf).symm
        obtain ⟨c2, cb, hlk, hfd⟩ := HC.out
        have zb := HZ.out
        exact does_skip (w' := World.setCell _ ⟨b1, 1, none⟩ (.int .i64 (sm - y))) (by go_simp) ⟨(), .inl rfl, WrS.done rfl⟩
    · intro gh w5 hS
      have h5 := hS.post rfl
      have hr5 := HR4.out.set_ 1 (.int .i64 (sm - y)) (cn' := cn - 1) (sm' := sm - y) rfl
      rw [← h5] at hr5
      have hr6 := hr5.keep ((Below.refl _ _).drew)
      generalize hwd : w5.drew = w6 at hr6
      have HWD := hid hwd
      have HC := hid (hr6.hd.cell 2 rfl : w6.cell? ⟨s, 2, none⟩ = some (.map (some m)))
      have HKP := hid hr6.kp
      have HM := hid hr6.mp
      have HR6 := hid hr6
      clear hr6 hr5 h5 hwd hS HR4 HZ HW
      simp only [putAll, rem3Val, Nat.reduceAdd, Nat.zero_add, Act.put, List.setIfInBounds_toArray, List.set_cons_zero, List.set_cons_succ]
      go_wp2_with fail
      refine wp_region_invG 49 () (rem4Val s m r id) (fun f _ W => WrS w6 5 (fun W' => MapG lkK szK W' m n (fun z => if z = (r, id) then none else szQ q.l z) ∧ w6.grownBy W' (some m) ∧ W'.heap.size = w6.heap.size) f W) (by kernel_rfl) (by kernel_rfl) (by exact Nat.le_refl 49) ?_ ?_ ?_
      · exact (by rw [HWD.out]; exact WrS.start 6 (by decide))
      · intro i o f gh a W hi hf hdep hsame hcl hval hS
        rcases i with _ | _ | _ | _ | _ | _ | i
        all_goals simp only [List.getElem?_cons_succ, List.getElem?_cons_zero, List.getElem?_nil, Option.some.injEq, reduceCtorEq] at hi
        all_goals subst hi
        · have E0 : a.tmps[0]? = some (.pointer (some ⟨s, 0, none⟩)) := (same_of hsame 0 (by rfl)).trans rfl
          have n1 := not_yet hcl hf 1 (by rfl)
          have n2 := not_yet hcl n1 2 (by rfl)
          have n3 := not_yet hcl n2 3 (by rfl)
          have n5 := not_yet hcl n3 5 (by rfl)
          obtain rfl := (hS.pre n5).symm
          refine g_plain rfl ?_
          exact does_value (w' := _) (v := .pointer (some ⟨s, 0, none⟩)) (by go_simp) ⟨(), .inr rfl, (hS.same 0 (by decide))⟩
        · have E33 := hval 0 _ 33 rfl rfl (dep_of hdep 0 (by rfl))
          unfold rem4Val at E33
          have n2 := not_yet hcl hf 2 (by rfl)
          have n3 := not_yet hcl n2 3 (by rfl)
          have n5 := not_yet hcl n3 5 (by rfl)
          obtain rfl := (hS.pre n5).symm
          refine g_plain rfl ?_
          exact does_value (w' := _) (v := .pointer (some ⟨s, 0, none⟩)) (by go_simp) ⟨(), .inr rfl, (hS.same 1 (by decide))⟩
        · have E34 := hval 1 _ 34 rfl rfl (dep_of hdep 1 (by rfl))
          unfold rem4Val at E34
          have n3 := not_yet hcl hf 3 (by rfl)
          have n5 := not_yet hcl n3 5 (by rfl)
          obtain rfl := (hS.pre n5).symm
          refine g_plain rfl ?_
          exact does_value (w' := _) (v := .pointer (some ⟨s, 2, none⟩)) (by go_simp) ⟨(), .inr rfl, (hS.same 2 (by decide))⟩
        · have E35 := hval 2 _ 35 rfl rfl (dep_of hdep 2 (by rfl))
          unfold rem4Val at E35
          have n5 := not_yet hcl hf 5 (by rfl)
          obtain rfl := (hS.pre n5).symm
          have c2 := HC.out
          refine g_plain rfl ?_
          exact does_value (w' := _) (v := .map (some m)) (by go_simp) ⟨(), .inr rfl, (hS.same 3 (by decide))⟩
        · have E3 : a.tmps[3]? = some (.pointer (some ⟨p, 0, none⟩)) := (same_of hsame 3 (by rfl)).trans rfl
          have n5 := not_yet hcl hf 5 (by rfl)
          obtain rfl := (hS.pre n5).symm
          refine g_plain rfl ?_
          exact does_load _ _ rfl p (by rw [eval_getD, E3]; rfl) _ (HKP.out) _ Try.underlying71 rfl HSZ.out ⟨(), .inr rfl, (hS.same 4 (by decide))⟩
        · have E36 := hval 3 _ 36 rfl rfl (dep_of hdep 3 (by rfl))
          have E37 := hval 4 _ 37 rfl rfl (dep_of hdep 4 (by rfl))
          unfold rem4Val at E36 E37
          refine g_plain rfl ?_
          obtain rfl := (hS.pre hf).symm
          obtain ⟨W', hrun, hm', hg', hz'⟩ := HM.out.drop Try.underlying49 HKO.out 0
          have hrun' : (Builtin.delete_ #[49, 71] 0 #[.map (some m), kval (r, id)]).run Try.prog _ = .ok (.tuple #[]) W' := hrun
          exact does_value (w' := W') (v := .tuple #[]) (by go_simp) ⟨(), .inl rfl, WrS.done ⟨hm', hg', hz'⟩⟩
      · intro gh w7 hS
        obtain ⟨hm7, hg7, _⟩ := hS.post rfl
        have hr7 := HR6.out.del hm7 hg7
        have c0 := hr7.bu.cell 0 (v := .int .i64 (cn - 1)) rfl
        have HR7 := hid hr7
        clear hr7 hS hm7 hg7 HR6 HM HC HKP
        simp only [putAll, rem4Val, Nat.reduceAdd, Nat.zero_add, Act.put, List.setIfInBounds_toArray, List.set_cons_zero, List.set_cons_succ]
        by_cases hz : cn - 1 = 0
        · have HZZ := hid hz
          have hz2 : (cn - 1 == 0) = true := by simp [hz]
          rw [hz] at c0
          clear hz hz2
          go_wp2_with fail
          have hr8 := HR7.out.keep ((Below.refl _ _).drew)
          generalize hwd : w7.drew = w8 at hr8
          have HWD := hid hwd
          have HC := hid (⟨hr8.hd.cell 3 rfl, hr8.kp.cell 0 rfl⟩ : w8.cell? ⟨s, 3, none⟩ = some (.map (some u)) ∧ w8.cell? ⟨p, 0, none⟩ = some (.string (strB r)))
          have HM := hid hr8.us
          have HR8 := hid hr8
          clear hr8 hwd HR7 c0
          refine wp_region_invG 49 () (rem6Val s u p r) (fun f _ W => WrS w8 6 (fun W' => MapG stK ptK W' u n (fun z => if z = r then none else g z) ∧ w8.grownBy W' (some u) ∧ (Builtin.delete_ #[50, 9] 0 #[.map (some u), stK.val r]).run Try.prog w8 = .ok (.tuple #[]) W') f W) (by kernel_rfl) (by kernel_rfl) (by exact Nat.le_refl 49) ?_ ?_ ?_
          · exact (by rw [HWD.out]; exact WrS.start 7 (by decide))
          · intro i o f gh a W hi hf hdep hsame hcl hval hS
            rcases i with _ | _ | _ | _ | _ | _ | _ | i
            all_goals simp only [List.getElem?_cons_succ, List.getElem?_cons_zero, List.getElem?_nil, Option.some.injEq, reduceCtorEq] at hi
            all_goals subst hi
            · have E0 : a.tmps[0]? = some (.pointer (some ⟨s, 0, none⟩)) := (same_of hsame 0 (by rfl)).trans rfl
              have n1 := not_yet hcl hf 1 (by rfl)
              have n2 := not_yet hcl n1 2 (by rfl)
              have n3 := not_yet hcl n2 3 (by rfl)
              have n6 := not_yet hcl n3 6 (by rfl)
              obtain rfl := (hS.pre n6).symm
              refine g_plain rfl ?_
              exact does_value (w' := _) (v := .pointer (some ⟨s, 0, none⟩)) (by go_simp) ⟨(), .inr rfl, (hS.same 0 (by decide))⟩
            · have E43 := hval 0 _ 43 rfl rfl (dep_of hdep 0 (by rfl))
              unfold rem6Val at E43
              have n2 := not_yet hcl hf 2 (by rfl)
              have n3 := not_yet hcl n2 3 (by rfl)
              have n6 := not_yet hcl n3 6 (by rfl)
              obtain rfl := (hS.pre n6).symm
              refine g_plain rfl ?_
              exact does_value (w' := _) (v := .pointer (some ⟨s, 0, none⟩)) (by go_simp) ⟨(), .inr rfl, (hS.same 1 (by decide))⟩
            · have E44 := hval 1 _ 44 rfl rfl (dep_of hdep 1 (by rfl))
              unfold rem6Val at E44
              have n3 := not_yet hcl hf 3 (by rfl)
              have n6 := not_yet hcl n3 6 (by rfl)
              obtain rfl := (hS.pre n6).symm
              refine g_plain rfl ?_
              exact does_value (w' := _) (v := .pointer (some ⟨s, 3, none⟩)) (by go_simp) ⟨(), .inr rfl, (hS.same 2 (by decide))⟩
            · have E45 := hval 2 _ 45 rfl rfl (dep_of hdep 2 (by rfl))
              unfold rem6Val at E45
              have n6 := not_yet hcl hf 6 (by rfl)
              obtain rfl := (hS.pre n6).symm
              obtain ⟨c3, cp⟩ := HC.out
              refine g_plain rfl ?_
              exact does_value (w' := _) (v := .map (some u)) (by go_simp) ⟨(), .inr rfl, (hS.same 3 (by decide))⟩
            · have E3 : a.tmps[3]? = some (.pointer (some ⟨p, 0, none⟩)) := (same_of hsame 3 (by rfl)).trans rfl
              have n5 := not_yet hcl hf 5 (by rfl)
              have n6 := not_yet hcl n5 6 (by rfl)
              obtain rfl := (hS.pre n6).symm
              refine g_plain rfl ?_
              exact does_value (w' := _) (v := .pointer (some ⟨p, 0, none⟩)) (by go_simp) ⟨(), .inr rfl, (hS.same 4 (by decide))⟩
            · have E47 := hval 4 _ 47 rfl rfl (dep_of hdep 4 (by rfl))
              unfold rem6Val at E47
              have n6 := not_yet hcl hf 6 (by rfl)
              obtain rfl := (hS.pre n6).symm
              obtain ⟨c3, cp⟩ := HC.out
              refine g_plain rfl ?_
              exact does_value (w' := _) (v := .string (strB r)) (by go_simp) ⟨(), .inr rfl, (hS.same 5 (by decide))⟩
            · have E46 := hval 3 _ 46 rfl rfl (dep_of hdep 3 (by rfl))
              have E48 := hval 5 _ 48 rfl rfl (dep_of hdep 5 (by rfl))
              unfold rem6Val at E46 E48
              refine g_plain rfl ?_
              obtain rfl := (hS.pre hf).symm
              obtain ⟨W', hrun, hm', hg', hz'⟩ := HM.out.drop Try.underlying50 HRL.out 0
              have hrun' : (Builtin.delete_ #[50, 9] 0 #[.map (some u), .string (strB r)]).run Try.prog _ = .ok (.tuple #[]) W' := hrun
              exact does_value (w' := W') (v := .tuple #[]) (by go_simp) ⟨(), .inl rfl, WrS.done ⟨hm', hg', hrun⟩⟩
          · intro gh w9 hS
            obtain ⟨hu9, hg9, hrun9⟩ := hS.post rfl
            have HEnd := hid (show DelP w F s m u n q g (r, id) w9 from by
              have hr8 := HR8.out
              have hc9 : Chg [m, u, b1] w w9 := hr8.chg.trans (Chg.of_grown (L := [u]) hg9 (fun g e => (by cases e; simp))) (fun b hb => .inl (by simp at hb; simp [hb]))
              have hn := hr8.nb
              have hne := hr8.ne
              refine ⟨_, HH.out.del HKO.out HY.out HG.out hc9 (hr8.mp.grown hg9 (by simpa using Ne.symm hne.2.2.1)) (by have := hr8.bu.grown hg9 (by simpa using Ne.symm hn.2.2.1); rw [HC0.out, HS0.out]; exact this) hu9 (by rw [HC0.out, if_pos HZZ.out]), hc9.more (fun b hb => .inl (by simp at hb; rcases hb with rfl | rfl | rfl <;> first | exact HH.out.ins.2.1 | exact HH.out.ins.2.2 | exact HBF.out)), fun j todo hr htf => ?_⟩
              obtain ⟨h1, h2⟩ := hr8.ran j todo hr
              obtain ⟨w', hd, h3, h4, -, -⟩ := h1.drop Try.underlying50 (k := r) HRL.out 0
              have e := hrun9.symm.trans hd
              simp only [Result.ok.injEq, true_and] at e
              subst e
              exact ⟨h3.congr (fun _ _ => rfl) (fun z _ => by
                by_cases ez : z = r
                · subst ez
                  have : todo z = false := htf
                  simp [this]
                · simp [ez]), by omega⟩)
            clear hu9 hg9 hrun9 hS HR8 HM HC
            simp only [putAll, rem6Val, Nat.reduceAdd, Nat.zero_add, Act.put, List.setIfInBounds_toArray, List.set_cons_zero, List.set_cons_succ]
            go_wp2_with fail
            go_end0
            exact ⟨rfl, HEnd.out⟩
        · have hz2 : (cn - 1 == 0) = false := by simpa using hz
          have HEnd := hid (show DelP w F s m u n q g (r, id) w7 from by
            have hr7 := HR7.out
            refine ⟨g, HH.out.del HKO.out HY.out HG.out hr7.chg hr7.mp (by rw [HC0.out, HS0.out]; exact hr7.bu) hr7.us (by rw [HC0.out, if_neg hz]), hr7.chg.more (fun b hb => .inl (by simp at hb; rcases hb with rfl | rfl | rfl <;> first | exact HH.out.ins.2.1 | exact HH.out.ins.2.2 | exact HBF.out)), fun j todo hr _ => ?_⟩
            obtain ⟨h1, h2⟩ := hr7.ran j todo hr
            exact ⟨h1, Nat.le_of_eq h2⟩)
          clear HR7
          go_wp2_with fail
          go_end0
          exact ⟨rfl, HEnd.out⟩
theorem qunlink_none (h : Value) (r : List UInt8) (id : List UInt8) (hl : id.length = 32) (hn : NoObj w h) : Calls Try.prog 16 #[h, .string (strB r), .agg (bcells id)] w fun e w' => e = .returned (.bool false) ∧ Below w.heap.size w w' := by
  have hbx := below_new w (.cells (bcells id) 32)
  have HKX := hid (Blk.new w 32 (bcells id))
  have HV := hid (qhas_none h (.string (strB r)) id (w := w.alloc (.cells (bcells id) 32)) (hn.keep hbx))
  have HSZ := hid (size32 hl)
  have HB := hid hbx
  obtain ⟨pp, rfl⟩ := noObj_ptr hn
  clear hn hl hbx
  go_enter Try.func16, Try.ntmps16
  go_wp2_with (refine wpList_load_row rfl 32 _ rfl _ rfl _ _ _ _ HKX.out Try.underlying32 rfl HSZ.out ?_)
  refine HV.out.mono ?_
  rintro _ w2 ⟨rfl, hb2⟩
  have HB2 := hid (HB.out.trans (hb2.mono HB.out.size))
  clear hb2 HB HV HKX
  go_wp2_with fail
  go_ret
  exact ⟨rfl, HB2.out⟩
theorem DelP.lift {k : LKey} {W : World} (h : DelP W F s m u n q g k w') (hb : Below w.heap.size w W) : DelP w F s m u n q g k w' := by
  obtain ⟨g', h1, h2, h3⟩ := h
  refine ⟨g', h1, (Chg.of_below (L := F) hb).trans h2 (fun b hb' => .inl hb'), fun j todo hr ht => ?_⟩
  obtain ⟨h4, h5⟩ := hr.keep hb
  obtain ⟨h6, h7⟩ := h3 j todo h4 ht
  exact ⟨h6, by omega⟩
/-- what Unlink does -/
def UnlP (w : World) (F : List Nat) (s m u n : Nat) (q : QS) (g : List UInt8 → Option Nat) (k : LKey) (e : Ending) (w' : World) : Prop :=
  match szQ q.l k with
  | none => e = .returned (.bool false) ∧ Below w.heap.size w w'
  | some _ => e = .returned (.bool true) ∧ DelP w F s m u n q g k w'
set_option maxRecDepth 20000 in
theorem qunlink_calls (h : QtB w F s m u n q g) (r id : List UInt8) (hk : kok (r, id)) : Calls Try.prog 16 #[.pointer (some ⟨s, 0, none⟩), .string (strB r), .agg (bcells id)] w (UnlP w F s m u n q g (r, id)) := by
  have hbx := below_new w (.cells (bcells id) 32)
  have HKX := hid (Blk.new w 32 (bcells id))
  have HV := hid (qhas_calls (h.keep hbx) (r, id) hk)
  have HSZ := hid (size32 hk.2)
  have HBL := hid (fun W => run_build_link (r, id) hk.2 W)
  have HB := hid hbx
  have HH := hid h; have HK := hid hk
  clear h hk hbx
  go_enter Try.func16, Try.ntmps16
  go_wp2_with (refine wpList_load_row rfl 32 _ rfl _ rfl _ _ _ _ HKX.out Try.underlying32 rfl HSZ.out ?_)
  refine HV.out.mono ?_
  rintro _ w2 ⟨rfl, hb2⟩
  have HB2 := hid (HB.out.trans (hb2.mono HB.out.size))
  have HK2 := hid (HKX.out.keep hb2)
  clear hb2 HB HV HKX
  cases hsz : szQ q.l (r, id) with
  | none =>
    have HEnd := hid (show UnlP w F s m u n q g (r, id) (.returned (.bool false)) w2 from by
      unfold UnlP
      rw [hsz]
      exact ⟨rfl, HB2.out⟩)
    clear hsz
    simp only [Option.isSome_none]
    go_wp2_with fail
    go_ret
    exact HEnd.out
  | some y =>
    have HR := hid (qremove_calls (HH.out.keep HB2.out) r id HK.out y hsz)
    have HEnd := hid (show ∀ w3, DelP w2 F s m u n q g (r, id) w3 → UnlP w F s m u n q g (r, id) (.returned (.bool true)) w3 from fun w3 hd => by
      unfold UnlP
      rw [hsz]
      exact ⟨rfl, hd.lift HB2.out⟩)
    clear hsz
    simp only [Option.isSome_some]
    go_wp2_with (first | (refine wpList_load_row rfl 32 _ rfl _ rfl _ _ _ _ HK2.out Try.underlying32 rfl HSZ.out ?_) | (refine wpList_bld rfl 71 _ rfl (ps := #[(0, .string (strB r)), (1, .agg (bcells id))]) (by simp only [List.map_toArray, List.map_cons, List.map_nil]; rfl) (HBL.out _) ?_))
    refine HR.out.mono ?_
    rintro _ w3 ⟨rfl, hd⟩
    have HX := hid (HEnd.out w3 hd)
    clear hd HEnd HR
    go_wp2_with fail
    go_ret
    exact HX.out
end
end Go.Proofs.Ytjgnbmkhibdcfaa
