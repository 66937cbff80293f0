/- Contracts: a new session; the name of a repository. -/
import Derived.Test.YtgacdimjbpkgoaaDoorUpSess
namespace Go.Proofs.YtgacdimjbpkgoaaDoor
open Go.RowKit

structure NsS (w1 : World) (z : Int) (r : ByteArray) (f : Nat → Bool) (gh : Nat → Value) (W : World) : Prop where
  below : Below w1.heap.size w1 W
  bx : f 6 = true → ∃ q, gh 6 = .pointer (some ⟨q, 0, none⟩) ∧ w1.heap.size ≤ q ∧ Blk W q 74 #[.int .i64 z, .string r, .slice none 0 0, .int .i64 0]
  la : f 7 = true → f 6 = true ∧ gh 7 = gh 6
section
variable {w1 W W' : World} {z : Int} {r : ByteArray} {f : Nat → Bool} {gh : Nat → Value}
theorem NsS.start : NsS w1 z r (fun j => decide (8 ≤ j)) (fun _ => .pointer none) w1.drew := ⟨(Below.refl _ _).drew, fun h => absurd h (by decide), fun h => absurd h (by decide)⟩
theorem NsS.step (h : NsS w1 z r f gh W) (hb : Below W.heap.size W W') (i : Nat) (v : Value) (n1 : 6 ≠ i ∧ 7 ≠ i) : NsS w1 z r (upd f i) (updN gh i v) W' :=
  ⟨h.below.trans (hb.mono h.below.size), fun e => by
    rw [ap_ne n1.1] at e; rw [apN_ne n1.1]
    obtain ⟨q, k1, k2, k3⟩ := h.bx e
    exact ⟨q, k1, k2, k3.keep hb⟩, fun e => by
    rw [ap_ne n1.2] at e; rw [ap_ne n1.1, apN_ne n1.1, apN_ne n1.2]
    exact h.la e⟩
theorem NsS.box (h : NsS w1 z r f gh W) (hf : f 6 = false) : NsS w1 z r (upd f 6) (updN gh 6 (.pointer (some ⟨W.heap.size, 0, none⟩))) (W.alloc (.cells #[.int .i64 z, .string r, .slice none 0 0, .int .i64 0] 74)) :=
  ⟨h.below.trans ((below_new W _).mono h.below.size), fun _ => by
    rw [apN_eq]
    exact ⟨_, rfl, h.below.size, Blk.new _ _ _⟩, fun e => by
    rw [ap_ne (by decide)] at e
    have := (h.la e).1
    rw [hf] at this
    cases this⟩
theorem NsS.last (h : NsS w1 z r f gh W) {q : Nat} (h6 : f 6 = true) (he : gh 6 = .pointer (some ⟨q, 0, none⟩)) : NsS w1 z r (upd f 7) (updN gh 7 (.pointer (some ⟨q, 0, none⟩))) W :=
  ⟨h.below, fun e => by rw [ap_ne (by decide)] at e; rw [apN_ne (by decide)]; exact h.bx e, fun _ => by rw [ap_ne (by decide), apN_eq, apN_ne (by decide)]; exact ⟨h6, he.symm⟩⟩
theorem SessB.lower {w : World} {base base' q : Nat} {s : US} {pv : Value} {us : List Value} (h : SessB w base q s pv us) (hb : base' ≤ base) : SessB w base' q s pv us := ⟨h.hd, h.recs.lower hb, h.far, Nat.le_trans hb h.hq, h.pos⟩
end
def newVal (p : Nat) (z : Int) (r : ByteArray) : Nat → Value → Value
  | 0, _ => .pointer (some ⟨p, 0, none⟩)
  | 1, _ => .int .i64 z
  | 2, _ => .pointer (some ⟨p, 1, none⟩)
  | 3, _ => .string r
  | 4, _ => .string r
  | 5, _ => .agg #[.int .i64 z, .string r, .slice none 0 0, .int .i64 0]
  | 6, k => k
  | 7, k => k
  | _, _ => undef
def US.mk' (z : Int) (r : ByteArray) (bs : List UInt8) : US := (US.mk z r []).push bs
set_option maxRecDepth 20000 in
set_option maxHeartbeats 4000000 in
theorem up_new (z : Int) (r : ByteArray) (A : Option Addr) (n c B : Nat) (bs : List UInt8) (w : World) (hs : SB w B A n bs) (hn : n ≤ 1000000) (hr : r.size ≤ 281474976710656) :
    Calls Tryd.prog 30 #[.agg #[.int .i64 z, .string r, .slice A n c]] w fun e w' => ∃ q pv us, e = .returned (.pointer (some ⟨q, 0, none⟩)) ∧ SessB w' w.heap.size q (US.mk' z r bs) pv us ∧ Below w.heap.size w w' := by
  have kb := Blk.new w 37 #[.int .i64 z, .string r, .slice A n c]
  have bb := below_new w (.cells #[.int .i64 z, .string r, .slice A n c] 37)
  have hs1 := hs.keep bb
  have HW := hid (show w.heap.size + 1 = (w.alloc (.cells #[.int .i64 z, .string r, .slice A n c] 37)).heap.size by simp)
  have HR := hid hr
  clear hs
  go_enter Tryd.func30, Tryd.ntmps30
  go_wp2_with fail
  obtain ⟨p, hp⟩ : ∃ p, w.heap.size = p := ⟨_, rfl⟩
  have HP := hid hp
  rw [hp] at kb HW ⊢
  clear hp
  generalize w.alloc (.cells #[.int .i64 z, .string r, .slice A n c] 37) = w1 at kb bb hs1 HW ⊢
  have HK := hid kb; have HB := hid bb; have HS := hid hs1
  clear kb bb hs1
  refine wp_region_invG 16 (.pointer none) (newVal p z r) (NsS w1 z r) (by kernel_rfl) (by kernel_rfl) (by exact Nat.le_refl 16) ?_ ?_ ?_
  · exact NsS.start
  · intro i o f gh a W hi hf hdep hsame hcl hval hS
    rcases i with _ | _ | _ | _ | _ | _ | _ | _ | i
    all_goals simp only [List.getElem?_cons_succ, List.getElem?_cons_zero, List.getElem?_nil, Option.some.injEq, reduceCtorEq] at hi
    all_goals subst hi
    · have E1 : a.tmps[1]? = some (.pointer (some ⟨p, 0, none⟩)) := (same_of hsame 1 (by rfl)).trans rfl
      refine g_plain rfl ?_
      exact does_value (w' := W) (v := .pointer (some ⟨p, 0, none⟩)) (by go_simp) ⟨.pointer none, .inr rfl, hS.step (Below.refl _ _) 0 (.pointer none) (by decide)⟩
    · have E4 := hval 0 _ 4 rfl rfl (dep_of hdep 0 (by rfl))
      unfold newVal at E4
      have c0 := (HK.out.keep hS.below).cell 0 rfl
      refine g_plain rfl ?_
      exact does_value (w' := W) (v := .int .i64 z) (by go_simp) ⟨.pointer none, .inr rfl, hS.step (Below.refl _ _) 1 (.pointer none) (by decide)⟩
    · have E1 : a.tmps[1]? = some (.pointer (some ⟨p, 0, none⟩)) := (same_of hsame 1 (by rfl)).trans rfl
      refine g_plain rfl ?_
      exact does_value (w' := W) (v := .pointer (some ⟨p, 1, none⟩)) (by go_simp) ⟨.pointer none, .inr rfl, hS.step (Below.refl _ _) 2 (.pointer none) (by decide)⟩
    · have E6 := hval 2 _ 6 rfl rfl (dep_of hdep 2 (by rfl))
      unfold newVal at E6
      have c0 := (HK.out.keep hS.below).cell 1 rfl
      refine g_plain rfl ?_
      exact does_value (w' := W) (v := .string r) (by go_simp) ⟨.pointer none, .inr rfl, hS.step (Below.refl _ _) 3 (.pointer none) (by decide)⟩
    · have E7 := hval 3 _ 7 rfl rfl (dep_of hdep 3 (by rfl))
      unfold newVal at E7
      refine g_plain rfl ?_
      refine does_call 47 #[.string r] (by go_simp) ((up_clone r W HR.out).mono ?_)
      rintro _ W' ⟨rfl, hb⟩
      exact ⟨_, rfl, .pointer none, .inr rfl, hS.step hb 4 (.pointer none) (by decide)⟩
    · have E5 := hval 1 _ 5 rfl rfl (dep_of hdep 1 (by rfl))
      have E8 := hval 4 _ 8 rfl rfl (dep_of hdep 4 (by rfl))
      unfold newVal at E5 E8
      refine g_plain rfl ?_
      exact does_value (w' := W) (v := .agg #[.int .i64 z, .string r, .slice none 0 0, .int .i64 0]) (by go_simp) ⟨.pointer none, .inr rfl, hS.step (Below.refl _ _) 5 (.pointer none) (by decide)⟩
    · have E9 := hval 5 _ 9 rfl rfl (dep_of hdep 5 (by rfl))
      unfold newVal at E9
      refine g_plain rfl ?_
      exact does_value (w' := W.alloc (.cells #[.int .i64 z, .string r, .slice none 0 0, .int .i64 0] 74)) (v := .pointer (some ⟨W.heap.size, 0, none⟩)) (by go_simp) ⟨.pointer (some ⟨W.heap.size, 0, none⟩), .inr rfl, hS.box hf⟩
    · have E10 := hval 6 _ 10 rfl rfl (dep_of hdep 6 (by rfl))
      unfold newVal at E10
      refine g_plain rfl ?_
      obtain ⟨q, eq, -, -⟩ := hS.bx (dep_of hdep 6 (by rfl))
      rw [eq] at E10
      exact does_value (w' := W) (v := .pointer (some ⟨q, 0, none⟩)) (by go_simp) ⟨.pointer (some ⟨q, 0, none⟩), .inr rfl, hS.last (dep_of hdep 6 (by rfl)) eq⟩
  · intro gh W hS
    obtain ⟨q, e6, hq, hbq⟩ := hS.bx rfl
    obtain ⟨-, e7⟩ := hS.la rfl
    rw [e6] at e7
    have hbel := hS.below
    have hse : SessB W w1.heap.size q (US.mk z r []) (.slice none 0 0) [] := ⟨hbq, Recs.nil _ _, fun b hb => (by
      rcases hb with hb | ⟨u, hu, _⟩
      · cases hb
      · cases hu), hq, fun x hx => (by cases hx)⟩
    have HA := hid (up_add A n c B bs hse hbel.size (HS.out.keep hbel) (by simpa [US.len] using hn))
    have c2 : W.cell? ⟨p, 2, none⟩ = some (.slice A n c) := (HK.out.keep hbel).cell 2 rfl
    have HBE := hid hbel
    have HSZ := hid hse
    simp only [putAll, newVal, Nat.reduceAdd, Nat.zero_add, Act.put, List.setIfInBounds_toArray, List.set_cons_zero, List.set_cons_succ]
    rw [e7]
    clear hS e6 e7 hq hbq hbel hse
    go_wp2_with fail
    refine HA.out.mono ?_
    rintro _ w2 ⟨rfl, pv, us, hse, hch, hbl⟩
    have HE := hid hse; have HC := hid hch; have HL := hid hbl
    clear hse hch hbl HA c2
    go_wp2_with fail
    go_ret
    have h0 := HB.out.size
    have h1 := HSZ.out.hq
    have h2 := HP.out
    exact ⟨q, pv, us, rfl, HE.out.lower (by omega), (HB.out.trans (HBE.out.mono (by omega))).trans (HC.out.below (B := w.heap.size) (fun b hb => by simp [Value.ownBlock] at hb; omega) (by have := HBE.out.size; omega))⟩
end Go.Proofs.YtgacdimjbpkgoaaDoor
