/- Contracts: a new session; the name of a repository. -/
import Derived.Test.YtgacdimjbpkgoaaDoorUpSess
namespace Go.Proofs.YtgacdimjbpkgoaaDoor
open Go.RowKit

structure NsS (w1 : World) (z : Int) (r : ByteArray) (f : Nat → Bool) (gh : Nat → Value) (W : World) : Prop where
  below : Below w1.heap.size w1 W
  bx : f 6 = true → ∃ q, gh 6 = .pointer (some ⟨q, 0, none⟩) ∧ w1.heap.size ≤ q ∧ Blk W q 74 #[.int .i64 z, .string r, .slice none 0 0, .int .i64 0]
  la : f 7 = true → f 6 = true ∧ gh 7 = gh 6
section
variable {w1 W W' : World} {z : Int} {r : ByteArray} {f : Nat → Bool} {gh : Nat → Value}
theorem NsS.start : NsS w1 z r (fun j => decide (8 ≤ j)) (fun _ => .pointer none) w1.drew := ⟨(Below.refl _ _).drew, fun h => absurd h (by decide), fun h => absurd h (by decide)⟩
theorem NsS.step (h : NsS w1 z r f gh W) (hb : Below W.heap.size W W') (i : Nat) (v : Value) (n1 : 6 ≠ i ∧ 7 ≠ i) : NsS w1 z r (upd f i) (updN gh i v) W' :=
  ⟨h.below.trans (hb.mono h.below.size), fun e => by
    rw [ap_ne n1.1] at e; rw [apN_ne n1.1]
    obtain ⟨q, k1, k2, k3⟩ := h.bx e
    exact ⟨q, k1, k2, k3.keep hb⟩, fun e => by
    rw [ap_ne n1.2] at e; rw [ap_ne n1.1, apN_ne n1.1, apN_ne n1.2]
    exact h.la e⟩
theorem NsS.box (h : NsS w1 z r f gh W) (hf : f 6 = false) : NsS w1 z r (upd f 6) (updN gh 6 (.pointer (some ⟨W.heap.size, 0, none⟩))) (W.alloc (.cells #[.int .i64 z, .string r, .slice none 0 0, .int .i64 0] 74)) :=
  ⟨h.below.trans ((below_new W _).mono h.below.size), fun _ => by
    rw [apN_eq]
    exact ⟨_, rfl, h.below.size, Blk.new _ _ _⟩, fun e => by
    rw [ap_ne (by decide)] at e
    have := (h.la e).1
    rw [hf] at this
    cases this⟩
theorem NsS.last (h : NsS w1 z r f gh W) {q : Nat} (h6 : f 6 = true) (he : gh 6 = .pointer (some ⟨q, 0, none⟩)) : NsS w1 z r (upd f 7) (updN gh 7 (.pointer (some ⟨q, 0, none⟩))) W :=
  ⟨h.below, fun e => by rw [ap_ne (by decide)] at e; rw [apN_ne (by decide)]; exact h.bx e, fun _ => by rw [ap_ne (by decide), apN_eq, apN_ne (by decide)]; exact ⟨h6, he.symm⟩⟩
theorem SessB.lower {w : World} {base base' q : Nat} {s : US} {pv : Value} {us : List Value} (h : SessB w base q s pv us) (hb : base' ≤ base) : SessB w base' q s pv us := ⟨h.hd, h.recs.lower hb, h.far, Nat.le_trans hb h.hq, h.pos⟩
end
def newVal (p : Nat) (z : Int) (r : ByteArray) : Nat → Value → Value
  | 0, _ => .pointer (some ⟨p, 0, none⟩)
  | 1, _ => .int .i64 z
  | 2, _ => .pointer (some ⟨p, 1, none⟩)
  | 3, _ => .string r
  | 4, _ => .string r
  | 5, _ => .agg #[.int .i64 z, .string r, .slice none 0 0, .int .i64 0]
  | 6, k => k
  | 7, k => k
  | _, _ => undef
def US.mk' (z : Int) (r : ByteArray) (bs : List UInt8) : US := (US.mk z r []).push bs
set_option maxRecDepth 20000 in
set_option maxHeartbeats 4000000 in
theorem up_new (z : Int) (r : ByteArray) (A : Option Addr) (n c B : Nat) (bs : List UInt8) (w : World) (hs : SB w B A n bs) (hn : n ≤ 1000000) (hr : r.size ≤ 281474976710656) :
    Calls Tryd.prog 30 #[.agg #[.int .i64 z, .string r, .slice A n c]] w fun e w' => ∃ q pv us, e = .returned (.pointer (some ⟨q, 0, none⟩)) ∧ SessB w' w.heap.size q (US.mk' z r bs) pv us ∧ Below w.heap.size w w' := by
  have kb := Blk.new w 37 #[.int .i64 z, .string r, .slice A n c]
  have bb := below_new w (.cells #[.int .i64 z, .string r, .slice A n c] 37)
  have hs1 := hs.keep bb
  have HW := hid (show w.heap.size + 1 = (w.alloc (.cells #[.int .i64 z, .string r, .slice A n c] 37)).heap.size by simp)
  have HR := hid hr
  clear hs
  go_enter Tryd.func30, Tryd.ntmps30
  go_wp2_with fail
  obtain ⟨p, hp⟩ : ∃ p, w.heap.size = p := ⟨_, rfl⟩
  have HP := hid hp
  rw [hp] at kb HW ⊢
  clear hp
  generalize w.alloc (.cells #[.int .i64 z, .string r, .slice A n c] 37) = w1 at kb bb hs1 HW ⊢
  have HK := hid kb; have HB := hid bb; have HS := hid hs1
  clear kb bb hs1
  refine wp_region_invG 16 (.pointer none) (newVal p z r) (NsS w1 z r) (by kernel_rfl) (by kernel_rfl) (by exact Nat.le_refl 16) ?_ ?_ ?_
  · exact NsS.start
  · intro i o f gh a W hi hf hdep hsame hcl hval hS
    rcases i with _ | _ | _ | _ | _ | _ | _ | _ | i
    all_goals simp only [List.getElem?_cons_succ, List.getElem?_cons_zero, List.getElem?_nil, Option.some.injEq, reduceCtorEq] at hi
    all_goals subst hi
    · have E1 : a.tmps[1]? = some (.pointer (some ⟨p, 0, none⟩)) := (same_of hsame 1 (by rfl)).trans rfl
      refine g_plain rfl ?_
      exact does_value (w' := W) (v := .pointer (some ⟨p, 0, none⟩)) (by go_simp) ⟨.pointer none, .inr rfl, hS.step (Below.refl _ _) 0 (.pointer none) (by decide)⟩
    · have E4 := hval 0 _ 4 rfl rfl (dep_of hdep 0 (by rfl))
      unfold newVal at E4
      have c0 := (HK.out.keep hS.below).cell 0 rfl
      refine g_plain rfl ?_
      exact does_value (w' := W) (v := .int .i64 z) (by go_simp) ⟨.pointer none, .inr rfl, hS.step (Below.refl _ _) 1 (.pointer none) (by decide)⟩
    · have E1 : a.tmps[1]? = some (.pointer (some ⟨p, 0, none⟩)) := (same_of hsame 1 (by rfl)).trans rfl
      refine g_plain rfl ?_
      exact does_value (w' := W) (v := .pointer (some ⟨p, 1, none⟩)) (by go_simp) ⟨.pointer none, .inr rfl, hS.step (Below.refl _ _) 2 (.pointer none) (by decide)⟩
    · have E6 := hval 2 _ 6 rfl rfl (dep_of hdep 2 (by rfl))
      unfold newVal at E6
      have c0 := (HK.out.keep hS.below).cell 1 rfl
      refine g_plain rfl ?_
      exact does_value (w' := W) (v := .string r) (by go_simp) ⟨.pointer none, .inr rfl, hS.step (Below.refl _ _) 3 (.pointer none) (by decide)⟩
    · have E7 := hval 3 _ 7 rfl rfl (dep_of hdep 3 (by rfl))
      unfold newVal at E7
      refine g_plain rfl ?_
      refine does_call 47 #[.string r] (by go_simp) ((up_clone r W HR.out).mono ?_)
      rintro _ W' ⟨rfl, hb⟩
      exact ⟨_, rfl, .pointer none, .inr rfl, hS.step hb 4 (.pointer none) (by decide)⟩
    · have E5 := hval 1 _ 5 rfl rfl (dep_of hdep 1 (by rfl))
      have E8 := hval 4 _ 8 rfl rfl (dep_of hdep 4 (by rfl))
      unfold newVal at E5 E8
      refine g_plain rfl ?_
      exact does_value (w' := W) (v := .agg #[.int .i64 z, .string r, .slice none 0 0, .int .i64 0]) (by go_simp) ⟨.pointer none, .inr rfl, hS.step (Below.refl _ _) 5 (.pointer none) (by decide)⟩
    · have E9 := hval 5 _ 9 rfl rfl (dep_of hdep 5 (by rfl))
      unfold newVal at E9
      refine g_plain rfl ?_
      exact does_value (w' := W.alloc (.cells #[.int .i64 z, .string r, .slice none 0 0, .int .i64 0] 74)) (v := .pointer (some ⟨W.heap.size, 0, none⟩)) (by go_simp) ⟨.pointer (some ⟨W.heap.size, 0, none⟩), .inr rfl, hS.box hf⟩
    · have E10 := hval 6 _ 10 rfl rfl (dep_of hdep 6 (by rfl))
      unfold newVal at E10
      refine g_plain rfl ?_
      obtain ⟨q, eq, -, -⟩ := hS.bx (dep_of hdep 6 (by rfl))
      rw [eq] at E10
      exact does_value (w' := W) (v := .pointer (some ⟨q, 0, none⟩)) (by go_simp) ⟨.pointer (some ⟨q, 0, none⟩), .inr rfl, hS.last (dep_of hdep 6 (by rfl)) eq⟩
  · intro gh W hS
    obtain ⟨q, e6, hq, hbq⟩ := hS.bx rfl
    obtain ⟨-, e7⟩ := hS.la rfl
    rw [e6] at e7
    have hbel := hS.below
    have hse : SessB W w1.heap.size q (US.mk z r []) (.slice none 0 0) [] := ⟨hbq, Recs.nil _ _, fun b hb => (by
      rcases hb with hb | ⟨u, hu, _⟩
      · cases hb
      · cases hu), hq, fun x hx => (by cases hx)⟩
    have HA := hid (up_add A n c B bs hse hbel.size (HS.out.keep hbel) (by simpa [US.len] using hn))
    have c2 : W.cell? ⟨p, 2, none⟩ = some (.slice A n c) := (HK.out.keep hbel).cell 2 rfl
    have HBE := hid hbel
    have HSZ := hid hse
    simp only [putAll, newVal, Nat.reduceAdd, Nat.zero_add, Act.put, List.setIfInBounds_toArray, List.set_cons_zero, List.set_cons_succ]
    rw [e7]
    clear hS e6 e7 hq hbq hbel hse
    go_wp2_with fail
    refine HA.out.mono ?_
    rintro _ w2 ⟨rfl, pv, us, hse, hch, hbl⟩
    have HE := hid hse; have HC := hid hch; have HL := hid hbl
    clear hse hch hbl HA c2
    go_wp2_with fail
    go_ret
    have h0 := HB.out.size
    have h1 := HSZ.out.hq
    have h2 := HP.out
    exact ⟨q, pv, us, rfl, HE.out.lower (by omega), (HB.out.trans (HBE.out.mono (by omega))).trans (HC.out.below (B := w.heap.size) (fun b hb => by simp [Value.ownBlock] at hb; omega) (by have := HBE.out.size; omega))⟩
end Go.Proofs.YtgacdimjbpkgoaaDoor
/- Contracts: sessions are found by their numbers. -/
namespace Go.Proofs.YtgacdimjbpkgoaaDoor
open Go.RowKit

def cmpI (a b : Int) : Int := if a < b then -1 else if b < a then 1 else 0
theorem up_isNaN (a : Int) (w : World) : Calls Tryd.prog 81 #[.int .i64 a] w fun e w' => e = .returned (.bool false) ∧ w = w' := by
  go_enter Tryd.func81, Tryd.ntmps81
  go_wp2_with fail
  go_ret
  exact ⟨rfl, rfl⟩
theorem up_cmp (a b : Int) (w : World) : Calls Tryd.prog 71 #[.int .i64 a, .int .i64 b] w fun e w' => e = .returned (.int .i64 (cmpI a b)) ∧ w = w' := by
  by_cases h1 : a < b
  · rw [show cmpI a b = -1 from if_pos h1]
    go_enter Tryd.func71, Tryd.ntmps71
    go_wp2_with fail
    refine (up_isNaN a w).mono ?_
    rintro _ _ ⟨rfl, rfl⟩
    go_wp2_with fail
    refine (up_isNaN b w).mono ?_
    rintro _ _ ⟨rfl, rfl⟩
    go_wp2_with fail
    go_ret
    exact ⟨rfl, rfl⟩
  · by_cases h2 : b < a
    · rw [show cmpI a b = 1 from (if_neg h1).trans (if_pos h2)]
      go_enter Tryd.func71, Tryd.ntmps71
      go_wp2_with fail
      refine (up_isNaN a w).mono ?_
      rintro _ _ ⟨rfl, rfl⟩
      go_wp2_with fail
      refine (up_isNaN b w).mono ?_
      rintro _ _ ⟨rfl, rfl⟩
      go_wp2_with fail
      go_ret
      exact ⟨rfl, rfl⟩
    · rw [show cmpI a b = 0 from (if_neg h1).trans (if_neg h2)]
      go_enter Tryd.func71, Tryd.ntmps71
      go_wp2_with fail
      refine (up_isNaN a w).mono ?_
      rintro _ _ ⟨rfl, rfl⟩
      go_wp2_with fail
      refine (up_isNaN b w).mono ?_
      rintro _ _ ⟨rfl, rfl⟩
      go_wp2_with fail
      go_ret
      exact ⟨rfl, rfl⟩
theorem up_compare (q : Nat) (cs : Array Value) (z x : Int) (w : World) (h : Blk w q 74 cs) (hz : cs[0]? = some (.int .i64 z)) :
    Calls Tryd.prog 60 #[.pointer (some ⟨q, 0, none⟩), .int .i64 x] w fun e w' => e = .returned (.int .i64 (cmpI z x)) ∧ w = w' := by
  have c0 : w.cell? ⟨q, 0, none⟩ = some (.int .i64 z) := h.cell 0 hz
  clear h
  go_enter Tryd.func60, Tryd.ntmps60
  go_wp2_with fail
  refine (up_cmp z x w).mono ?_
  rintro _ _ ⟨rfl, rfl⟩
  go_wp2_with fail
  go_ret
  exact ⟨rfl, rfl⟩
/-- how many are ahead of a number -/
def aheadN (ns : List Int) (x : Int) : Nat := (ns.takeWhile fun z => decide (z < x)).length
theorem ahead_eq (ns : List Int) (x : Int) : ∀ a : Nat, a ≤ ns.length → (∀ (k : Nat) (z : Int), ns[k]? = some z → k < a → z < x) → (∀ (k : Nat) (z : Int), ns[k]? = some z → a ≤ k → x ≤ z) → aheadN ns x = a := by
  induction ns with
  | nil => intro a h _ _; simp at h; subst h; rfl
  | cons y r ih =>
    intro a h hA hB
    cases a with
    | zero =>
      have := hB 0 y rfl (Nat.le_refl _)
      unfold aheadN
      rw [List.takeWhile_cons, if_neg (by simp; omega)]
      rfl
    | succ a =>
      have h1 := hA 0 y rfl (by omega)
      have h2 := ih a (by simp at h; omega) (fun k z hk hka => hA (k + 1) z (by simpa using hk) (by omega)) (fun k z hk hka => hB (k + 1) z (by simpa using hk) (by omega))
      unfold aheadN at h2 ⊢
      rw [List.takeWhile_cons, if_pos (by simpa using h1), List.length_cons, h2]
set_option maxHeartbeats 2000000 in
theorem up_bsearch (A : Option Addr) (c : Nat) (ns : List Int) (x : Int) (w : World) (hn : ns.length ≤ 1000000)
    (hcell : ∀ k z, ns[k]? = some z → ∃ b off q cs, A = some ⟨b, off, none⟩ ∧ w.cell? ⟨b, off + k, none⟩ = some (.pointer (some ⟨q, 0, none⟩)) ∧ Blk w q 74 cs ∧ cs[0]? = some (.int .i64 z)) (hs : ns.Pairwise (· < ·)) :
    Calls Tryd.prog 59 #[.slice A ns.length c, .int .i64 x, .func (.func 60) #[] #[]] w fun e w' => e = .returned (.tuple #[.int .i64 (aheadN ns x : Int), .bool (ns[aheadN ns x]? == some x)]) ∧ w = w' := by
  have HC := hid hcell; have HS := hid hs; have HN := hid hn
  obtain ⟨R, hR⟩ : ∃ R, aheadN ns x = R := ⟨_, rfl⟩
  obtain ⟨fb, hfb⟩ : ∃ fb, (ns[R]? == some x) = fb := ⟨_, rfl⟩
  rw [hR, hfb]
  have HR := hid hR; have HF := hid hfb
  clear hcell hs hn hR hfb
  go_enter Tryd.func59, Tryd.ntmps59
  go_wp2_with fail
  go_loopw [9, 10, 11] (fun i j _ wr => wr = w ∧ ∃ a b : Nat, i = .int .i64 (a : Int) ∧ j = .int .i64 (b : Int) ∧ a ≤ b ∧ b ≤ ns.length ∧ Hid (∀ k z, ns[k]? = some z → k < a → z < x) ∧ Hid (∀ k z, ns[k]? = some z → b ≤ k → x ≤ z)) (fun i j _ _ => (intOf j).toNat - (intOf i).toNat)
  case atStart => exact ⟨rfl, 0, ns.length, rfl, rfl, Nat.zero_le _, Nat.le_refl _, hid (fun k z _ h => absurd h (Nat.not_lt_zero _)), hid (fun k z hk h => absurd (List.getElem?_eq_some_iff.1 hk).1 (by omega))⟩
  case round =>
    obtain ⟨rfl, a, b, rfl, rfl, hab, hb, HA, HB⟩ := hrel
    by_cases hlt : a < b
    · have hlt' : (a : Int) < (b : Int) := by omega
      have hsum : IntKind.i64.wrap ((a : Int) + (b : Int)) = ((a + b : Nat) : Int) := by have := HN.out; rw [IntWalk.i64_in _ (by omega)]; omega
      obtain ⟨m, hm⟩ : ∃ m, (a + b) / 2 = m := ⟨_, rfl⟩
      have hm2 : wrap64 (IntKind.u64.wrap ((a : Int) + (b : Int)) / 2) = (m : Int) := by
        have := HN.out
        rw [IntWalk.u64_in _ (by omega)]
        unfold wrap64
        omega
      have hml : m < ns.length := by omega
      have hm0 : (0 : Int) ≤ (m : Int) := by omega
      have hm1 : (m : Int) < (ns.length : Int) := by omega
      have hms : IntKind.i64.wrap ((m : Int) + 1) = ((m + 1 : Nat) : Int) := by have := HN.out; rw [IntWalk.i64_in _ (by omega)]; omega
      have hmb : a ≤ m ∧ m < b := by omega
      obtain ⟨z, hz⟩ : ∃ z, ns[m]? = some z := ⟨ns[m], List.getElem?_eq_getElem hml⟩
      obtain ⟨bb, off, q, cs, rfl, c0, hbq, h0⟩ := HC.out m z hz
      have HCM := hid (up_compare q cs z x wr hbq h0)
      have Hz := hid hz; have Hmb := hid hmb
      clear hm hz hbq h0 hmb
      go_wp2_with fail
      refine HCM.out.mono ?_
      rintro _ _ ⟨rfl, rfl⟩
      clear HCM c0
      by_cases hzx : z < x
      · rw [show cmpI z x = -1 from if_pos hzx]
        have HA2 := hid (show ∀ k y, ns[k]? = some y → k < m + 1 → y < x from fun k y hk hkm => by
          by_cases e : k = m
          · subst e; have := Hz.out; rw [hk] at this; cases this; exact hzx
          · have hl := (List.getElem?_eq_some_iff.1 hk)
            have hl2 := (List.getElem?_eq_some_iff.1 Hz.out)
            have := (List.pairwise_iff_getElem.1 HS.out) k m hl.1 hl2.1 (by omega)
            rw [hl.2, hl2.2] at this
            omega)
        clear hzx
        go_wp2_with fail
        go_roundw
        case rel => exact ⟨trivial, m + 1, b, by go_num, rfl, by have := Hmb.out; omega, hb, HA2, HB⟩
        case measure => have := Hmb.out; simp [intOf]; omega
      · have hge : ¬ cmpI z x < 0 := by unfold cmpI; rw [if_neg hzx]; split <;> omega
        have HB2 := hid (show ∀ k y, ns[k]? = some y → m ≤ k → x ≤ y from fun k y hk hkm => by
          by_cases e : k = m
          · subst e; have := Hz.out; rw [hk] at this; cases this; omega
          · have hl := (List.getElem?_eq_some_iff.1 hk)
            have hl2 := (List.getElem?_eq_some_iff.1 Hz.out)
            have := (List.pairwise_iff_getElem.1 HS.out) m k hl2.1 hl.1 (by omega)
            rw [hl.2, hl2.2] at this
            omega)
        clear hzx
        generalize cmpI z x = cv at hge ⊢
        go_wp2_with fail
        go_roundw
        case rel => exact ⟨trivial, a, m, rfl, rfl, Hmb.out.1, by omega, HA, HB2⟩
        case measure => have := Hmb.out; simp [intOf]; omega
    · obtain rfl : a = b := by omega
      obtain rfl : R = a := HR.out.symm.trans (ahead_eq ns x a hb (fun k z hk hka => HA.out k z hk hka) (fun k z hk hka => HB.out k z hk hka))
      have hlt' : ¬ (R : Int) < (R : Int) := by omega
      by_cases hal : R < ns.length
      · have hal' : (R : Int) < (ns.length : Int) := by omega
        have ha0 : (0 : Int) ≤ (R : Int) := by omega
        obtain ⟨z, hz⟩ : ∃ z, ns[R]? = some z := ⟨ns[R], List.getElem?_eq_getElem hal⟩
        obtain ⟨bb, off, q, cs, rfl, c0, hbq, h0⟩ := HC.out R z hz
        have HCM := hid (up_compare q cs z x wr hbq h0)
        have Hz := hid hz
        clear hz hbq h0
        go_wp2_with fail
        refine HCM.out.mono ?_
        rintro _ _ ⟨rfl, rfl⟩
        clear HCM c0
        have HE := hid (show fb = decide (cmpI z x = 0) from by
          rw [← HF.out, Hz.out]
          unfold cmpI
          by_cases h1 : z < x
          · rw [if_pos h1]
            have : z ≠ x := by omega
            simp [this]
          · rw [if_neg h1]
            by_cases h2 : x < z
            · rw [if_pos h2]
              have : z ≠ x := by omega
              simp [this]
            · rw [if_neg h2]
              have : z = x := by omega
              simp [this])
        generalize cmpI z x = cv at HE ⊢
        go_wp2_with fail
        go_ret2
        exact ⟨by rw [HE.out]; rfl, rfl⟩
      · have hal' : ¬ (R : Int) < (ns.length : Int) := by omega
        obtain rfl : false = fb := by rw [← HF.out, List.getElem?_eq_none (by omega)]; rfl
        go_wp2_with fail
        go_ret2
        exact ⟨rfl, rfl⟩
end Go.Proofs.YtgacdimjbpkgoaaDoor
namespace Go.Proofs.YtgacdimjbpkgoaaDoor
open Go.RowKit

/-- a table in memory -/
structure UpB (w : World) (base t : Nat) (width next : Int) (ss : List US) (sv : Value) (qs : List (Nat × Value × List Value)) : Prop where
  hd : Blk w t 29 (upCells t width next sv)
  row : w.ownsRow base 68 1 sv ss.length (qs.map fun x => .pointer (some ⟨x.1, 0, none⟩))
  each : ∀ (k : Nat) (s : US) (x : Nat × Value × List Value), ss[k]? = some s → qs[k]? = some x → SessB w base x.1 s x.2.1 x.2.2
  apart : ∀ (i j : Nat) (x y : Nat × Value × List Value), i ≠ j → qs[i]? = some x → qs[j]? = some y → ∀ b ∈ upBlocks x.1 x.2.1 x.2.2, b ∉ upBlocks y.1 y.2.1 y.2.2
  ht : base ≤ t
/-- its blocks -/
def upF (t : Nat) (sv : Value) (qs : List (Nat × Value × List Value)) : List Nat := t :: (sv.ownBlock.toList ++ qs.flatMap fun x => upBlocks x.1 x.2.1 x.2.2)
theorem mem_upF {b t : Nat} {sv : Value} {qs : List (Nat × Value × List Value)} : b ∈ upF t sv qs ↔ b = t ∨ sv.ownBlock = some b ∨ ∃ x ∈ qs, b ∈ upBlocks x.1 x.2.1 x.2.2 := by
  unfold upF
  simp only [List.mem_cons, List.mem_append, Option.mem_toList, List.mem_flatMap]
/-- of what type a block is -/
def TyB (w : World) (b : Nat) (t : TypeId) : Prop := ∃ cs z, w.heap[b]? = some (.cells cs t z)
theorem TyB.ne {w : World} {b b' : Nat} {t t' : TypeId} (h : TyB w b t) (h' : TyB w b' t') (hne : t ≠ t') : b ≠ b' := fun e => by
  subst e
  obtain ⟨cs, z, k⟩ := h
  obtain ⟨cs', z', k'⟩ := h'
  rw [k] at k'
  cases k'
  exact hne rfl
theorem Blk.ty {w : World} {b : Nat} {t : TypeId} {cs : Array Value} (h : Blk w b t cs) : TyB w b t := ⟨cs, _, h⟩
theorem row_ty {w : World} {base n b size : Nat} {e : TypeId} {v : Value} {xs : List Value} (h : w.ownsRow base e size v n xs) (hb : v.ownBlock = some b) : TyB w b e := by
  rcases h.2 with ⟨rfl, _⟩ | ⟨g, cap, cur, rfl, _, hg, _⟩
  · cases hb
  · cases hb
    exact ⟨_, _, hg⟩
theorem SessB.tys {w : World} {base q : Nat} {s : US} {pv : Value} {us : List Value} (h : SessB w base q s pv us) {b : Nat} (hb : b ∈ upBlocks q pv us) : TyB w b 74 ∨ TyB w b 22 ∨ TyB w b 5 := by
  rcases mem_upBlocks.1 hb with rfl | hb | ⟨u, hu, hb⟩
  · exact .inl h.hd.ty
  · exact .inr (.inl (row_ty h.recs.row hb))
  · obtain ⟨x, _, hx⟩ := h.recs.at_ hu
    exact .inr (.inr (row_ty hx hb))
section
variable {w w' : World} {base t : Nat} {width next : Int} {ss : List US} {sv : Value} {qs : List (Nat × Value × List Value)} {L : List Nat}
theorem UpB.len (h : UpB w base t width next ss sv qs) : qs.length = ss.length := by have := h.row.1; simpa using this
theorem UpB.at_ (h : UpB w base t width next ss sv qs) {x : Nat × Value × List Value} (hx : x ∈ qs) : ∃ s, s ∈ ss ∧ SessB w base x.1 s x.2.1 x.2.2 := by
  obtain ⟨k, hk, rfl⟩ := List.mem_iff_getElem.1 hx
  have hl : k < ss.length := by have := h.len; omega
  exact ⟨ss[k], List.getElem_mem hl, h.each k _ _ (List.getElem?_eq_getElem hl) (List.getElem?_eq_getElem hk)⟩
theorem UpB.lt (h : UpB w base t width next ss sv qs) : ∀ b ∈ upF t sv qs, base ≤ b ∧ b < w.heap.size := fun b hb => by
  rcases mem_upF.1 hb with rfl | hb | ⟨x, hx, hb⟩
  · exact ⟨h.ht, h.hd.lt⟩
  · exact World.ownsRow.lt h.row b hb
  · obtain ⟨s, _, hs⟩ := h.at_ hx
    exact hs.lt b hb
theorem row_chg {w w' : World} {base n : Nat} {e : TypeId} {v : Value} {xs : List Value} (h : w.ownsRow base e 1 v n xs) (hc : Chg L w w') (hL : ∀ b, v.ownBlock = some b → b ∉ L) : w'.ownsRow base e 1 v n xs := by
  have hlt0 := World.ownsRow.lt h
  rcases h with ⟨h1, ⟨hv, h0⟩ | ⟨g', cap, cur, hv, hb, hlt, r⟩⟩
  · exact ⟨h1, .inl ⟨hv, h0⟩⟩
  · have e := hc.block g' (hlt0 g' (by rw [hv]; rfl)).2 (hL g' (by rw [hv]; rfl))
    exact ⟨h1, .inr ⟨g', cap, cur, hv, hb, e.trans hlt, r⟩⟩
theorem UpB.chg (h : UpB w base t width next ss sv qs) (hc : Chg L w w') (hL : ∀ b ∈ upF t sv qs, b ∉ L) : UpB w' base t width next ss sv qs where
  hd := h.hd.chg hc (hL t (mem_upF.2 (.inl rfl)))
  row := row_chg h.row hc (fun b hb => hL b (mem_upF.2 (.inr (.inl hb))))
  each := fun k s x hs hx => (h.each k s x hs hx).chg hc (fun b hb => hL b (mem_upF.2 (.inr (.inr ⟨x, List.mem_of_getElem? hx, hb⟩))))
  apart := h.apart
  ht := h.ht
theorem UpB.keep (h : UpB w base t width next ss sv qs) (hb : Below w.heap.size w w') : UpB w' base t width next ss sv qs := h.chg (L := []) (Chg.of_below hb) (fun _ _ hm => by cases hm)
end
/-- the numbers of a table's sessions -/
def nosOf (ss : List US) : List Int := ss.map (·.n)
set_option maxHeartbeats 1000000 in
theorem up_place {w : World} {base t : Nat} {width next : Int} {ss : List US} {sv : Value} {qs : List (Nat × Value × List Value)} (h : UpB w base t width next ss sv qs) (hs : (nosOf ss).Pairwise (· < ·)) (hm : ss.length ≤ 1000000) (x : Int) :
    Calls Tryd.prog 48 #[.pointer (some ⟨t, 0, none⟩), .int .i64 x] w fun e w' => e = .returned (.tuple #[.int .i64 (aheadN (nosOf ss) x : Int), .bool ((nosOf ss)[aheadN (nosOf ss) x]? == some x)]) ∧ w = w' := by
  have hln : (nosOf ss).length = ss.length := by simp [nosOf]
  have hform : ∃ A c, sv = .slice A ss.length c := by
    rcases h.row.2 with ⟨rfl, h0⟩ | ⟨g, cap, cur, rfl, _⟩
    · exact ⟨none, 0, by rw [h0]⟩
    · exact ⟨_, cap, rfl⟩
  obtain ⟨A, c, hsv⟩ := hform
  have HB := hid (up_bsearch A c (nosOf ss) x w (by omega) (fun k z hk => by
    have hk1 : k < ss.length := by have := (List.getElem?_eq_some_iff.1 hk).1; omega
    have hkq : k < qs.length := by have := h.len; omega
    obtain ⟨g, cap, cur, hg, -⟩ : ∃ g cap cur, sv = .slice (some ⟨g, 0, none⟩) ss.length cap ∧ cur = cur := by
      rcases h.row.2 with ⟨_, h0⟩ | ⟨g, cap, cur, e, _⟩
      · omega
      · exact ⟨g, cap, cur, e, rfl⟩
    rw [hsv] at hg
    cases hg
    have hse := h.each k ss[k] qs[k] (List.getElem?_eq_getElem hk1) (List.getElem?_eq_getElem hkq)
    have hz : ss[k].n = z := by
      unfold nosOf at hk
      rw [List.getElem?_map, List.getElem?_eq_getElem hk1] at hk
      simpa using hk
    have hcell := World.ownsRow.cells h.row (g := g) (by rw [hsv]; rfl) k (.pointer (some ⟨qs[k].1, 0, none⟩)) (by simp [hkq])
    rw [Addr.add_lit] at hcell
    exact ⟨g, 0, qs[k].1, _, rfl, hcell, hse.hd, by rw [← hz]; rfl⟩) hs)
  have c3 : w.cell? ⟨t, 3, none⟩ = some (.slice A (nosOf ss).length c) := by rw [hln, ← hsv]; exact h.hd.cell 3 rfl
  obtain ⟨N, hN⟩ : ∃ N, (nosOf ss).length = N := ⟨_, rfl⟩
  rw [hN] at c3 HB
  generalize ((nosOf ss)[aheadN (nosOf ss) x]? == some x) = fb at HB ⊢
  generalize aheadN (nosOf ss) x = R at HB ⊢
  clear h hln hs hm hsv hN
  go_enter Tryd.func48, Tryd.ntmps48
  go_wp2_with fail
  refine HB.out.mono ?_
  rintro _ _ ⟨rfl, rfl⟩
  go_wp2_with fail
  go_ret2
  exact ⟨rfl, rfl⟩
/-- where a session of a number is, if it is there -/
def hasNo (ss : List US) (x : Int) : Bool := (nosOf ss)[aheadN (nosOf ss) x]? == some x
theorem hasNo_at {ss : List US} {x : Int} (h : hasNo ss x = true) : ∃ s, ss[aheadN (nosOf ss) x]? = some s ∧ s.n = x := by
  unfold hasNo at h
  have h := eq_of_beq h
  unfold nosOf at h ⊢
  rw [List.getElem?_map] at h
  obtain ⟨s, h1, h2⟩ := Option.map_eq_some_iff.1 h
  exact ⟨s, h1, h2⟩
set_option maxHeartbeats 2000000 in
/-- nothing is found, which is refused -/
theorem up_find_no {w : World} {base t : Nat} {width next : Int} {ss : List US} {sv : Value} {qs : List (Nat × Value × List Value)} (h : UpB w base t width next ss sv qs) (hs : (nosOf ss).Pairwise (· < ·)) (hm : ss.length ≤ 1000000) (x : Int) (y : Nat) (e : Int) (hy : Blk w y 65 #[.int .i64 e]) (hyf : y ∉ upF t sv qs) (hno : hasNo ss x = false) :
    Calls Tryd.prog 32 #[.pointer (some ⟨t, 0, none⟩), .int .i64 x, .pointer (some ⟨y, 0, none⟩)] w fun en w' => en = .returned (.pointer none) ∧ Chg [y] w w' ∧ w'.heap.size = w.heap.size ∧ Blk w' y 65 #[.int .i64 12] := by
  have HV := hid (up_valid h.hd)
  have HU := hid (up_unless y true 1 e w hy)
  have HP := hid (fun W (hW : UpB W base t width next ss sv qs) => up_place hW hs hm x)
  have HH := hid h
  have HYF := hid hyf
  rw [show ((nosOf ss)[aheadN (nosOf ss) x]? == some x) = false from hno] at HP
  generalize aheadN (nosOf ss) x = R at HP
  clear h hs hm hy hno hyf
  go_enter Tryd.func32, Tryd.ntmps32
  go_wp2_with fail
  refine HV.out.mono ?_
  rintro _ _ ⟨rfl, rfl⟩
  go_wp2_with fail
  refine HU.out.mono ?_
  rintro _ w1 ⟨rfl, hc, hz, hb⟩
  have hb' : Blk w1 y 65 #[.int .i64 e] := by simpa using hb
  have HC1 := hid hc; have HZ1 := hid hz; have HP1 := hid (HP.out w1 (HH.out.chg hc (fun b hb hm => HYF.out (by rw [← List.mem_singleton.1 hm]; exact hb))))
  have HU2 := hid (up_unless y false 12 e w1 hb')
  clear hc hz hb hb' HU HV HP
  go_wp2_with fail
  refine HP1.out.mono ?_
  rintro _ _ ⟨rfl, rfl⟩
  go_wp2_with fail
  refine HU2.out.mono ?_
  rintro _ w2 ⟨rfl, hc, hz, hb⟩
  have HEnd := hid (show Chg [y] w w2 ∧ w2.heap.size = w.heap.size ∧ Blk w2 y 65 #[.int .i64 12] from ⟨HC1.out.trans hc (fun b hb => .inl hb), by rw [hz, HZ1.out], by simpa using hb⟩)
  clear hc hz hb HU2 HP1
  go_wp2_with fail
  go_ret
  exact ⟨rfl, HEnd.out⟩
set_option maxHeartbeats 2000000 in
theorem up_find_yes {w : World} {base t : Nat} {width next : Int} {ss : List US} {sv : Value} {qs : List (Nat × Value × List Value)} (h : UpB w base t width next ss sv qs) (hs : (nosOf ss).Pairwise (· < ·)) (hm : ss.length ≤ 1000000) (x : Int) (y : Nat) (e : Int) (hy : Blk w y 65 #[.int .i64 e]) (hyf : y ∉ upF t sv qs) (hno : hasNo ss x = true) :
    Calls Tryd.prog 32 #[.pointer (some ⟨t, 0, none⟩), .int .i64 x, .pointer (some ⟨y, 0, none⟩)] w fun en w' => ∃ q pv us, qs[aheadN (nosOf ss) x]? = some (q, pv, us) ∧ en = .returned (.pointer (some ⟨q, 0, none⟩)) ∧ Chg [y] w w' ∧ w'.heap.size = w.heap.size ∧ Blk w' y 65 #[.int .i64 e] := by
  obtain ⟨s0, hs0, -⟩ := hasNo_at hno
  have hlt := (List.getElem?_eq_some_iff.1 hs0).1
  have hlq : aheadN (nosOf ss) x < qs.length := by have := h.len; omega
  obtain ⟨⟨q, pv, us⟩, hq⟩ : ∃ x1, qs[aheadN (nosOf ss) x]? = some x1 := ⟨_, List.getElem?_eq_getElem hlq⟩
  obtain ⟨g, cap, hsv⟩ : ∃ g cap, sv = .slice (some ⟨g, 0, none⟩) ss.length cap := by
    rcases h.row.2 with ⟨_, h0⟩ | ⟨g, cap, cur, e, _⟩
    · omega
    · exact ⟨g, cap, e⟩
  have HV := hid (up_valid h.hd)
  have HU := hid (up_unless y true 1 e w hy)
  have HP := hid (fun W (hW : UpB W base t width next ss sv qs) => up_place hW hs hm x)
  have HH := hid h
  have HYF := hid hyf
  have HQ := hid hq
  have HR := hid hlt
  rw [show ((nosOf ss)[aheadN (nosOf ss) x]? == some x) = true from hno] at HP
  generalize aheadN (nosOf ss) x = R at HP HQ HR hq ⊢
  have hcell : ∀ W, UpB W base t width next ss sv qs → W.cell? ⟨t, 3, none⟩ = some (.slice (some ⟨g, 0, none⟩) ss.length cap) ∧ W.cell? ⟨g, R, none⟩ = some (.pointer (some ⟨q, 0, none⟩)) := fun W hW => ⟨by rw [← hsv]; exact hW.hd.cell 3 rfl, by
    have := World.ownsRow.cells hW.row (g := g) (by rw [hsv]; rfl) R (.pointer (some ⟨q, 0, none⟩)) (by simp [hq])
    rw [Addr.add_lit, Nat.zero_add] at this
    exact this⟩
  have HCE := hid hcell
  obtain ⟨N, hN⟩ : ∃ N, ss.length = N := ⟨_, rfl⟩
  rw [hN] at HCE HR
  have hR0 : (0 : Int) ≤ (R : Int) := by omega
  have hR1 : (R : Int) < (N : Int) := by have := HR.out; omega
  clear h hs hm hy hno hyf hcell hs0 hlt hlq hq hsv hN
  go_enter Tryd.func32, Tryd.ntmps32
  go_wp2_with fail
  refine HV.out.mono ?_
  rintro _ _ ⟨rfl, rfl⟩
  go_wp2_with fail
  refine HU.out.mono ?_
  rintro _ w1 ⟨rfl, hc, hz, hb⟩
  have hb' : Blk w1 y 65 #[.int .i64 e] := by simpa using hb
  have HC1 := hid hc; have HZ1 := hid hz
  have HH1 := hid (HH.out.chg hc (fun b hb hm => HYF.out (by rw [← List.mem_singleton.1 hm]; exact hb)))
  have HP1 := hid (HP.out w1 HH1.out)
  have HU2 := hid (up_unless y true 12 e w1 hb')
  clear hc hz hb hb' HU HV HP
  go_wp2_with fail
  refine HP1.out.mono ?_
  rintro _ _ ⟨rfl, rfl⟩
  go_wp2_with fail
  refine HU2.out.mono ?_
  rintro _ w2 ⟨rfl, hc, hz, hb⟩
  obtain ⟨d0, d1⟩ := HCE.out w2 (HH1.out.chg hc (fun b hb hm => HYF.out (by rw [← List.mem_singleton.1 hm]; exact hb)))
  have HEnd := hid (show Chg [y] w w2 ∧ w2.heap.size = w.heap.size ∧ Blk w2 y 65 #[.int .i64 e] from ⟨HC1.out.trans hc (fun b hb => .inl hb), by rw [hz, HZ1.out], by simpa using hb⟩)
  clear hc hz hb HU2 HP1
  go_wp2_with fail
  go_ret
  exact ⟨q, pv, us, HQ.out, rfl, HEnd.out⟩
end Go.Proofs.YtgacdimjbpkgoaaDoor
/- Contracts: what a table of uploads answers. -/
namespace Go.Proofs.YtgacdimjbpkgoaaDoor
open Go.RowKit
attribute [local go_sem] up_mkf

theorem up_two (w : World) (c1 c2 : Array Value) (t1 t2 : TypeId) : ∃ W, W = (w.alloc (.cells c1 t1)).alloc (.cells c2 t2) ∧ Blk W w.heap.size t1 c1 ∧ Blk W (w.heap.size + 1) t2 c2 ∧ Below w.heap.size w W ∧ W.heap.size = w.heap.size + 1 + 1 := by
  have k1 := Blk.new w t1 c1
  have b1 := below_new w (.cells c1 t1)
  have s1 := size_new w (.cells c1 t1)
  have k2 := Blk.new (w.alloc (.cells c1 t1)) t2 c2
  have b2 := below_new (w.alloc (.cells c1 t1)) (.cells c2 t2)
  rw [s1] at k2
  exact ⟨_, rfl, k1.keep b2, k2, b1.trans (b2.mono (by omega)), by simp⟩
theorem up_door {fn : Func} {p q : Tmp} {R : Ending → World → Prop} {k : FuncId} {G : Nat} {a : Act} {w : World} (h : fn.results = #[.tmp p, .cell q 31]) (e z z1 : Int) (v : Value)
    (hd : a.defers = [{ target := .fn (.func k) #[.pointer (some ⟨G + 1, 0, none⟩), .pointer (some ⟨G, 0, none⟩)], args := #[] }])
    (hk : ∀ w, (invoke (.fn (.func k) #[.pointer (some ⟨G + 1, 0, none⟩), .pointer (some ⟨G, 0, none⟩)]) #[]).run Tryd.prog w = .ok (.enter k #[.pointer (some ⟨G + 1, 0, none⟩), .pointer (some ⟨G, 0, none⟩)]) w)
    (hc : ∀ W z, Blk W (G + 1) 65 #[.int .i64 e] → Blk W G 31 #[.int .i64 z] → CallsD Tryd.prog k #[.pointer (some ⟨G + 1, 0, none⟩), .pointer (some ⟨G, 0, none⟩)] .returning W fun en u' w' => u' = .returning ∧ (en = .returned (.tuple #[]) ∧ w' = W.setCell ⟨G, 0, none⟩ (.int .i64 e)))
    (hK : Blk w G 31 #[.int .i64 z]) (hY : Blk w (G + 1) 65 #[.int .i64 e])
    (hp : a.tmps.getD p undef = v) (hq : a.tmps.getD q undef = .pointer (some ⟨G, 0, none⟩)) (hR : ∀ W, Chg [G] w W → R (.returned (.tuple #[v, .int .i64 e])) W) :
    Leaves Tryd.prog fn a.tmps R a.defers .returning (w.setCell ⟨G, 0, none⟩ (.int .i64 z1)) := by
  have k1 : Blk (w.setCell ⟨G, 0, none⟩ (.int .i64 z1)) G 31 #[.int .i64 z1] := by have := hK.set_ 0 (.int .i64 z1); simpa using this
  have y1 : Blk (w.setCell ⟨G, 0, none⟩ (.int .i64 z1)) (G + 1) 65 #[.int .i64 e] := hY.far (p := ⟨G, 0, none⟩) (by simp) _
  refine up_leave h G e z1 v hd (hk _) k1 (hc _ _ y1 k1) hp hq (hR _ ?_)
  exact (Chg.of_grown (L := [G]) (grown_setCell w G 0 _) (fun g e => by cases e; simp)).trans (Chg.of_grown (L := [G]) (grown_setCell _ G 0 _) (fun g e => by cases e; simp)) (fun b hb => .inl hb)
section
variable {w : World} {base t : Nat} {width next : Int} {ss : List US} {sv : Value} {qs : List (Nat × Value × List Value)}
set_option maxHeartbeats 2000000 in
set_option maxRecDepth 20000 in
theorem up_offset_no (h : UpB w base t width next ss sv qs) (hs : (nosOf ss).Pairwise (· < ·)) (hm : ss.length ≤ 1000000) (x : Int) (hno : hasNo ss x = false) :
    Calls Tryd.prog 10 #[.pointer (some ⟨t, 0, none⟩), .int .i64 x] w fun e w' => e = .returned (.tuple #[.int .i64 0, .int .i64 12]) ∧ Below w.heap.size w w' := by
  obtain ⟨W, hW, k0, k1, hB, hZ⟩ := up_two w #[.int .i64 0] #[.int .i64 0] 31 65
  have HF := hid (up_find_no (h.keep hB) hs hm x (w.heap.size + 1) 0 k1 (fun hb => by have := (h.lt _ hb).2; omega) hno)
  have HW := hid hW; have K0 := hid k0; have HB := hid hB; have HZ := hid hZ
  clear h hs hm hno hW k0 k1 hB hZ
  go_enter_defers Tryd.func10, Tryd.ntmps10
  go_wp2_with fail
  rw [← HW.out]
  refine HF.out.mono ?_
  rintro _ w2 ⟨rfl, hc, hz, hb⟩
  have K2 := hid (K0.out.chg hc (by simp)); have Y2 := hid hb
  have HB2 := hid (HB.out.trans (hc.below (B := w.heap.size) (fun b hb => by simp at hb; omega) HB.out.size))
  have c0 : w2.cell? ⟨w.heap.size, 0, none⟩ = some (.int .i64 0) := K2.out.cell 0 rfl
  have z0 := K2.out.frozen 0
  clear hc hz hb HF HW
  go_wp2_with fail
  refine up_door rfl 12 0 0 _ rfl (fun _ => by simp [go_sem]) (fun W z hy hx => up_doorOffset _ _ _ _ _ W hy hx) K2.out Y2.out rfl rfl (fun W hW => ⟨rfl, HB2.out.trans (hW.below (B := w.heap.size) (fun b hb => by simp at hb; omega) HB2.out.size)⟩)
set_option maxHeartbeats 2000000 in
set_option maxRecDepth 20000 in
theorem up_offset_yes (h : UpB w base t width next ss sv qs) (hs : (nosOf ss).Pairwise (· < ·)) (hm : ss.length ≤ 1000000) (x : Int) {s : US} (hss : ss[aheadN (nosOf ss) x]? = some s) (hno : hasNo ss x = true) :
    Calls Tryd.prog 10 #[.pointer (some ⟨t, 0, none⟩), .int .i64 x] w fun e w' => e = .returned (.tuple #[.int .i64 (s.len : Int), .int .i64 0]) ∧ Below w.heap.size w w' := by
  obtain ⟨W, hW, k0, k1, hB, hZ⟩ := up_two w #[.int .i64 0] #[.int .i64 0] 31 65
  have hyf : w.heap.size + 1 ∉ upF t sv qs := fun hb => by have := (h.lt _ hb).2; omega
  have HF := hid (up_find_yes (h.keep hB) hs hm x (w.heap.size + 1) 0 k1 hyf hno)
  have HC := hid (fun q pv us W' (hq : qs[aheadN (nosOf ss) x]? = some (q, pv, us)) (hc : Chg [w.heap.size + 1] W W') => (show W'.cell? ⟨q, 3, none⟩ = some (.int .i64 (s.len : Int)) from
    (((h.keep hB).chg hc (fun b hb hm => hyf (by rw [← List.mem_singleton.1 hm]; exact hb))).each _ s _ hss hq).hd.cell 3 rfl))
  have HW := hid hW; have K0 := hid k0; have HB := hid hB; have HZ := hid hZ
  clear h hs hm hno hW k0 k1 hB hZ hyf
  go_enter_defers Tryd.func10, Tryd.ntmps10
  go_wp2_with fail
  rw [← HW.out]
  refine HF.out.mono ?_
  rintro _ w2 ⟨q, pv, us, hq, rfl, hc, hz, hb⟩
  have cl := HC.out q pv us w2 hq hc
  have K2 := hid (K0.out.chg hc (by simp)); have Y2 := hid hb
  have HB2 := hid (HB.out.trans (hc.below (B := w.heap.size) (fun b hb => by simp at hb; omega) HB.out.size))
  have c0 : w2.cell? ⟨w.heap.size, 0, none⟩ = some (.int .i64 0) := K2.out.cell 0 rfl
  have z0 := K2.out.frozen 0
  clear hc hz hb hq HF HW HC hss
  go_wp2_with fail
  refine up_door rfl 0 0 0 _ rfl (fun _ => by simp [go_sem]) (fun W z hy hx => up_doorOffset _ _ _ _ _ W hy hx) K2.out Y2.out rfl rfl (fun W hW => ⟨rfl, HB2.out.trans (hW.below (B := w.heap.size) (fun b hb => by simp at hb; omega) HB2.out.size)⟩)
end
theorem up_next {w : World} {t : Nat} {width next : Int} {sv : Value} (h : Blk w t 29 (upCells t width next sv)) :
    Calls Tryd.prog 14 #[.pointer (some ⟨t, 0, none⟩)] w fun e w' => e = .returned (.int .i64 next) ∧ w = w' := by
  have HV := hid (up_valid h)
  have c2 : w.cell? ⟨t, 2, none⟩ = some (.int .i64 next) := h.cell 2 rfl
  clear h
  go_enter Tryd.func14, Tryd.ntmps14
  go_wp2_with fail
  refine HV.out.mono ?_
  rintro _ _ ⟨rfl, rfl⟩
  go_wp2_with fail
  go_ret
  exact ⟨rfl, rfl⟩
end Go.Proofs.YtgacdimjbpkgoaaDoor
namespace Go.Proofs.YtgacdimjbpkgoaaDoor
open Go.RowKit
attribute [local go_sem] up_mkf

theorem up_possible_nil (next : Int) (w : World) : Calls Tryd.prog 44 #[.slice none 0 0, .int .i64 next] w fun e w' => e = .returned (.bool true) ∧ w = w' := by
  go_enter Tryd.func44, Tryd.ntmps44
  go_wp2_with fail
  go_loopw [13] (fun i wr => i = .int .i64 0 ∧ wr = w) (fun _ _ => 0)
  case atStart => exact ⟨rfl, rfl⟩
  case round =>
    obtain ⟨rfl, rfl⟩ := hrel
    go_wp2_with fail
    go_ret
    exact ⟨rfl, rfl⟩
set_option maxHeartbeats 4000000 in
set_option maxRecDepth 20000 in
theorem up_load_nil (width next : Int) (h1 : 1 ≤ width) (h2 : width ≤ 32) (h3 : 1 ≤ next) (h4 : next ≤ 1048577) (w : World) :
    Calls Tryd.prog 19 #[.int .i64 width, .int .i64 next, .slice none 0 0] w fun e w' => ∃ t, e = .returned (.tuple #[.pointer (some ⟨t, 0, none⟩), .int .i64 0]) ∧ UpB w' w.heap.size t width next [] (.slice none 0 0) [] ∧ Below w.heap.size w w' := by
  obtain ⟨W, hW, k0, k1, hB, hZ⟩ := up_two w #[.int .i64 0] #[.int .i64 0] 31 65
  have HW := hid hW; have K0 := hid k0; have HB := hid hB; have HZ := hid hZ
  have HU := hid (fun W' (e : Int) (h : Blk W' (w.heap.size + 1) 65 #[.int .i64 0]) => up_unless (w.heap.size + 1) true e 0 W' h)
  have K1 := hid k1
  clear hW k0 k1 hB hZ
  go_enter_defers Tryd.func19, Tryd.ntmps19
  go_wp2_with fail
  rw [← HW.out]
  refine (HU.out W 3 K1.out).mono ?_
  rintro _ w1 ⟨rfl, hc, hz, hb⟩
  have K0 := hid (K0.out.chg hc (by simp)); have K1 := hid (show Blk w1 (w.heap.size + 1) 65 #[.int .i64 0] by simpa using hb)
  have HB := hid (HB.out.trans (hc.below (B := w.heap.size) (fun b hb => by simp at hb; omega) HB.out.size))
  clear hc hz hb HW
  go_wp2_with fail
  refine (HU.out w1 3 K1.out).mono ?_
  rintro _ w2 ⟨rfl, hc, hz, hb⟩
  have K0 := hid (K0.out.chg hc (by simp)); have K1 := hid (show Blk w2 (w.heap.size + 1) 65 #[.int .i64 0] by simpa using hb)
  have HB := hid (HB.out.trans (hc.below (B := w.heap.size) (fun b hb => by simp at hb; omega) HB.out.size))
  clear hc hz hb
  go_wp2_with fail
  refine (up_possible_nil next w2).mono ?_
  rintro _ _ ⟨rfl, rfl⟩
  go_wp2_with fail
  refine (HU.out w2 2 K1.out).mono ?_
  rintro _ w3 ⟨rfl, hc, hz, hb⟩
  have K0 := hid (K0.out.chg hc (by simp)); have K1 := hid (show Blk w3 (w.heap.size + 1) 65 #[.int .i64 0] by simpa using hb)
  have HB := hid (HB.out.trans (hc.below (B := w.heap.size) (fun b hb => by simp at hb; omega) HB.out.size))
  have HLT3 := hid (show w.heap.size < w3.heap.size from K0.out.lt)
  have HT := hid (show Blk (w3.alloc (.cells #[.pointer none, .int .i64 width, .int .i64 next, .slice none 0 0] 29)) w3.heap.size 29 #[.pointer none, .int .i64 width, .int .i64 next, .slice none 0 0] from Blk.new _ _ _)
  have ht0 : (w3.alloc (.cells #[.pointer none, .int .i64 width, .int .i64 next, .slice none 0 0] 29)).cell? ⟨w3.heap.size, 0, none⟩ = some (.pointer none) := HT.out.cell 0 rfl
  clear hc hz hb HU
  go_wp2_with fail
  clear ht0 HT
  have b4 := below_new w3 (.cells #[.pointer (some ⟨w3.heap.size, 0, none⟩), .int .i64 width, .int .i64 next, .slice none 0 0] 29)
  have k4 := Blk.new w3 29 #[.pointer (some ⟨w3.heap.size, 0, none⟩), .int .i64 width, .int .i64 next, .slice none 0 0]
  generalize w3.alloc (.cells #[.pointer (some ⟨w3.heap.size, 0, none⟩), .int .i64 width, .int .i64 next, .slice none 0 0] 29) = w4 at b4 k4 ⊢
  have hw3 := HB.out.size
  have K0 := hid (K0.out.keep b4); have K1 := hid (K1.out.keep b4); have HB := hid (HB.out.trans (b4.mono HB.out.size))
  have KT := hid k4; have HW3 := hid hw3
  have HWT := hid (show w.heap.size < w3.heap.size ∧ w3.heap.size ≠ w.heap.size from ⟨HLT3.out, by have := HLT3.out; omega⟩)
  clear b4 k4 hw3
  generalize w3.heap.size = t at KT HW3 HWT ⊢
  go_loopw [44] (fun i wr => i = .int .i64 0 ∧ wr = w4) (fun _ _ => 0)
  case atStart => exact ⟨rfl, rfl⟩
  case round =>
    obtain ⟨rfl, rfl⟩ := hrel
    have c0 : wr.cell? ⟨w.heap.size, 0, none⟩ = some (.int .i64 0) := K0.out.cell 0 rfl
    have z0 := K0.out.frozen 0
    go_wp2_with fail
    refine up_door rfl 0 0 0 _ rfl (fun _ => by simp [go_sem]) (fun W z hy hx => up_doorLoad _ _ _ _ _ W hy hx) K0.out K1.out rfl rfl (fun W hW => ⟨t, rfl, ?_, HB.out.trans (hW.below (B := w.heap.size) (fun b hb => by simp at hb; omega) HB.out.size)⟩)
    exact ⟨KT.out.chg hW (by simpa using HWT.out.2), World.ownsRow_nil _ _ _ _, fun k s x hs => by simp at hs, fun i j x y _ hx => by simp at hx, Nat.le_of_lt HWT.out.1⟩
theorem up_new_table (width : Int) (h1 : 1 ≤ width) (h2 : width ≤ 32) (w : World) :
    Calls Tryd.prog 18 #[.int .i64 width] w fun e w' => ∃ t, e = .returned (.tuple #[.pointer (some ⟨t, 0, none⟩), .int .i64 0]) ∧ UpB w' w.heap.size t width 1 [] (.slice none 0 0) [] ∧ Below w.heap.size w w' := by
  have HL := hid (up_load_nil width 1 h1 h2 (by omega) (by omega) w)
  clear h1 h2
  go_enter Tryd.func18, Tryd.ntmps18
  go_wp2_with fail
  refine HL.out.mono ?_
  rintro _ w1 ⟨t, rfl, hu, hb⟩
  have HU := hid hu; have HB := hid hb
  clear hu hb HL
  go_wp2_with fail
  go_ret2
  exact ⟨t, rfl, HU.out, HB.out⟩
end Go.Proofs.YtgacdimjbpkgoaaDoor
