/- Contract: the plain reference's Crash. Written by tools/mkdv.py out of XDvRfC.tpl. -/
import Derived.Test.YtoajnabdflikfaaDvRfF
namespace Go.Proofs.Ytoajnabdflikfaa
open Go.RowKit

/-- a copy is made of bytes, and stored -/
structure CrS (w1 : World) (bs : List UInt8) (T : World → Prop) (f : Nat → Bool) (gh : Nat → Value) (W : World) : Prop where
  bel : f 23 = false → Below w1.heap.size w1 W
  o21 : f 21 = true → f 12 = true
  a : f 12 = true → f 21 = false → Own W w1.heap.size 5 (gh 12) 0 []
  b : f 21 = true → f 23 = false → Own W w1.heap.size 5 (gh 21) 64 bs
  up : f 23 = true → f 21 = true ∧ T W
section
variable {w1 W W' : World} {bs : List UInt8} {T : World → Prop} {f : Nat → Bool} {gh : Nat → Value}
theorem CrS.start (w1 : World) (bs : List UInt8) (T : World → Prop) : CrS w1 bs T (fun j => decide (24 ≤ j)) (fun _ => .pointer none) w1.drew :=
  ⟨fun _ => (Below.refl _ _).drew, fun h => by simp at h, fun h => by simp at h, fun h => by simp at h, fun h => by simp at h⟩
theorem CrS.step (h : CrS w1 bs T f gh W) (j : Nat) (v : Value) (n12 : 12 ≠ j) (n21 : 21 ≠ j) (n23 : 23 ≠ j) : CrS w1 bs T (upd f j) (updN gh j v) W := by
  obtain ⟨bel, o21, a, b, up⟩ := h
  refine ⟨?_, ?_, ?_, ?_, ?_⟩ <;> simp only [ap_ne n12, ap_ne n21, ap_ne n23, apN_ne n12, apN_ne n21] <;> assumption
theorem CrS.n23 (h : CrS w1 bs T f gh W) (e : f 21 = false) : f 23 = false := ff_of (fun x => (h.up x).1) e
theorem CrS.s12 (h : CrS w1 bs T f gh W) (hf : f 12 = false) : CrS w1 bs T (upd f 12) (updN gh 12 (.slice (some ⟨W.heap.size, 0, none⟩) 0 0)) (W.alloc (.cells #[] 5)) := by
  have e21 := ff_of h.o21 hf; have e23 := h.n23 e21
  have hB := below_new W (.cells #[] 5)
  have hz := (h.bel e23).size
  refine ⟨fun _ => (h.bel e23).trans (hB.mono hz), fun _ => ap_eq, fun _ _ => by rw [apN_eq]; exact Own.lit W 5 w1.heap.size [] #[] 0 rfl rfl hz (by omega), fun e => ?_, fun e => ?_⟩
  · rw [ap_ne (by decide), e21] at e; cases e
  · rw [ap_ne (by decide), e23] at e; cases e
theorem CrS.s21 {A2 : Option Addr} {B c2 : Nat} (h : CrS w1 bs T f gh W) (h12 : f 12 = true) (hf : f 21 = false) (hs : SB w1 B A2 64 bs) (t ty : TypeId) (ht : Try.prog.underlying t = some (.slice 5)) :
    ∃ v' W', (Builtin.append_ #[t, t] ty #[gh 12, .slice A2 64 c2]).run Try.prog W = .ok v' W' ∧ CrS w1 bs T (upd f 21) (updN gh 21 v') W' := by
  have e23 := h.n23 hf
  have ho := h.a h12 hf
  have hz := (h.bel e23).size
  obtain ⟨v', W', hr, h2, h3, h4⟩ := run_append_bytes (P := Try.prog) W t ty 5 w1.heap.size ht info5' (gh 12) 0 [] ho B A2 64 c2 bs (hs.keep (h.bel e23)) (by omega) hz
  refine ⟨v', W', hr, ⟨fun _ => (h.bel e23).trans (below_of_grown h3 hz (fun b e => (ho.block b e).1)), fun _ => by rw [ap_ne (by decide)]; exact h12, fun _ e => ?_, fun _ _ => by rw [apN_eq]; simpa using h2, fun e => ?_⟩⟩
  · rw [ap_eq] at e; cases e
  · rw [ap_ne (by decide), e23] at e; cases e
theorem CrS.s23 (h : CrS w1 bs T f gh W) (h21 : f 21 = true) (k : Value) (hT : T W') : CrS w1 bs T (upd f 23) (updN gh 23 k) W' := by
  refine ⟨fun e => ?_, fun e => ?_, fun _ e => ?_, fun _ e => ?_, fun _ => ⟨by rw [ap_ne (by decide)]; exact h21, hT⟩⟩
  · rw [ap_eq] at e; cases e
  · rw [ap_ne (by decide)] at e ⊢; exact h.o21 e
  · rw [ap_ne (by decide), h21] at e; cases e
  · rw [ap_eq] at e; cases e
end
/-- two parts are put together, and stored -/
structure C2S (w1 : World) (t : Nat) (x1 x2 : List UInt8) (T : World → Prop) (f : Nat → Bool) (gh : Nat → Value) (W : World) : Prop where
  bel : f 24 = false → Below w1.heap.size w1 W
  o11 : f 11 = true → f 6 = true
  o22 : f 22 = true → f 11 = true
  a : f 6 = true → f 11 = false → Own W w1.heap.size 5 (gh 6) 0 []
  b : f 11 = true → f 22 = false → Own W w1.heap.size 5 (gh 11) t x1
  c : f 22 = true → f 24 = false → Own W w1.heap.size 5 (gh 22) 64 (x1 ++ x2)
  up : f 24 = true → f 22 = true ∧ T W
section
variable {w1 W W' : World} {t : Nat} {x1 x2 : List UInt8} {T : World → Prop} {f : Nat → Bool} {gh : Nat → Value}
theorem C2S.start (w1 : World) (t : Nat) (x1 x2 : List UInt8) (T : World → Prop) : C2S w1 t x1 x2 T (fun j => decide (25 ≤ j)) (fun _ => .pointer none) w1.drew :=
  ⟨fun _ => (Below.refl _ _).drew, fun h => by simp at h, fun h => by simp at h, fun h => by simp at h, fun h => by simp at h, fun h => by simp at h, fun h => by simp at h⟩
theorem C2S.step (h : C2S w1 t x1 x2 T f gh W) (j : Nat) (v : Value) (n6 : 6 ≠ j) (n11 : 11 ≠ j) (n22 : 22 ≠ j) (n24 : 24 ≠ j) : C2S w1 t x1 x2 T (upd f j) (updN gh j v) W := by
  obtain ⟨bel, o11, o22, a, b, c, up⟩ := h
  refine ⟨?_, ?_, ?_, ?_, ?_, ?_, ?_⟩ <;> simp only [ap_ne n6, ap_ne n11, ap_ne n22, ap_ne n24, apN_ne n6, apN_ne n11, apN_ne n22] <;> assumption
theorem C2S.n24 (h : C2S w1 t x1 x2 T f gh W) (e : f 22 = false) : f 24 = false := ff_of (fun x => (h.up x).1) e
theorem C2S.s6 (h : C2S w1 t x1 x2 T f gh W) (hf : f 6 = false) : C2S w1 t x1 x2 T (upd f 6) (updN gh 6 (.slice (some ⟨W.heap.size, 0, none⟩) 0 0)) (W.alloc (.cells #[] 5)) := by
  have e11 := ff_of h.o11 hf; have e22 := ff_of h.o22 e11; have e24 := h.n24 e22
  have hB := below_new W (.cells #[] 5)
  have hz := (h.bel e24).size
  refine ⟨fun _ => (h.bel e24).trans (hB.mono hz), fun _ => ap_eq, fun e => ?_, fun _ _ => by rw [apN_eq]; exact Own.lit W 5 w1.heap.size [] #[] 0 rfl rfl hz (by omega), fun e => ?_, fun e => ?_, fun e => ?_⟩
  · rw [ap_ne (by decide), e22] at e; cases e
  · rw [ap_ne (by decide), e11] at e; cases e
  · rw [ap_ne (by decide), e22] at e; cases e
  · rw [ap_ne (by decide), e24] at e; cases e
theorem C2S.s11 {A2 : Option Addr} {B c2 : Nat} (h : C2S w1 t x1 x2 T f gh W) (h6 : f 6 = true) (hf : f 11 = false) (hs : SB w1 B A2 t x1) (ht64 : t ≤ 64) (tt ty : TypeId) (ht : Try.prog.underlying tt = some (.slice 5)) :
    ∃ v' W', (Builtin.append_ #[tt, tt] ty #[gh 6, .slice A2 t c2]).run Try.prog W = .ok v' W' ∧ C2S w1 t x1 x2 T (upd f 11) (updN gh 11 v') W' := by
  have e22 := ff_of h.o22 hf; have e24 := h.n24 e22
  have ho := h.a h6 hf
  have hz := (h.bel e24).size
  obtain ⟨v', W', hr, h2, h3, h4⟩ := run_append_bytes (P := Try.prog) W tt ty 5 w1.heap.size ht info5' (gh 6) 0 [] ho B A2 t c2 x1 (hs.keep (h.bel e24)) (by omega) hz
  refine ⟨v', W', hr, ⟨fun _ => (h.bel e24).trans (below_of_grown h3 hz (fun b e => (ho.block b e).1)), fun _ => by rw [ap_ne (by decide)]; exact h6, fun _ => ap_eq, fun _ e => ?_, fun _ _ => by rw [apN_eq]; simpa using h2, fun e => ?_, fun e => ?_⟩⟩
  · rw [ap_eq] at e; cases e
  · rw [ap_ne (by decide), e22] at e; cases e
  · rw [ap_ne (by decide), e24] at e; cases e
theorem C2S.s22 {A2 : Option Addr} {B c2 : Nat} (h : C2S w1 t x1 x2 T f gh W) (h11 : f 11 = true) (hf : f 22 = false) (hs : SB w1 B A2 (64 - t) x2) (ht64 : t ≤ 64) (tt ty : TypeId) (ht : Try.prog.underlying tt = some (.slice 5)) :
    ∃ v' W', (Builtin.append_ #[tt, tt] ty #[gh 11, .slice A2 (64 - t) c2]).run Try.prog W = .ok v' W' ∧ C2S w1 t x1 x2 T (upd f 22) (updN gh 22 v') W' := by
  have e24 := h.n24 hf
  have ho := h.b h11 hf
  have hz := (h.bel e24).size
  obtain ⟨v', W', hr, h2, h3, h4⟩ := run_append_bytes (P := Try.prog) W tt ty 5 w1.heap.size ht info5' (gh 11) t x1 ho B A2 (64 - t) c2 x2 (hs.keep (h.bel e24)) (by omega) hz
  rw [show t + (64 - t) = 64 by omega] at h2
  refine ⟨v', W', hr, ⟨fun _ => (h.bel e24).trans (below_of_grown h3 hz (fun b e => (ho.block b e).1)), fun e => by rw [ap_ne (by decide)] at e ⊢; exact h.o11 e, fun _ => by rw [ap_ne (by decide)]; exact h11, fun _ e => ?_, fun _ e => ?_, fun _ _ => by rw [apN_eq]; exact h2, fun e => ?_⟩⟩
  · rw [ap_ne (by decide), h11] at e; cases e
  · rw [ap_eq] at e; cases e
  · rw [ap_ne (by decide), e24] at e; cases e
theorem C2S.s24 (h : C2S w1 t x1 x2 T f gh W) (h22 : f 22 = true) (k : Value) (hT : T W') : C2S w1 t x1 x2 T (upd f 24) (updN gh 24 k) W' := by
  refine ⟨fun e => ?_, fun e => by rw [ap_ne (by decide)] at e ⊢; exact h.o11 e, fun e => by rw [ap_ne (by decide)] at e ⊢; exact h.o22 e, fun e e2 => ?_, fun _ e => ?_, fun _ e => ?_, fun _ => ⟨by rw [ap_ne (by decide)]; exact h22, hT⟩⟩
  · rw [ap_eq] at e; cases e
  · rw [ap_ne (by decide), h.o22 h22] at e2; cases e2
  · rw [ap_ne (by decide), h22] at e; cases e
  · rw [ap_eq] at e; cases e
end
theorem tear_put (l b : List UInt8) (i t : Nat) (ht : t ≤ 64) : tear l i b t = secPut l i (b.take t ++ (secAt l i).drop t) := by
  unfold tear secPut secAt
  have : l.drop (i * 64 + t) = ((l.drop (i * 64)).take 64).drop t ++ l.drop (i * 64 + 64) := by
    have h2 : l.drop (i * 64 + 64) = (l.drop (i * 64 + t)).drop (64 - t) := by rw [List.drop_drop]; congr 1; omega
    rw [List.drop_take, List.drop_drop, h2, List.take_append_drop]
  rw [this]
  simp [List.append_assoc]
/-- what the first writes that are kept make of a device -/
def ckS (s : DS) (keep : List Bool) (k : Nat) : DS := { s with img := (crashP s.img s.loose keep k).1 }
/-- a device while it crashes: a list of sectors, and blocks for bytes, as they are now -/
def CrI (w0 wr : World) (base g : Nat) (A R : Option Addr) (cA cR : Nat) (us : List Value) (D : List Nat) (m : Nat) (z : Int) (s' : DS) : Prop :=
  ∃ vs' D', RdIn wr base g A R cA cR vs' us D' m z s' ∧ (∀ b ∈ D', b ∈ D ∨ w0.heap.size ≤ b) ∧ Chg (g :: (rowOf A).toList) w0 wr
theorem CrI.store {w0 wr W : World} {base g la : Nat} {R : Option Addr} {cA cR : Nat} {us : List Value} {D : List Nat} {m : Nat} {z : Int} {s' : DS} {i : Nat} {x : List UInt8} {v : Value} (h : CrI w0 wr base g (some ⟨la, 0, none⟩) R cA cR us D m z s')
    (hok : s'.img.length = 64 * s'.n) (hi : i < s'.n) (hx : x.length = 64) (hW : Below wr.heap.size wr W) (ho : Own W wr.heap.size 5 v 64 x) :
    CrI w0 (W.setCell ⟨la, i, none⟩ v) base g (some ⟨la, 0, none⟩) R cA cR us D m z { s' with img := secPut s'.img i x } := by
  obtain ⟨vs', D', hI, hD, hc⟩ := h
  obtain ⟨q, c, e⟩ := Go.Joins.ownsRow_form ho (by omega)
  have hq := ho.block q (by rw [e]; rfl)
  have hlt := hI.lt
  have hI2 := (hI.keep hW).sec (i := i) (u := v) (x := x) (D' := q :: D') hok hi hx (fun b hb => List.mem_cons_of_mem _ hb) (fun b hb => by
    rcases List.mem_cons.1 hb with rfl | hb
    · right
      have h1 := hlt g (.inl rfl)
      have h2 := hlt la (.inr (.inl rfl))
      refine ⟨by omega, hq.2, by omega, by omega, fun e => ?_⟩
      have := hlt b (.inr (.inr (.inl e))); omega
    · exact .inl hb) (SecV.of_own ho (fun b eb => by rw [e] at eb; cases eb; simp))
  refine ⟨_, _, hI2, fun b hb => ?_, (hc.trans (Chg.of_below (L := []) hW) (fun _ hm => by cases hm)).trans (chg_set (L := [la]) (by simp) _ _) (fun b hb => .inl (by rw [List.mem_singleton.1 hb]; simp [rowOf]))⟩
  rcases List.mem_cons.1 hb with rfl | hb
  · right; have := hc.size; omega
  · exact hD b hb
theorem CrI.keep {w0 wr W : World} {base g : Nat} {A R : Option Addr} {cA cR : Nat} {us : List Value} {D : List Nat} {m : Nat} {z : Int} {s' : DS} (h : CrI w0 wr base g A R cA cR us D m z s') (hW : Below wr.heap.size wr W) : CrI w0 W base g A R cA cR us D m z s' := by
  obtain ⟨vs', D', hI, hD, hc⟩ := h
  exact ⟨vs', D', hI.keep hW, hD, hc.trans (Chg.of_below (L := []) hW) (fun _ hm => by cases hm)⟩
theorem ix_keep (b off n c k : Nat) (h : k < n) (W : World) : (Instr.indexAt 33 (.slice (some ⟨b, off, none⟩) n c) (.int .i64 (k : Int))).run Try.prog W = .ok (.pointer (some ⟨b, off + k, none⟩)) W := ix_bool b off n c k h W
def dcVal (g k la r b c xi sn ln cA cR : Nat) : Nat → Value → Value
  | 0, _ => .pointer (some ⟨g, 0, none⟩)
  | 1, _ => .pointer (some ⟨g, 0, none⟩)
  | 2, _ => .pointer (some ⟨g, 0, none⟩)
  | 3, _ => .slice (some ⟨la, 0, none⟩) sn cA
  | 4, _ => .pointer (some ⟨g, 0, none⟩)
  | 5, _ => .pointer (some ⟨g, 0, none⟩)
  | 6, _ => .pointer (some ⟨g, 1, none⟩)
  | 7, _ => .slice (some ⟨r, 0, none⟩) ln cR
  | 8, _ => .int .i64 (k : Int)
  | 9, _ => .pointer (some ⟨r, 2 * k, none⟩)
  | 10, _ => .pointer (some ⟨r, 2 * k, none⟩)
  | 11, _ => .int .i64 (xi : Int)
  | 12, k => k
  | 13, _ => .pointer (some ⟨g, 0, none⟩)
  | 14, _ => .pointer (some ⟨g, 0, none⟩)
  | 15, _ => .pointer (some ⟨g, 1, none⟩)
  | 16, _ => .slice (some ⟨r, 0, none⟩) ln cR
  | 17, _ => .int .i64 (k : Int)
  | 18, _ => .pointer (some ⟨r, 2 * k, none⟩)
  | 19, _ => .pointer (some ⟨r, 2 * k + 1, none⟩)
  | 20, _ => .slice (some ⟨b, 0, none⟩) 64 c
  | 21, k => k
  | 22, _ => .pointer (some ⟨la, xi, none⟩)
  | _, _ => undef
def dtVal (g la wq b c b2 c9 xi u sn cA : Nat) : Nat → Value → Value
  | 0, _ => .pointer (some ⟨g, 0, none⟩)
  | 1, _ => .pointer (some ⟨g, 0, none⟩)
  | 2, _ => .pointer (some ⟨g, 0, none⟩)
  | 3, _ => .slice (some ⟨la, 0, none⟩) sn cA
  | 4, _ => .pointer (some ⟨wq, 0, none⟩)
  | 5, _ => .int .i64 (xi : Int)
  | 6, k => k
  | 7, _ => .pointer (some ⟨wq, 1, none⟩)
  | 8, _ => .slice (some ⟨b, 0, none⟩) 64 c
  | 9, _ => .int .i64 (u : Int)
  | 10, _ => .slice (some ⟨b, 0, none⟩) u c
  | 11, k => k
  | 12, _ => .pointer (some ⟨g, 0, none⟩)
  | 13, _ => .pointer (some ⟨g, 0, none⟩)
  | 14, _ => .pointer (some ⟨g, 0, none⟩)
  | 15, _ => .slice (some ⟨la, 0, none⟩) sn cA
  | 16, _ => .pointer (some ⟨wq, 0, none⟩)
  | 17, _ => .int .i64 (xi : Int)
  | 18, _ => .pointer (some ⟨la, xi, none⟩)
  | 19, _ => .slice (some ⟨b2, 0, none⟩) 64 c9
  | 20, _ => .int .i64 (u : Int)
  | 21, _ => .slice (some ⟨b2, u, none⟩) (64 - u) (c9 - u)
  | 22, k => k
  | 23, _ => .pointer (some ⟨la, xi, none⟩)
  | _, _ => undef
section
variable (base g m : Nat) (F : List Nat) (s : DS) (w : World)
set_option maxHeartbeats 8000000 in
set_option maxRecDepth 20000 in
theorem rCrash_calls (nk ck : Nat) (Ak : Option Addr) (keep : List Bool) (t : Int) (h : RdB w base F g m s) (hlo : s.loose.length ≤ 1000000) (hkb : KB w Ak nk keep) (hne : 0 < nk → ∀ b off, Ak = some ⟨b, off, none⟩ → b ∉ F) (hnk : nk ≤ 1099511627776) :
    Calls Try.prog 40 #[.pointer (some ⟨g, 0, none⟩), .slice Ak nk ck, .int .i64 t] w (RdPost w base F g m (crashD s keep t) (.int .i64 (crashE t : Int))) := by
  have HS := hid h
  obtain ⟨A, R, cA, cR, vs, us, D, z, h, hok, hsn, hF, hlt⟩ := h
  by_cases ht : 0 ≤ t ∧ t < 64
  · obtain ⟨u, rfl⟩ : ∃ u : Nat, t = (u : Int) := ⟨t.toNat, by omega⟩
    have hu : u < 64 := by omega
    have HE := hid (show crashE (u : Int) = 0 from if_pos ht)
    have HSS := hid (show crashD s keep (u : Int) = { brokeS s keep u with fuse := none, out := false } from by unfold crashD; rw [if_pos ht]; rfl)
    have HFI := hid (show ∀ wr, CrI w wr base g A R cA cR us D m z { s with img := crashI s.img s.loose keep u } → ∀ w', Chg [g] wr w' → Blk w' g 69 #[.slice A s.n cA, .slice none 0 0, .bool false, .int .i64 z, .bool false] → RdPost w base F g m { brokeS s keep u with fuse := none, out := false } (.int .i64 0) (.returned (.int .i64 0)) w' from by
      rintro wr ⟨vs', D', hI, hD, hc⟩ w' hc2 hb
      have hbo := broke_ok hok keep (t := u) (by omega)
      refine RdPost.of hF hlt (hI.none_ (s' := { brokeS s keep u with fuse := none, out := false }) hc2 rfl rfl rfl hb (fun k hk => by cases hk)) ⟨hbo.n1, hbo.n2, hbo.nb, hbo.lo⟩ (by unfold Sane; exact broke_sane hok hsn keep (by omega)) ((hc.more (L' := F) (fun b hb => .inl ?_)).trans hc2 (fun b hb => .inl (by rw [List.mem_singleton.1 hb]; exact hF g (.inl rfl)))) (fun b hb => ?_) _
      · rcases List.mem_cons.1 hb with e | hb
        · exact hF b (.inl e)
        · exact hF b (.inr (.inl (by simpa using hb)))
      · rcases hb with hb | hb | hb | hb
        · exact .inl (hF b (.inl hb))
        · exact .inl (hF b (.inr (.inl hb)))
        · cases hb
        · rcases hD b hb with h1 | h1
          · exact .inl (hF b (.inr (.inr (.inr h1))))
          · exact .inr h1)
    have HOK := hid hok
    have HHD := hid (fun wr (hI : CrI w wr base g A R cA cR us D m z { s with img := crashI s.img s.loose keep u }) => (show Blk wr g 69 #[.slice A s.n cA, .slice R s.loose.length cR, .bool s.fuse.isSome, .int .i64 z, .bool s.out] from by obtain ⟨vs', D', hI, -⟩ := hI; exact hI.hd))
    have HCI := hid (show CrI w w base g A R cA cR us D m z (ckS s keep 0) from ⟨vs, D, h, fun b hb => .inl hb, Chg.refl _ _⟩)
    have HKB := hid (fun wr (hc : Chg (g :: (rowOf A).toList) w wr) => hkb.chg hc (fun hn b off e hm => hne hn b off e (by
      rcases List.mem_cons.1 hm with e | hm
      · exact hF b (.inl e)
      · exact hF b (.inr (.inl (by simpa using hm))))))
    have e1 : ¬ (u : Int) < 0 := by omega
    have e2 : ¬ (64 : Int) ≤ (u : Int) := by omega
    rw [HE.out, HSS.out]
    clear h hok hF hlt HS hsn hkb hne ht HE HSS
    generalize hs' : ({ brokeS s keep u with fuse := none, out := false } : DS) = s' at HFI ⊢
    clear hs'
    go_enter Try.func40, Try.ntmps40
    go_wp2_with fail
    go_loopw [7, 8] (fun l i wr => ∃ k : Nat, k ≤ s.loose.length ∧ i = .int .i64 (k : Int) ∧ l = .int .i64 (crashP s.img s.loose keep k).2 ∧ Hid (CrI w wr base g A R cA cR us D m z (ckS s keep k))) (fun _ i _ => s.loose.length - (intOf i).toNat)
    case atStart => exact ⟨0, Nat.zero_le _, rfl, rfl, HCI⟩
    case round =>
      clear HCI
      obtain ⟨k, hk, rfl, rfl, HCI⟩ := hrel
      have HP := hid (crashP_ok keep HOK.out.n2 HOK.out.lo k hk)
      obtain ⟨vs', D', hI, hD, hc⟩ := HCI.out
      have c1 : wr.cell? ⟨g, 1, none⟩ = some (.slice R s.loose.length cR) := hI.hd.cell 1 rfl
      have HKW := hid (HKB.out wr hc)
      have HIN := hid hI
      clear hD hc hI
      by_cases hlt : k < s.loose.length
      · obtain ⟨r, b, c, x, rfl, hx, k1, k2, hbD, hs, hu2, h64⟩ := RdIn.wrs base g (ckS s keep k) wr HIN.out (show k < (ckS s keep k).loose.length from hlt)
        have hx : s.loose[k]? = some x := hx
        have hxo := HOK.out.lo x (List.mem_of_getElem? hx)
        have hN := hid (crashP_next s.img s.loose keep k x hx)
        have q0 : (k : Int) < (s.loose.length : Int) := by omega
        have HLO := hid hlo
        by_cases hkn : k < nk
        · have q2 : (k : Int) < (nk : Int) := by omega
          obtain ⟨bk, ok, rfl, hkc⟩ := HKW.out.2 (by omega)
          have hkl : k < keep.length := by have := HKW.out.1; omega
          have hkv := hkc k _ (List.getElem?_eq_getElem hkl)
          have hixk := fun W => ix_keep bk ok nk ck k hkn W
          have HKA := hid (show keptAt keep k = keep[k] from by unfold keptAt; rw [List.getElem?_eq_getElem hkl]; rfl)
          clear hkc
          by_cases hkeep : keep[k] = true
          · rw [hkeep] at hkv
            have hN2 := hN.out
            rw [if_pos (by rw [HKA.out]; exact hkeep)] at hN2
            obtain ⟨la, b2, c2, rfl, -⟩ := RdIn.secs base g (ckS s keep k) wr HIN.out (show x.1 < (ckS s keep k).n from hxo.1)
            have hIL := (HIN.out.lt r (.inr (.inr (.inl rfl))))
            obtain ⟨T, hT⟩ : ∃ T : World → Prop, ∀ W, T W ↔ CrI w W base g (some ⟨la, 0, none⟩) (some ⟨r, 0, none⟩) cA cR us D m z (ckS s keep (k + 1)) := ⟨_, fun _ => Iff.rfl⟩
            have HNX := hid (show ∀ W v, Below wr.heap.size wr W → Own W wr.heap.size 5 v 64 x.2 → T (W.setCell ⟨la, x.1, none⟩ v) from fun W v hW ho => (hT _).2 (by
              have hI3 := HCI.out.store (i := x.1) (x := x.2) HP.out.1 hxo.1 hxo.2 hW ho
              have e : ({ ckS s keep k with img := secPut (ckS s keep k).img x.1 x.2 } : DS) = ckS s keep (k + 1) := by unfold ckS; rw [hN2]
              rw [e] at hI3
              exact hI3))
            have HC0 := hid (fun W (hW : Below wr.heap.size wr W) => ((hW.cell (lt_of_cell (HIN.out.hd.cell 0 rfl))).trans (HIN.out.hd.cell 0 rfl) : W.cell? ⟨g, 0, none⟩ = some (.slice (some ⟨la, 0, none⟩) s.n cA)))
            have HC1 := hid (fun W (hW : Below wr.heap.size wr W) => ((hW.cell (lt_of_cell c1)).trans c1 : W.cell? ⟨g, 1, none⟩ = some (.slice (some ⟨r, 0, none⟩) s.loose.length cR)))
            have HK1 := hid (fun W (hW : Below wr.heap.size wr W) => (hW.cell (lt_of_cell k1)).trans k1)
            have HK2 := hid (fun W (hW : Below wr.heap.size wr W) => (hW.cell (lt_of_cell k2)).trans k2)
            have HA0 := hid (fun W (hW : Below wr.heap.size wr W) => (show (∃ v, W.cell? ⟨la, x.1, none⟩ = some v) ∧ W.frozen? ⟨la, x.1, none⟩ = false from by
              have h1 := World.ownsRow.cellAt (HIN.out.keep hW).lr x.1 (by have := hxo.1; show x.1 < s.n * 1; omega)
              have h2 := World.ownsRow.frozenAt (HIN.out.keep hW).lr x.1
              obtain ⟨v, hv⟩ : ∃ v, vs'[x.1]? = some v := ⟨_, List.getElem?_eq_getElem (by rw [HIN.out.vl]; exact hxo.1)⟩
              exact ⟨⟨v, h1.trans hv⟩, h2⟩))
            have HSB := hid (show SB wr wr.heap.size (some ⟨b, 0, none⟩) 64 x.2 from hs.more (by have := (HIN.out.dd b hbD).2.1; omega))
            have HTT := hid hT
            have HPN := hid (show (crashP s.img s.loose keep (k + 1)).2 = (crashP s.img s.loose keep k).2 from by rw [hN2])
            have hixw := fun W => ix_wr r s.loose.length cR k hlt W
            have hixr := fun W => ix_row la s.n cA x.1 hxo.1 W
            clear hbD hs hu2 hx hxo k1 k2 h64 HIN HCI hN hN2 hT HKA HP hIL
            obtain ⟨xi, xb⟩ := x
            simp only at HNX HK1 HA0 hixr HSB
            generalize (crashP s.img s.loose keep k).2 = lst at HPN ⊢
            have HST := hid (CrS.start wr xb T)
            go_wp2_with fail
            clear c1 hkv
            refine wp_region_invG 101 (.pointer none) (dcVal g k la r b c xi s.n s.loose.length cA cR) (CrS wr xb T) (by kernel_rfl) (by kernel_rfl) (by exact Nat.le_refl 101) ?_ ?_ ?_
            · exact HST.out
            · intro i o f gh a W hi hf hdep hsame hcl hval hS
              rcases i with _ | _ | _ | _ | _ | _ | _ | _ | _ | _ | _ | _ | _ | _ | _ | _ | _ | _ | _ | _ | _ | _ | _ | _ | i
              all_goals simp only [List.getElem?_cons_succ, List.getElem?_cons_zero, List.getElem?_nil, Option.some.injEq, reduceCtorEq] at hi
              all_goals subst hi
              · have E0 : a.tmps[0]? = some (.pointer (some ⟨g, 0, none⟩)) := (same_of hsame 0 (by rfl)).trans rfl
                refine g_plain rfl ?_
                exact does_value (w' := W) (v := .pointer (some ⟨g, 0, none⟩)) (by go_simp) ⟨.pointer none, .inr rfl, hS.step 0 (.pointer none) (by decide) (by decide) (by decide)⟩
              · have E35 := hval 0 _ 35 rfl rfl (dep_of hdep 0 (by rfl))
                unfold dcVal at E35
                refine g_plain rfl ?_
                exact does_value (w' := W) (v := .pointer (some ⟨g, 0, none⟩)) (by go_simp) ⟨.pointer none, .inr rfl, hS.step 1 (.pointer none) (by decide) (by decide) (by decide)⟩
              · have E36 := hval 1 _ 36 rfl rfl (dep_of hdep 1 (by rfl))
                unfold dcVal at E36
                refine g_plain rfl ?_
                exact does_value (w' := W) (v := .pointer (some ⟨g, 0, none⟩)) (by go_simp) ⟨.pointer none, .inr rfl, hS.step 2 (.pointer none) (by decide) (by decide) (by decide)⟩
              · have E37 := hval 2 _ 37 rfl rfl (dep_of hdep 2 (by rfl))
                unfold dcVal at E37
                have n22 := not_yet hcl hf 22 (by rfl)
                have n23 := not_yet hcl n22 23 (by rfl)
                have c1 := HC0.out W (hS.bel n23)
                refine g_plain rfl ?_
                exact does_value (w' := W) (v := .slice (some ⟨la, 0, none⟩) s.n cA) (by go_simp) ⟨.pointer none, .inr rfl, hS.step 3 (.pointer none) (by decide) (by decide) (by decide)⟩
              · have E0 : a.tmps[0]? = some (.pointer (some ⟨g, 0, none⟩)) := (same_of hsame 0 (by rfl)).trans rfl
                refine g_plain rfl ?_
                exact does_value (w' := W) (v := .pointer (some ⟨g, 0, none⟩)) (by go_simp) ⟨.pointer none, .inr rfl, hS.step 4 (.pointer none) (by decide) (by decide) (by decide)⟩
              · have E39 := hval 4 _ 39 rfl rfl (dep_of hdep 4 (by rfl))
                unfold dcVal at E39
                refine g_plain rfl ?_
                exact does_value (w' := W) (v := .pointer (some ⟨g, 0, none⟩)) (by go_simp) ⟨.pointer none, .inr rfl, hS.step 5 (.pointer none) (by decide) (by decide) (by decide)⟩
              · have E40 := hval 5 _ 40 rfl rfl (dep_of hdep 5 (by rfl))
                unfold dcVal at E40
                refine g_plain rfl ?_
                exact does_value (w' := W) (v := .pointer (some ⟨g, 1, none⟩)) (by go_simp) ⟨.pointer none, .inr rfl, hS.step 6 (.pointer none) (by decide) (by decide) (by decide)⟩
              · have E41 := hval 6 _ 41 rfl rfl (dep_of hdep 6 (by rfl))
                unfold dcVal at E41
                have n9 := not_yet hcl hf 9 (by rfl)
                have n10 := not_yet hcl n9 10 (by rfl)
                have n11 := not_yet hcl n10 11 (by rfl)
                have n22 := not_yet hcl n11 22 (by rfl)
                have n23 := not_yet hcl n22 23 (by rfl)
                have c1 := HC1.out W (hS.bel n23)
                refine g_plain rfl ?_
                exact does_value (w' := W) (v := .slice (some ⟨r, 0, none⟩) s.loose.length cR) (by go_simp) ⟨.pointer none, .inr rfl, hS.step 7 (.pointer none) (by decide) (by decide) (by decide)⟩
              · have E8 : a.tmps[8]? = some (.int .i64 (k : Int)) := (same_of hsame 8 (by rfl)).trans rfl
                refine g_plain rfl ?_
                exact does_value (w' := W) (v := .int .i64 (k : Int)) (by go_simp) ⟨.pointer none, .inr rfl, hS.step 8 (.pointer none) (by decide) (by decide) (by decide)⟩
              · have E42 := hval 7 _ 42 rfl rfl (dep_of hdep 7 (by rfl))
                have E43 := hval 8 _ 43 rfl rfl (dep_of hdep 8 (by rfl))
                unfold dcVal at E42 E43
                refine g_plain rfl ?_
                exact does_value (w' := W) (v := .pointer (some ⟨r, 2 * k, none⟩)) (by go_simp) ⟨.pointer none, .inr rfl, hS.step 9 (.pointer none) (by decide) (by decide) (by decide)⟩
              · have E44 := hval 9 _ 44 rfl rfl (dep_of hdep 9 (by rfl))
                unfold dcVal at E44
                refine g_plain rfl ?_
                exact does_value (w' := W) (v := .pointer (some ⟨r, 2 * k, none⟩)) (by go_simp) ⟨.pointer none, .inr rfl, hS.step 10 (.pointer none) (by decide) (by decide) (by decide)⟩
              · have E45 := hval 10 _ 45 rfl rfl (dep_of hdep 10 (by rfl))
                unfold dcVal at E45
                have n22 := not_yet hcl hf 22 (by rfl)
                have n23 := not_yet hcl n22 23 (by rfl)
                have c1 := HK1.out W (hS.bel n23)
                refine g_plain rfl ?_
                exact does_value (w' := W) (v := .int .i64 (xi : Int)) (by go_simp) ⟨.pointer none, .inr rfl, hS.step 11 (.pointer none) (by decide) (by decide) (by decide)⟩
              · refine g_plain rfl ?_
                exact does_value (w' := W.alloc (.cells #[] 5)) (v := .slice (some ⟨W.heap.size, 0, none⟩) 0 0) (by go_simp) ⟨.slice (some ⟨W.heap.size, 0, none⟩) 0 0, .inr rfl, hS.s12 hf⟩
              · have E0 : a.tmps[0]? = some (.pointer (some ⟨g, 0, none⟩)) := (same_of hsame 0 (by rfl)).trans rfl
                refine g_plain rfl ?_
                exact does_value (w' := W) (v := .pointer (some ⟨g, 0, none⟩)) (by go_simp) ⟨.pointer none, .inr rfl, hS.step 13 (.pointer none) (by decide) (by decide) (by decide)⟩
              · have E48 := hval 13 _ 48 rfl rfl (dep_of hdep 13 (by rfl))
                unfold dcVal at E48
                refine g_plain rfl ?_
                exact does_value (w' := W) (v := .pointer (some ⟨g, 0, none⟩)) (by go_simp) ⟨.pointer none, .inr rfl, hS.step 14 (.pointer none) (by decide) (by decide) (by decide)⟩
              · have E49 := hval 14 _ 49 rfl rfl (dep_of hdep 14 (by rfl))
                unfold dcVal at E49
                refine g_plain rfl ?_
                exact does_value (w' := W) (v := .pointer (some ⟨g, 1, none⟩)) (by go_simp) ⟨.pointer none, .inr rfl, hS.step 15 (.pointer none) (by decide) (by decide) (by decide)⟩
              · have E50 := hval 15 _ 50 rfl rfl (dep_of hdep 15 (by rfl))
                unfold dcVal at E50
                have n18 := not_yet hcl hf 18 (by rfl)
                have n19 := not_yet hcl n18 19 (by rfl)
                have n20 := not_yet hcl n19 20 (by rfl)
                have n21 := not_yet hcl n20 21 (by rfl)
                have n23 := not_yet hcl n21 23 (by rfl)
                have c1 := HC1.out W (hS.bel n23)
                refine g_plain rfl ?_
                exact does_value (w' := W) (v := .slice (some ⟨r, 0, none⟩) s.loose.length cR) (by go_simp) ⟨.pointer none, .inr rfl, hS.step 16 (.pointer none) (by decide) (by decide) (by decide)⟩
              · have E8 : a.tmps[8]? = some (.int .i64 (k : Int)) := (same_of hsame 8 (by rfl)).trans rfl
                refine g_plain rfl ?_
                exact does_value (w' := W) (v := .int .i64 (k : Int)) (by go_simp) ⟨.pointer none, .inr rfl, hS.step 17 (.pointer none) (by decide) (by decide) (by decide)⟩
              · have E51 := hval 16 _ 51 rfl rfl (dep_of hdep 16 (by rfl))
                have E52 := hval 17 _ 52 rfl rfl (dep_of hdep 17 (by rfl))
                unfold dcVal at E51 E52
                refine g_plain rfl ?_
                exact does_value (w' := W) (v := .pointer (some ⟨r, 2 * k, none⟩)) (by go_simp) ⟨.pointer none, .inr rfl, hS.step 18 (.pointer none) (by decide) (by decide) (by decide)⟩
              · have E53 := hval 18 _ 53 rfl rfl (dep_of hdep 18 (by rfl))
                unfold dcVal at E53
                refine g_plain rfl ?_
                exact does_value (w' := W) (v := .pointer (some ⟨r, 2 * k + 1, none⟩)) (by go_simp) ⟨.pointer none, .inr rfl, hS.step 19 (.pointer none) (by decide) (by decide) (by decide)⟩
              · have E54 := hval 19 _ 54 rfl rfl (dep_of hdep 19 (by rfl))
                unfold dcVal at E54
                have n21 := not_yet hcl hf 21 (by rfl)
                have n23 := not_yet hcl n21 23 (by rfl)
                have c1 := HK2.out W (hS.bel n23)
                refine g_plain rfl ?_
                exact does_value (w' := W) (v := .slice (some ⟨b, 0, none⟩) 64 c) (by go_simp) ⟨.pointer none, .inr rfl, hS.step 20 (.pointer none) (by decide) (by decide) (by decide)⟩
              · have E47 := hval 12 _ 47 rfl rfl (dep_of hdep 12 (by rfl))
                have E55 := hval 20 _ 55 rfl rfl (dep_of hdep 20 (by rfl))
                unfold dcVal at E47 E55
                refine g_plain rfl ?_
                obtain ⟨v', W', hr, hS'⟩ := hS.s21 (c2 := c) (dep_of hdep 12 (by rfl)) hf HSB.out 37 37 Try.underlying37
                exact does_append _ _ _ rfl (by rw [eval_getD, E47]; rfl) (by rw [eval_getD, E55]; rfl) hr ⟨v', .inr rfl, hS'⟩
              · have E38 := hval 3 _ 38 rfl rfl (dep_of hdep 3 (by rfl))
                have E46 := hval 11 _ 46 rfl rfl (dep_of hdep 11 (by rfl))
                unfold dcVal at E38 E46
                refine g_plain rfl ?_
                exact does_value (w' := W) (v := .pointer (some ⟨la, xi, none⟩)) (by go_simp) ⟨.pointer none, .inr rfl, hS.step 22 (.pointer none) (by decide) (by decide) (by decide)⟩
              · have E57 := hval 22 _ 57 rfl rfl (dep_of hdep 22 (by rfl))
                have E56 := hval 21 _ 56 rfl rfl (dep_of hdep 21 (by rfl))
                unfold dcVal at E57 E56
                refine g_plain rfl ?_
                have hB := hS.bel hf
                obtain ⟨⟨v0, c0⟩, z0⟩ := HA0.out W hB
                have hown := hS.b (dep_of hdep 21 (by rfl)) hf
                obtain ⟨q8, c8, e8⟩ := Go.Joins.ownsRow_form hown (by omega)
                have hTN := HNX.out W _ hB hown
                rw [e8] at E56 hTN
                exact does_skip (w' := W.setCell ⟨la, xi, none⟩ (.slice (some ⟨q8, 0, none⟩) 64 c8)) (by go_simp) ⟨.pointer none, .inl rfl, hS.s23 (dep_of hdep 21 (by rfl)) (.pointer none) hTN⟩
            · intro gh w8 hS
              have HI8 := hid ((HTT.out w8).1 (hS.up rfl).2)
              clear hS HST HTT HNX HC0 HC1 HK1 HK2 HA0 HSB
              simp only [putAll, dcVal, Nat.reduceAdd, Nat.zero_add, Act.put, List.setIfInBounds_toArray, List.set_cons_zero, List.set_cons_succ]
              have hlo9 := HLO.out
              go_wp2_with fail
              go_roundw
              case rel => exact ⟨k + 1, by omega, by go_num, by rw [HPN.out], HI8⟩
              case measure => simp [intOf]; omega
          · have hkf : keep[k] = false := by simpa using hkeep
            rw [hkf] at hkv
            have hN2 := hN.out
            rw [if_neg (by rw [HKA.out]; exact hkeep)] at hN2
            have HCI2 := hid (show CrI w wr base g A (some ⟨r, 0, none⟩) cA cR us D m z (ckS s keep (k + 1)) from by unfold ckS; rw [hN2]; exact HCI.out)
            have HPN := hid (show (crashP s.img s.loose keep (k + 1)).2 = (k : Int) from by rw [hN2])
            clear hN hN2 HCI HIN HKW HP hs hbD hu2 hx hxo k1 k2 h64 HKA hkeep hkf
            generalize (crashP s.img s.loose keep k).2 = lst
            have hlo9 := HLO.out
            go_wp2_with fail
            go_roundw
            case rel => exact ⟨k + 1, by omega, by go_num, by rw [HPN.out], HCI2⟩
            case measure => simp [intOf]; omega
        · have q2 : ¬ (k : Int) < (nk : Int) := by omega
          have hN2 := hN.out
          rw [if_neg (by unfold keptAt; rw [List.getElem?_eq_none (by have := HKW.out.1; omega)]; decide)] at hN2
          have HCI2 := hid (show CrI w wr base g A (some ⟨r, 0, none⟩) cA cR us D m z (ckS s keep (k + 1)) from by unfold ckS; rw [hN2]; exact HCI.out)
          have HPN := hid (show (crashP s.img s.loose keep (k + 1)).2 = (k : Int) from by rw [hN2])
          clear hN hN2 HCI HIN HKW HP hs hbD hu2 hx hxo k1 k2 h64
          generalize (crashP s.img s.loose keep k).2 = lst
          have hlo9 := HLO.out
          go_wp2_with fail
          go_roundw
          case rel => exact ⟨k + 1, by omega, by go_num, by rw [HPN.out], HCI2⟩
          case measure => simp [intOf]; omega
      · obtain rfl : k = s.loose.length := by omega
        have q0 : ¬ (s.loose.length : Int) < (s.loose.length : Int) := by omega
        have f1 := HIN.out.hd.frozen 1
        have f2 := HIN.out.hd.frozen 2
        have f4 := HIN.out.hd.frozen 4
        have c2 : wr.cell? ⟨g, 2, none⟩ = some (.bool s.fuse.isSome) := HIN.out.hd.cell 2 rfl
        have c4 : wr.cell? ⟨g, 4, none⟩ = some (.bool s.out) := HIN.out.hd.cell 4 rfl
        by_cases hl : 0 ≤ (crashP s.img s.loose keep s.loose.length).2
        · obtain ⟨l, hle⟩ : ∃ l : Nat, (crashP s.img s.loose keep s.loose.length).2 = (l : Int) := ⟨(crashP s.img s.loose keep s.loose.length).2.toNat, by omega⟩
          have hll : l < s.loose.length := by have := HP.out.2.2; omega
          obtain ⟨r, b, c, x, rfl, hx, k1, k2, hbD, hs, hu2, h64⟩ := RdIn.wrs base g (ckS s keep s.loose.length) wr HIN.out (show l < (ckS s keep s.loose.length).loose.length from hll)
          have hx : s.loose[l]? = some x := hx
          have hxo := HOK.out.lo x (List.mem_of_getElem? hx)
          obtain ⟨la, b2, c9, rfl, hca, hb2D, hs2, h642, -⟩ := RdIn.secs base g (ckS s keep s.loose.length) wr HIN.out (show x.1 < (ckS s keep s.loose.length).n from hxo.1)
          have hixl := fun W => ix_wr r s.loose.length cR l hll W
          have q3 : (0 : Int) ≤ (l : Int) := by omega
          rw [hle]
          have hb5 := below_new wr (.cells #[.int .i64 (x.1 : Int), .slice (some ⟨b, 0, none⟩) 64 c] 75)
          have hk5 := Blk.new wr 75 #[.int .i64 (x.1 : Int), .slice (some ⟨b, 0, none⟩) 64 c]
          have HB5 := hid hb5; have HK5 := hid hk5
          have HSL := hid (show (secAt (ckS s keep s.loose.length).img x.1).length = 64 from hs2.1)
          have HIM := hid (show ({ ckS s keep s.loose.length with img := secPut (ckS s keep s.loose.length).img x.1 (x.2.take u ++ (secAt (ckS s keep s.loose.length).img x.1).drop u) } : DS) = { s with img := crashI s.img s.loose keep u } from by
            unfold ckS
            simp only
            rw [← tear_put _ _ _ _ (by omega), crashI_pos (p1 := (crashP s.img s.loose keep s.loose.length).1) (by rw [← hle]) hx])
          have HX1 := hid (show (x.2.take u ++ (secAt (ckS s keep s.loose.length).img x.1).drop u).length = 64 from by
            rw [List.length_append, List.length_take, List.length_drop, HSL.out, hxo.2]; omega)
          obtain ⟨x2, hx2⟩ : ∃ x2, (secAt (ckS s keep s.loose.length).img x.1).drop u = x2 := ⟨_, rfl⟩
          obtain ⟨T, hT⟩ : ∃ T : World → Prop, ∀ W, T W ↔ CrI w W base g (some ⟨la, 0, none⟩) (some ⟨r, 0, none⟩) cA cR us D m z { s with img := crashI s.img s.loose keep u } := ⟨_, fun _ => Iff.rfl⟩
          have HNX := hid (fun (w5 : World) (h5 : Below wr.heap.size wr w5) => (show ∀ W v, Below w5.heap.size w5 W → Own W w5.heap.size 5 v 64 (x.2.take u ++ x2) → T (W.setCell ⟨la, x.1, none⟩ v) from fun W v hW ho => (hT _).2 (by
            rw [← hx2] at ho
            have hI3 := (HCI.out.keep h5).store (i := x.1) (x := x.2.take u ++ (secAt (ckS s keep s.loose.length).img x.1).drop u) HP.out.1 hxo.1 HX1.out hW ho
            rw [HIM.out] at hI3
            exact hI3)))
          have HSB1 := hid (fun (w5 : World) (h5 : Below wr.heap.size wr w5) => (show SB w5 w5.heap.size (some ⟨b, 0, none⟩) u (x.2.take u) from ((show SB wr wr.heap.size (some ⟨b, 0, none⟩) 64 x.2 from hs.more (by have := (HIN.out.dd b hbD).2.1; omega)).take u (by omega)).keep h5 |>.more h5.size))
          have HSB2 := hid (fun (w5 : World) (h5 : Below wr.heap.size wr w5) => (show SB w5 w5.heap.size (some ⟨b2, u, none⟩) (64 - u) x2 from by
            have hd := (((show SB wr wr.heap.size (some ⟨b2, 0, none⟩) 64 _ from hs2.more (by have := (HIN.out.dd b2 hb2D).2.1; omega)).drop (k := u) (c := c9) (by omega) h642).keep h5).more h5.size
            rw [if_neg (by omega), Option.map_some, Addr.add_lit, Nat.zero_add, hx2] at hd
            exact hd))
          have hcu : ¬ c < u := by omega
          have hcu9 : ¬ c9 = u := by omega
          have hu9 : (u : Int) ≤ 64 := by omega
          have HHC := hid (fun (W : World) (hW : Below wr.heap.size wr W) => ((hW.cell (lt_of_cell (HIN.out.hd.cell 0 rfl))).trans (HIN.out.hd.cell 0 rfl) : W.cell? ⟨g, 0, none⟩ = some (.slice (some ⟨la, 0, none⟩) s.n cA)))
          have HKC := hid (fun (W : World) (hW : Below wr.heap.size wr W) => (hW.cell (lt_of_cell hca)).trans hca)
          have HA5 := hid (fun W (hW : Below wr.heap.size wr W) => (show (∃ v, W.cell? ⟨la, x.1, none⟩ = some v) ∧ W.frozen? ⟨la, x.1, none⟩ = false from by
            have h1 := World.ownsRow.cellAt (HIN.out.keep hW).lr x.1 (by have := hxo.1; show x.1 < s.n * 1; omega)
            have h2 := World.ownsRow.frozenAt (HIN.out.keep hW).lr x.1
            obtain ⟨v, hv⟩ : ∃ v, vs'[x.1]? = some v := ⟨_, List.getElem?_eq_getElem (by rw [HIN.out.vl]; exact hxo.1)⟩
            exact ⟨⟨v, h1.trans hv⟩, h2⟩))
          have HTT := hid hT
          have HU64 := hid (show u ≤ 64 by omega)
          have hixr := fun W => ix_row la s.n cA x.1 hxo.1 W
          go_wp2_with fail
          obtain ⟨xi, xb⟩ := x
          simp only at HB5 HK5 HNX HSB1 HKC HA5 hixr ⊢
          generalize hw5 : wr.alloc (.cells #[.int .i64 (xi : Int), .slice (some ⟨b, 0, none⟩) 64 c] 75) = w5 at HB5 HK5 ⊢
          generalize wr.heap.size = wq at HK5 ⊢
          have HNX5 := hid (HNX.out w5 HB5.out); have HSB15 := hid (HSB1.out w5 HB5.out); have HSB25 := hid (HSB2.out w5 HB5.out)
          have HC0 := hid (fun W (hW : Below w5.heap.size w5 W) => HHC.out W (HB5.out.trans (hW.mono HB5.out.size)))
          have HK2 := hid (fun W (hW : Below w5.heap.size w5 W) => HKC.out W (HB5.out.trans (hW.mono HB5.out.size)))
          have HA0 := hid (fun W (hW : Below w5.heap.size w5 W) => HA5.out W (HB5.out.trans (hW.mono HB5.out.size)))
          have HW0 := hid (fun W (hW : Below w5.heap.size w5 W) => (HK5.out.keep hW).cell 0 rfl)
          have HW1 := hid (fun W (hW : Below w5.heap.size w5 W) => (HK5.out.keep hW).cell 1 rfl)
          have HFI2 := hid (fun w8 (h8 : T w8) => HFI.out w8 ((HTT.out w8).1 h8))
          have HHD2 := hid (fun w8 (h8 : T w8) => HHD.out w8 ((HTT.out w8).1 h8))
          clear hw5 HNX HSB1 HSB2 HHC HKC HA5 HTT HFI HHD HIN HCI HKW HP HB5 HK5 HIM HX1 HSL hT hx2 hs hs2 hu2 hbD hb2D hca k1 k2 hx hxo hb5 hk5 hle f1 f2 f4 c2 c4 c1
          have HSB1 := HSB15; have HSB2 := HSB25; have HNX := HNX5
          clear HSB15 HSB25 HNX5
          have HST := hid (C2S.start w5 u (xb.take u) x2 T)
          refine wp_region_invG 101 (.pointer none) (dtVal g la wq b c b2 c9 xi u s.n cA) (C2S w5 u (xb.take u) x2 T) (by kernel_rfl) (by kernel_rfl) (by exact Nat.le_refl 101) ?_ ?_ ?_
          · exact HST.out
          · intro i o f gh a W hi hf hdep hsame hcl hval hS
            rcases i with _ | _ | _ | _ | _ | _ | _ | _ | _ | _ | _ | _ | _ | _ | _ | _ | _ | _ | _ | _ | _ | _ | _ | _ | _ | i
            all_goals simp only [List.getElem?_cons_succ, List.getElem?_cons_zero, List.getElem?_nil, Option.some.injEq, reduceCtorEq] at hi
            all_goals subst hi
            · have E0 : a.tmps[0]? = some (.pointer (some ⟨g, 0, none⟩)) := (same_of hsame 0 (by rfl)).trans rfl
              refine g_plain rfl ?_
              exact does_value (w' := W) (v := .pointer (some ⟨g, 0, none⟩)) (by go_simp) ⟨.pointer none, .inr rfl, hS.step 0 (.pointer none) (by decide) (by decide) (by decide) (by decide)⟩
            · have E68 := hval 0 _ 68 rfl rfl (dep_of hdep 0 (by rfl))
              unfold dtVal at E68
              refine g_plain rfl ?_
              exact does_value (w' := W) (v := .pointer (some ⟨g, 0, none⟩)) (by go_simp) ⟨.pointer none, .inr rfl, hS.step 1 (.pointer none) (by decide) (by decide) (by decide) (by decide)⟩
            · have E69 := hval 1 _ 69 rfl rfl (dep_of hdep 1 (by rfl))
              unfold dtVal at E69
              refine g_plain rfl ?_
              exact does_value (w' := W) (v := .pointer (some ⟨g, 0, none⟩)) (by go_simp) ⟨.pointer none, .inr rfl, hS.step 2 (.pointer none) (by decide) (by decide) (by decide) (by decide)⟩
            · have E70 := hval 2 _ 70 rfl rfl (dep_of hdep 2 (by rfl))
              unfold dtVal at E70
              have n23 := not_yet hcl hf 23 (by rfl)
              have n24 := not_yet hcl n23 24 (by rfl)
              have c1 := HC0.out W (hS.bel n24)
              refine g_plain rfl ?_
              exact does_value (w' := W) (v := .slice (some ⟨la, 0, none⟩) s.n cA) (by go_simp) ⟨.pointer none, .inr rfl, hS.step 3 (.pointer none) (by decide) (by decide) (by decide) (by decide)⟩
            · have E9 : a.tmps[9]? = some (.pointer (some ⟨wq, 0, none⟩)) := (same_of hsame 9 (by rfl)).trans rfl
              refine g_plain rfl ?_
              exact does_value (w' := W) (v := .pointer (some ⟨wq, 0, none⟩)) (by go_simp) ⟨.pointer none, .inr rfl, hS.step 4 (.pointer none) (by decide) (by decide) (by decide) (by decide)⟩
            · have E72 := hval 4 _ 72 rfl rfl (dep_of hdep 4 (by rfl))
              unfold dtVal at E72
              have n23 := not_yet hcl hf 23 (by rfl)
              have n24 := not_yet hcl n23 24 (by rfl)
              have c1 := HW0.out W (hS.bel n24)
              refine g_plain rfl ?_
              exact does_value (w' := W) (v := .int .i64 (xi : Int)) (by go_simp) ⟨.pointer none, .inr rfl, hS.step 5 (.pointer none) (by decide) (by decide) (by decide) (by decide)⟩
            · refine g_plain rfl ?_
              exact does_value (w' := W.alloc (.cells #[] 5)) (v := .slice (some ⟨W.heap.size, 0, none⟩) 0 0) (by go_simp) ⟨.slice (some ⟨W.heap.size, 0, none⟩) 0 0, .inr rfl, hS.s6 hf⟩
            · have E9 : a.tmps[9]? = some (.pointer (some ⟨wq, 0, none⟩)) := (same_of hsame 9 (by rfl)).trans rfl
              refine g_plain rfl ?_
              exact does_value (w' := W) (v := .pointer (some ⟨wq, 1, none⟩)) (by go_simp) ⟨.pointer none, .inr rfl, hS.step 7 (.pointer none) (by decide) (by decide) (by decide) (by decide)⟩
            · have E75 := hval 7 _ 75 rfl rfl (dep_of hdep 7 (by rfl))
              unfold dtVal at E75
              have n10 := not_yet hcl hf 10 (by rfl)
              have n11 := not_yet hcl n10 11 (by rfl)
              have n22 := not_yet hcl n11 22 (by rfl)
              have n24 := not_yet hcl n22 24 (by rfl)
              have c1 := HW1.out W (hS.bel n24)
              refine g_plain rfl ?_
              exact does_value (w' := W) (v := .slice (some ⟨b, 0, none⟩) 64 c) (by go_simp) ⟨.pointer none, .inr rfl, hS.step 8 (.pointer none) (by decide) (by decide) (by decide) (by decide)⟩
            · have E2 : a.tmps[2]? = some (.int .i64 (u : Int)) := (same_of hsame 2 (by rfl)).trans rfl
              refine g_plain rfl ?_
              exact does_value (w' := W) (v := .int .i64 (u : Int)) (by go_simp) ⟨.pointer none, .inr rfl, hS.step 9 (.pointer none) (by decide) (by decide) (by decide) (by decide)⟩
            · have E76 := hval 8 _ 76 rfl rfl (dep_of hdep 8 (by rfl))
              have E77 := hval 9 _ 77 rfl rfl (dep_of hdep 9 (by rfl))
              unfold dtVal at E76 E77
              refine g_plain rfl ?_
              exact does_value (w' := W) (v := .slice (some ⟨b, 0, none⟩) u c) (by go_simp) ⟨.pointer none, .inr rfl, hS.step 10 (.pointer none) (by decide) (by decide) (by decide) (by decide)⟩
            · have E74 := hval 6 _ 74 rfl rfl (dep_of hdep 6 (by rfl))
              have E78 := hval 10 _ 78 rfl rfl (dep_of hdep 10 (by rfl))
              unfold dtVal at E74 E78
              refine g_plain rfl ?_
              obtain ⟨v', W', hr, hS'⟩ := hS.s11 (c2 := c) (dep_of hdep 6 (by rfl)) hf HSB1.out HU64.out 37 37 Try.underlying37
              exact does_append _ _ _ rfl (by rw [eval_getD, E74]; rfl) (by rw [eval_getD, E78]; rfl) hr ⟨v', .inr rfl, hS'⟩
            · have E0 : a.tmps[0]? = some (.pointer (some ⟨g, 0, none⟩)) := (same_of hsame 0 (by rfl)).trans rfl
              refine g_plain rfl ?_
              exact does_value (w' := W) (v := .pointer (some ⟨g, 0, none⟩)) (by go_simp) ⟨.pointer none, .inr rfl, hS.step 12 (.pointer none) (by decide) (by decide) (by decide) (by decide)⟩
            · have E80 := hval 12 _ 80 rfl rfl (dep_of hdep 12 (by rfl))
              unfold dtVal at E80
              refine g_plain rfl ?_
              exact does_value (w' := W) (v := .pointer (some ⟨g, 0, none⟩)) (by go_simp) ⟨.pointer none, .inr rfl, hS.step 13 (.pointer none) (by decide) (by decide) (by decide) (by decide)⟩
            · have E81 := hval 13 _ 81 rfl rfl (dep_of hdep 13 (by rfl))
              unfold dtVal at E81
              refine g_plain rfl ?_
              exact does_value (w' := W) (v := .pointer (some ⟨g, 0, none⟩)) (by go_simp) ⟨.pointer none, .inr rfl, hS.step 14 (.pointer none) (by decide) (by decide) (by decide) (by decide)⟩
            · have E82 := hval 14 _ 82 rfl rfl (dep_of hdep 14 (by rfl))
              unfold dtVal at E82
              have n18 := not_yet hcl hf 18 (by rfl)
              have n19 := not_yet hcl n18 19 (by rfl)
              have n21 := not_yet hcl n19 21 (by rfl)
              have n22 := not_yet hcl n21 22 (by rfl)
              have n24 := not_yet hcl n22 24 (by rfl)
              have c1 := HC0.out W (hS.bel n24)
              refine g_plain rfl ?_
              exact does_value (w' := W) (v := .slice (some ⟨la, 0, none⟩) s.n cA) (by go_simp) ⟨.pointer none, .inr rfl, hS.step 15 (.pointer none) (by decide) (by decide) (by decide) (by decide)⟩
            · have E9 : a.tmps[9]? = some (.pointer (some ⟨wq, 0, none⟩)) := (same_of hsame 9 (by rfl)).trans rfl
              refine g_plain rfl ?_
              exact does_value (w' := W) (v := .pointer (some ⟨wq, 0, none⟩)) (by go_simp) ⟨.pointer none, .inr rfl, hS.step 16 (.pointer none) (by decide) (by decide) (by decide) (by decide)⟩
            · have E84 := hval 16 _ 84 rfl rfl (dep_of hdep 16 (by rfl))
              unfold dtVal at E84
              have n18 := not_yet hcl hf 18 (by rfl)
              have n19 := not_yet hcl n18 19 (by rfl)
              have n21 := not_yet hcl n19 21 (by rfl)
              have n22 := not_yet hcl n21 22 (by rfl)
              have n24 := not_yet hcl n22 24 (by rfl)
              have c1 := HW0.out W (hS.bel n24)
              refine g_plain rfl ?_
              exact does_value (w' := W) (v := .int .i64 (xi : Int)) (by go_simp) ⟨.pointer none, .inr rfl, hS.step 17 (.pointer none) (by decide) (by decide) (by decide) (by decide)⟩
            · have E83 := hval 15 _ 83 rfl rfl (dep_of hdep 15 (by rfl))
              have E85 := hval 17 _ 85 rfl rfl (dep_of hdep 17 (by rfl))
              unfold dtVal at E83 E85
              refine g_plain rfl ?_
              exact does_value (w' := W) (v := .pointer (some ⟨la, xi, none⟩)) (by go_simp) ⟨.pointer none, .inr rfl, hS.step 18 (.pointer none) (by decide) (by decide) (by decide) (by decide)⟩
            · have E86 := hval 18 _ 86 rfl rfl (dep_of hdep 18 (by rfl))
              unfold dtVal at E86
              have n21 := not_yet hcl hf 21 (by rfl)
              have n22 := not_yet hcl n21 22 (by rfl)
              have n24 := not_yet hcl n22 24 (by rfl)
              have c1 := HK2.out W (hS.bel n24)
              refine g_plain rfl ?_
              exact does_value (w' := W) (v := .slice (some ⟨b2, 0, none⟩) 64 c9) (by go_simp) ⟨.pointer none, .inr rfl, hS.step 19 (.pointer none) (by decide) (by decide) (by decide) (by decide)⟩
            · have E2 : a.tmps[2]? = some (.int .i64 (u : Int)) := (same_of hsame 2 (by rfl)).trans rfl
              refine g_plain rfl ?_
              exact does_value (w' := W) (v := .int .i64 (u : Int)) (by go_simp) ⟨.pointer none, .inr rfl, hS.step 20 (.pointer none) (by decide) (by decide) (by decide) (by decide)⟩
            · have E87 := hval 19 _ 87 rfl rfl (dep_of hdep 19 (by rfl))
              have E88 := hval 20 _ 88 rfl rfl (dep_of hdep 20 (by rfl))
              unfold dtVal at E87 E88
              refine g_plain rfl ?_
              exact does_value (w' := W) (v := .slice (some ⟨b2, u, none⟩) (64 - u) (c9 - u)) (by go_simp) ⟨.pointer none, .inr rfl, hS.step 21 (.pointer none) (by decide) (by decide) (by decide) (by decide)⟩
            · have E79 := hval 11 _ 79 rfl rfl (dep_of hdep 11 (by rfl))
              have E89 := hval 21 _ 89 rfl rfl (dep_of hdep 21 (by rfl))
              unfold dtVal at E79 E89
              refine g_plain rfl ?_
              obtain ⟨v', W', hr, hS'⟩ := hS.s22 (c2 := c9 - u) (dep_of hdep 11 (by rfl)) hf HSB2.out HU64.out 37 37 Try.underlying37
              exact does_append _ _ _ rfl (by rw [eval_getD, E79]; rfl) (by rw [eval_getD, E89]; rfl) hr ⟨v', .inr rfl, hS'⟩
            · have E71 := hval 3 _ 71 rfl rfl (dep_of hdep 3 (by rfl))
              have E73 := hval 5 _ 73 rfl rfl (dep_of hdep 5 (by rfl))
              unfold dtVal at E71 E73
              refine g_plain rfl ?_
              exact does_value (w' := W) (v := .pointer (some ⟨la, xi, none⟩)) (by go_simp) ⟨.pointer none, .inr rfl, hS.step 23 (.pointer none) (by decide) (by decide) (by decide) (by decide)⟩
            · have E91 := hval 23 _ 91 rfl rfl (dep_of hdep 23 (by rfl))
              have E90 := hval 22 _ 90 rfl rfl (dep_of hdep 22 (by rfl))
              unfold dtVal at E91 E90
              refine g_plain rfl ?_
              have hB := hS.bel hf
              obtain ⟨⟨v0, c0⟩, z0⟩ := HA0.out W hB
              have hown := hS.c (dep_of hdep 22 (by rfl)) hf
              obtain ⟨q8, c8, e8⟩ := Go.Joins.ownsRow_form hown (by omega)
              have hTN := HNX.out W _ hB hown
              rw [e8] at E90 hTN
              exact does_skip (w' := W.setCell ⟨la, xi, none⟩ (.slice (some ⟨q8, 0, none⟩) 64 c8)) (by go_simp) ⟨.pointer none, .inl rfl, hS.s24 (dep_of hdep 22 (by rfl)) (.pointer none) hTN⟩
          · intro gh w8 hS
            have HFX := hid (HFI2.out w8 (hS.up rfl).2)
            have HHX := hid (HHD2.out w8 (hS.up rfl).2)
            clear hS HST HNX HC0 HK2 HA0 HW0 HW1 HSB1 HSB2 HFI2 HHD2
            have f1 := HHX.out.frozen 1
            have f2 := HHX.out.frozen 2
            have f4 := HHX.out.frozen 4
            have c1 : w8.cell? ⟨g, 1, none⟩ = some (.slice (some ⟨r, 0, none⟩) s.loose.length cR) := HHX.out.cell 1 rfl
            have c2 : w8.cell? ⟨g, 2, none⟩ = some (.bool s.fuse.isSome) := HHX.out.cell 2 rfl
            have c4 : w8.cell? ⟨g, 4, none⟩ = some (.bool s.out) := HHX.out.cell 4 rfl
            simp only [putAll, dtVal, Nat.reduceAdd, Nat.zero_add, Act.put, List.setIfInBounds_toArray, List.set_cons_zero, List.set_cons_succ]
            go_wp2_with fail
            go_ret
            exact HFX.out _ (((chg_set (L := [g]) (by simp) 1 _).trans (chg_set (L := [g]) (by simp) 2 _) (fun b hb => .inl hb)).trans (chg_set (L := [g]) (by simp) 4 _) (fun b hb => .inl hb)) (by simpa using ((HHX.out.set_ 1 (.slice none 0 0)).set_ 2 (.bool false)).set_ 4 (.bool false))
        · have hle : (crashP s.img s.loose keep s.loose.length).2 < 0 := by omega
          have HHD2 := hid (HHD.out wr (by
            have e : ({ s with img := crashI s.img s.loose keep u } : DS) = ckS s keep s.loose.length := by unfold ckS; rw [crashI_neg hl]
            rw [e]; exact HCI.out))
          have HF2 := hid (HFI.out wr (by
            have e : ({ s with img := crashI s.img s.loose keep u } : DS) = ckS s keep s.loose.length := by unfold ckS; rw [crashI_neg hl]
            rw [e]; exact HCI.out))
          clear HIN HCI HFI HP HKW hl HHD
          generalize (crashP s.img s.loose keep s.loose.length).2 = lst at hle ⊢
          go_wp2_with fail
          go_ret
          exact HF2.out _ (((chg_set (L := [g]) (by simp) 1 _).trans (chg_set (L := [g]) (by simp) 2 _) (fun b hb => .inl hb)).trans (chg_set (L := [g]) (by simp) 4 _) (fun b hb => .inl hb)) (by simpa using ((HHD2.out.set_ 1 (.slice none 0 0)).set_ 2 (.bool false)).set_ 4 (.bool false))
  · have HK := hid (show RdPost w base F g m (crashD s keep t) (.int .i64 (crashE t : Int)) (.returned (.int .i64 2)) w from by
      rw [show crashE t = 2 from if_neg ht, show crashD s keep t = s from if_neg ht]; exact RdPost.same HS.out (Nat.le_refl _) _)
    clear h hok hF hlt HS hsn hkb hne
    generalize crashD s keep t = s' at HK ⊢
    generalize crashE t = e' at HK ⊢
    by_cases e1 : t < 0
    · go_enter Try.func40, Try.ntmps40
      go_wp2_with fail
      go_ret
      exact HK.out
    · have e2 : (64 : Int) ≤ t := by omega
      clear ht
      go_enter Try.func40, Try.ntmps40
      go_wp2_with fail
      go_ret
      exact HK.out
end
end Go.Proofs.Ytoajnabdflikfaa
