/- The law WireWrites, walked. Written by tools/mkwrw.py. -/
import Derived.Test.YtcpkjpeimnaimaaWrThs
import Derived.Test.YtcpkjpeimnaimaaWrRefDt
import Derived.Test.YtcpkjpeimnaimaaWrKnown
import Derived.Test.YtcpkjpeimnaimaaAppS
namespace Go.Proofs.Ytcpkjpeimnaimaa
open Go.RowKit

/-- blocks that are held stay as they are -/
def HeldW (H : List Nat) (W W' : World) : Prop := ∃ L, Chg L W W' ∧ ∀ b ∈ H, b ∉ L
/-- a writer of the program's beside one of the plain reference, and blocks that are neither's -/
structure WX (w : World) (base bx g f lim gx : Nat) (H : List Nat) (s1 s2 : WS) (W : World) : Prop where
  ex : ∃ r rx, WrB W base g f r lim s1 ∧ RwB W bx gx rx lim s2 ∧ (∀ b ∈ fp gx rx, b ∉ fpw g f r) ∧ (∀ b ∈ H, b < W.heap.size ∧ b ∉ fpw g f r ∧ b ∉ fp gx rx)
  bel : Below w.heap.size w W
  hb : w.heap.size ≤ base
  hx : w.heap.size ≤ bx
section
variable {w W W' : World} {base bx g f lim gx : Nat} {H H' : List Nat} {s1 s2 s' : WS}
theorem WX.own (h : WX w base bx g f lim gx H s1 s2 W) {fn : FuncId} {args : Array Value}
    (hc : ∀ r, WrB W base g f r lim s1 → (∀ b ∈ H, b ∉ fpw g f r) → Calls Try.prog fn args W (WrPost W base g f r lim s')) :
    Calls Try.prog fn args W fun e W' => e = .returned (.int .i64 (s'.e : Int)) ∧ WX w base bx g f lim gx H s' s2 W' ∧ HeldW H W W' := by
  obtain ⟨⟨r, rx, hw, hr, hd, hh⟩, bel, hb, hx⟩ := h
  refine (hc r hw (fun b hm => (hh b hm).2.1)).mono ?_
  rintro e W' ⟨he, r', hw', hc, hm⟩
  refine ⟨he, ⟨⟨r', rx, hw', hr.chg hc hd, fpw_sep (fun b hb' => ⟨(hr.fp_lt b hb').2, hd b hb'⟩) hm, fun b hb' => ⟨Nat.lt_of_lt_of_le (hh b hb').1 hc.size, ?_, (hh b hb').2.2⟩⟩, bel.trans (hc.below (fun b hb' => Nat.le_trans hb (hw.fp_lt b hb').1) bel.size), hb, hx⟩, _, hc, fun b hb' => (hh b hb').2.1⟩
  exact fpw_sep (L := H) (fun b hb' => ⟨(hh b hb').1, (hh b hb').2.1⟩) hm b hb'
theorem WX.ref (h : WX w base bx g f lim gx H s1 s2 W) {fn : FuncId} {args : Array Value}
    (hc : ∀ rx, RwB W bx gx rx lim s2 → Calls Try.prog fn args W (RwPost W bx gx rx lim s')) :
    Calls Try.prog fn args W fun e W' => e = .returned (.int .i64 (s'.e : Int)) ∧ WX w base bx g f lim gx H s1 s' W' ∧ HeldW H W W' := by
  obtain ⟨⟨r, rx, hw, hr, hd, hh⟩, bel, hb, hx⟩ := h
  refine (hc rx hr).mono ?_
  rintro e W' ⟨he, rx', hr', hc, hm⟩
  have hsep : ∀ b ∈ fp gx rx', b ∈ fp gx rx ∨ W.heap.size ≤ b := fp_moved hm
  refine ⟨he, ⟨⟨r, rx', hw.chg hc (fun b hb' hm' => hd b hm' hb'), hr', fun b hb' hb2 => ?_, fun b hb' => ⟨Nat.lt_of_lt_of_le (hh b hb').1 hc.size, (hh b hb').2.1, fun hb2 => ?_⟩⟩, bel.trans (hc.below (fun b hb' => Nat.le_trans hx (hr.fp_lt b hb').1) bel.size), hb, hx⟩, _, hc, fun b hb' => (hh b hb').2.2⟩
  · rcases hsep b hb' with h1 | h1
    · exact hd b h1 hb2
    · have := (hw.fp_lt b hb2).2; omega
  · rcases hsep b hb2 with h1 | h1
    · exact (hh b hb').2.2 h1
    · have := (hh b hb').1; omega
theorem WX.keep (h : WX w base bx g f lim gx H s1 s2 W) (hB : Below W.heap.size W W') : WX w base bx g f lim gx H s1 s2 W' := by
  obtain ⟨⟨r, rx, hw, hr, hd, hh⟩, bel, hb, hx⟩ := h
  exact ⟨⟨r, rx, hw.keep hB, hr.keep hB, hd, fun b hm => ⟨Nat.lt_of_lt_of_le (hh b hm).1 hB.size, (hh b hm).2⟩⟩, bel.trans (hB.mono bel.size), hb, hx⟩
theorem WX.less (h : WX w base bx g f lim gx H s1 s2 W) (hl : ∀ b ∈ H', b ∈ H) : WX w base bx g f lim gx H' s1 s2 W := by
  obtain ⟨⟨r, rx, hw, hr, hd, hh⟩, bel, hb, hx⟩ := h
  exact ⟨⟨r, rx, hw, hr, hd, fun b hm => hh b (hl b hm)⟩, bel, hb, hx⟩
/-- new blocks are held -/
theorem WX.more (h : WX w base bx g f lim gx H s1 s2 W) (hB : Below W.heap.size W W') (hl : ∀ b ∈ H', b ∈ H ∨ (W.heap.size ≤ b ∧ b < W'.heap.size)) : WX w base bx g f lim gx H' s1 s2 W' := by
  obtain ⟨⟨r, rx, hw, hr, hd, hh⟩, bel, hb, hx⟩ := h
  refine ⟨⟨r, rx, hw.keep hB, hr.keep hB, hd, fun b hm => ?_⟩, bel.trans (hB.mono bel.size), hb, hx⟩
  rcases hl b hm with h1 | ⟨h1, h2⟩
  · exact ⟨Nat.lt_of_lt_of_le (hh b h1).1 hB.size, (hh b h1).2⟩
  · exact ⟨h2, fun hm' => by have := (hw.fp_lt b hm').2; omega, fun hm' => by have := (hr.fp_lt b hm').2; omega⟩
/-- a change of blocks that are held -/
theorem WX.high (h : WX w base bx g f lim gx H s1 s2 W) {L : List Nat} (hc : Chg L W W') (hl : ∀ b ∈ L, b ∈ H ∧ w.heap.size ≤ b) : WX w base bx g f lim gx H s1 s2 W' := by
  obtain ⟨⟨r, rx, hw, hr, hd, hh⟩, bel, hb, hx⟩ := h
  exact ⟨⟨r, rx, hw.chg hc (fun b hm hm' => (hh b (hl b hm').1).2.1 hm), hr.chg hc (fun b hm hm' => (hh b (hl b hm').1).2.2 hm), hd, fun b hm => ⟨Nat.lt_of_lt_of_le (hh b hm).1 hc.size, (hh b hm).2⟩⟩, bel.trans (hc.below (fun b hm => (hl b hm).2) bel.size), hb, hx⟩
theorem HeldW.blk {t : TypeId} {cs : Array Value} {T : Nat} (h : HeldW H W W') (hb : Blk W T t cs) (hm : T ∈ H) : Blk W' T t cs := by
  obtain ⟨L, hc, hl⟩ := h
  exact hb.chg hc (hl T hm)
theorem HeldW.own {e : TypeId} {v : Value} {n bs : _} {k : Nat} (h : HeldW H W W') (ho : Own W k e v n bs) (hm : ∀ b, v.ownBlock = some b → b ∈ H) : Own W' k e v n bs := by
  obtain ⟨L, hc, hl⟩ := h
  exact ho.chg hc (fun b e => hl b (hm b e))
theorem HeldW.size (h : HeldW H W W') : W.heap.size ≤ W'.heap.size := by
  obtain ⟨L, hc, -⟩ := h
  exact hc.size
/-- what the program's writer holds in the end -/
def doneB (s : WS) : List UInt8 := if s.e = 0 then s.bs else []
theorem WX.doneW (h : WX w base bx g f lim gx H s1 s2 W) : Calls Try.prog 29 #[.pointer (some ⟨g, 0, none⟩)] W fun e W' => ∃ A c, e = .returned (.tuple #[.slice A (doneB s1).length c, .int .i64 (s1.e : Int)]) ∧ Own W' W.heap.size 5 (.slice A (doneB s1).length c) (doneB s1).length (doneB s1) ∧ Below W.heap.size W W' := by
  obtain ⟨⟨r, rx, hw, -⟩, -⟩ := h
  unfold doneB
  by_cases he : s1.e = 0
  · rw [if_pos he]
    refine (wDone_open _ _ _ _ _ _ _ hw he).mono ?_
    rintro e W' ⟨v, rfl, ho, hB⟩
    obtain ⟨A, c, rfl, -⟩ := ho.sb
    exact ⟨A, c, by rw [he]; rfl, ho, hB⟩
  · rw [if_neg he]
    refine (wDone_failed _ _ _ _ _ _ _ hw he).mono ?_
    rintro e W' ⟨rfl, hB⟩
    exact ⟨none, 0, rfl, Own.nil _ _ _, hB⟩
theorem WX.doneR (h : WX w base bx g f lim gx H s1 s2 W) : Calls Try.prog 30 #[.pointer (some ⟨gx, 0, none⟩)] W fun e W' => ∃ A c, e = .returned (.tuple #[.slice A (doneB s2).length c, .int .i64 (s2.e : Int)]) ∧ Own W' W.heap.size 5 (.slice A (doneB s2).length c) (doneB s2).length (doneB s2) ∧ Below W.heap.size W W' := by
  obtain ⟨⟨r, rx, -, hr, -⟩, -⟩ := h
  unfold doneB
  by_cases he : s2.e = 0
  · rw [if_pos he]
    refine (refDone_open _ _ _ _ _ _ hr he).mono ?_
    rintro e W' ⟨v, rfl, ho, hB⟩
    obtain ⟨A, c, rfl, -⟩ := ho.sb
    exact ⟨A, c, by rw [he]; rfl, ho, hB⟩
  · rw [if_neg he]
    refine (refDone_failed _ _ _ _ _ _ hr he).mono ?_
    rintro e W' ⟨rfl, hB⟩
    exact ⟨none, 0, rfl, Own.nil _ _ _, hB⟩
theorem WX.len (h : WX w base bx g f lim gx H s1 s2 W) : Calls Try.prog 32 #[.pointer (some ⟨g, 0, none⟩)] W fun e W' => e = .returned (.int .i64 (s1.bs.length : Int)) ∧ W = W' := by
  obtain ⟨⟨r, rx, hw, -⟩, -⟩ := h
  exact wLen_calls _ _ _ _ _ _ _ hw
theorem WX.row (h : WX w base bx g f lim gx H s1 s2 W) : ∃ A c, W.cell? ⟨gx, 1, none⟩ = some (.slice A s2.bs.length c) := by
  obtain ⟨⟨r, rx, -, ⟨A, c, hb, -⟩, -⟩, -⟩ := h
  exact ⟨A, c, hb.cell 1 rfl⟩
theorem WX.lens (h : WX w base bx g f lim gx H s1 s2 W) : s1.bs.length ≤ 67108864 := by
  obtain ⟨⟨r, rx, ⟨A, c, -, -, -, -, -, -, -, -, h1, h2⟩, -⟩, -⟩ := h
  omega
end
theorem does_load_run {P : Program} {o : Oper} {a : Act} {w : World} {T : Value → World → Prop} (t : TypeId) (x : Operand) (ho : o.op = .load t x) (ad : Addr) (v : Value) (hx : a.eval x = .pointer (some ad))
    (hr : (loadVar t ad).run P w = .ok v w) (h : T v w) : OpDoes P o a w T := fun K Q hK => by
  unfold Oper.wp execOp
  simp only [ho, hx, Instr.loadAt, Instr.sureAddr, Sem.run_bind, Sem.run_pure, Result.andThen_ok, hr]
  exact hK _ _ h
/-- two calls in a drawn region, one writer's and the other's -/
structure WrS (w : World) (base bx g f lim gx T : Nat) (cs : Array Value) (s SN : WS) (i1 i2 : Nat) (fd : Nat → Bool) (_gh : Nat → Unit) (W : World) : Prop where
  wx : WX w base bx g f lim gx [T] (if fd i1 = true then SN else s) (if fd i2 = true then SN else s) W
  tb : Blk W T 38 cs
section
variable {w W W' : World} {base bx g f lim gx T : Nat} {cs : Array Value} {s SN S2 : WS} {i1 i2 : Nat} {fd : Nat → Bool} {gh gh' : Nat → Unit}
theorem WrS.step (h : WrS w base bx g f lim gx T cs s SN i1 i2 fd gh W) (i : Nat) (h1 : i1 ≠ i) (h2 : i2 ≠ i) : WrS w base bx g f lim gx T cs s SN i1 i2 (upd fd i) gh' W :=
  ⟨by rw [ap_ne h1, ap_ne h2]; exact h.wx, h.tb⟩
theorem WrS.pre1 (h : WrS w base bx g f lim gx T cs s SN i1 i2 fd gh W) (h1 : fd i1 = false) : WX w base bx g f lim gx [T] s (if fd i2 = true then SN else s) W := by
  have := h.wx
  rwa [if_neg (by rw [h1]; decide)] at this
theorem WrS.pre2 (h : WrS w base bx g f lim gx T cs s SN i1 i2 fd gh W) (h2 : fd i2 = false) : WX w base bx g f lim gx [T] (if fd i1 = true then SN else s) s W := by
  have := h.wx
  rwa [if_neg (c := fd i2 = true) (by rw [h2]; decide)] at this
theorem WrS.s1 (h : WrS w base bx g f lim gx T cs s SN i1 i2 fd gh W) (hp : WX w base bx g f lim gx [T] SN (if fd i2 = true then SN else s) W') (hh : HeldW [T] W W') (hne : i2 ≠ i1) : WrS w base bx g f lim gx T cs s SN i1 i2 (upd fd i1) gh' W' :=
  ⟨by rw [ap_eq, ap_ne hne, if_pos rfl]; exact hp, hh.blk h.tb (by simp)⟩
theorem WrS.s2 (h : WrS w base bx g f lim gx T cs s SN i1 i2 fd gh W) (hp : WX w base bx g f lim gx [T] (if fd i1 = true then SN else s) SN W') (hh : HeldW [T] W W') (hne : i1 ≠ i2) : WrS w base bx g f lim gx T cs s SN i1 i2 (upd fd i2) gh' W' :=
  ⟨by rw [ap_eq, ap_ne hne, if_pos rfl]; exact hp, hh.blk h.tb (by simp)⟩
theorem WrS.fin (h : WrS w base bx g f lim gx T cs s SN i1 i2 fd gh W) (h1 : fd i1 = true) (h2 : fd i2 = true) : WX w base bx g f lim gx [T] SN SN W := by
  have := h.wx
  rwa [if_pos h1, if_pos h2] at this
end
/-- bytes, lent to the one and written out for the other -/
structure WbS (w : World) (base bx g f lim gx T K : Nat) (cs : Array Value) (s SN : WS) (bs eb : List UInt8) (n off : Nat) (fd : Nat → Bool) (gh : Nat → Value) (W : World) : Prop where
  wx : WX w base bx g f lim gx ([T, K] ++ (if fd 6 = true ∧ fd 7 = false then (gh 6).ownBlock.toList else [])) (if fd 2 = true then SN else s) (if fd 7 = true then SN else s) W
  tb : Blk W T 38 cs
  sb : SB W (K + 1) (some ⟨K, off, none⟩) (n + 4) (bs ++ [201, 202, 203, 204])
  o6 : fd 6 = true → fd 7 = false → Own W w.heap.size 5 (gh 6) eb.length eb
section
variable {w W W' : World} {base bx g f lim gx T K : Nat} {cs : Array Value} {s SN S2 : WS} {bs eb : List UInt8} {n off : Nat} {fd : Nat → Bool} {gh gh' : Nat → Value}
theorem WbS.held (h : WbS w base bx g f lim gx T K cs s SN bs eb n off fd gh W) {H : List Nat} (hh : HeldW H W W') (hT : T ∈ H) (hK : K ∈ H) : Blk W' T 38 cs ∧ SB W' (K + 1) (some ⟨K, off, none⟩) (n + 4) (bs ++ [201, 202, 203, 204]) := by
  refine ⟨hh.blk h.tb hT, ?_⟩
  obtain ⟨L, hc, hl⟩ := hh
  exact h.sb.chg hc (fun b o e _ => by cases e; exact hl K hK)
theorem WbS.step (h : WbS w base bx g f lim gx T K cs s SN bs eb n off fd gh W) (hB : Below W.heap.size W W') (i : Nat) (k : Value) (h2 : 2 ≠ i) (h6 : 6 ≠ i) (h7 : 7 ≠ i) : WbS w base bx g f lim gx T K cs s SN bs eb n off (upd fd i) (updN gh i k) W' :=
  ⟨by rw [ap_ne h2, ap_ne h6, ap_ne h7, apN_ne h6]; exact h.wx.keep hB, h.tb.keep hB, h.sb.keep hB, by rw [ap_ne h6, ap_ne h7, apN_ne h6]; exact fun e e2 => (h.o6 e e2).keep hB⟩
theorem WbS.s2 (h : WbS w base bx g f lim gx T K cs s SN bs eb n off fd gh W) {k : Value} (hp : WX w base bx g f lim gx ([T, K] ++ (if fd 6 = true ∧ fd 7 = false then (gh 6).ownBlock.toList else [])) SN (if fd 7 = true then SN else s) W') (hh : HeldW ([T, K] ++ (if fd 6 = true ∧ fd 7 = false then (gh 6).ownBlock.toList else [])) W W') : WbS w base bx g f lim gx T K cs s SN bs eb n off (upd fd 2) (updN gh 2 k) W' := by
  obtain ⟨k1, k3⟩ := h.held hh (by simp) (by simp)
  refine ⟨by rw [ap_eq, ap_ne (by decide), ap_ne (by decide), apN_ne (by decide), if_pos rfl]; exact hp, k1, k3, fun e e2 => ?_⟩
  rw [ap_ne (by decide)] at e e2
  rw [apN_ne (by decide)]
  exact hh.own (h.o6 e e2) (fun b eb => by rw [if_pos ⟨e, e2⟩, eb]; simp)
theorem WbS.s6 (h : WbS w base bx g f lim gx T K cs s SN bs eb n off fd gh W) {u : Value} (_n6 : fd 6 = false) (n7 : fd 7 = false) (ho : Own W' W.heap.size 5 u eb.length eb) (hB : Below W.heap.size W W') : WbS w base bx g f lim gx T K cs s SN bs eb n off (upd fd 6) (updN gh 6 u) W' := by
  have hx := h.wx
  refine ⟨?_, h.tb.keep hB, h.sb.keep hB, fun _ _ => by rw [apN_eq]; exact ho.lower hx.bel.size⟩
  rw [ap_ne (show 2 ≠ 6 by decide), ap_eq, ap_ne (show 7 ≠ 6 by decide), apN_eq, if_pos (c := (true = true ∧ fd 7 = false)) ⟨rfl, n7⟩]
  refine hx.more hB (fun b hm => ?_)
  rw [List.mem_append] at hm
  rcases hm with hm | hm
  · exact .inl (by rw [List.mem_append]; exact .inl hm)
  · have := World.ownsRow.lt ho b (by simpa using hm)
    exact .inr this
theorem WbS.s7 (h : WbS w base bx g f lim gx T K cs s SN bs eb n off fd gh W) {k : Value} {H : List Nat} (hp : WX w base bx g f lim gx ([T, K] ++ H) (if fd 2 = true then SN else s) SN W') (hh : HeldW ([T, K] ++ H) W W') : WbS w base bx g f lim gx T K cs s SN bs eb n off (upd fd 7) (updN gh 7 k) W' := by
  obtain ⟨k1, k3⟩ := h.held hh (by simp) (by simp)
  refine ⟨?_, k1, k3, fun _ e => by rw [ap_eq] at e; cases e⟩
  rw [ap_ne (show 2 ≠ 7 by decide), ap_ne (show 6 ≠ 7 by decide), ap_eq, if_neg (c := (fd 6 = true ∧ true = false)) (by simp), if_pos rfl, List.append_nil]
  exact hp.less (fun b hm => by rw [List.mem_append]; exact .inl hm)
theorem WbS.pre2 (h : WbS w base bx g f lim gx T K cs s SN bs eb n off fd gh W) (h2 : fd 2 = false) : WX w base bx g f lim gx ([T, K] ++ (if fd 6 = true ∧ fd 7 = false then (gh 6).ownBlock.toList else [])) s (if fd 7 = true then SN else s) W := by
  have := h.wx
  rwa [if_neg (c := fd 2 = true) (by rw [h2]; decide)] at this
theorem WbS.pre7 (h : WbS w base bx g f lim gx T K cs s SN bs eb n off fd gh W) (h7 : fd 7 = false) : WX w base bx g f lim gx ([T, K] ++ (if fd 6 = true ∧ fd 7 = false then (gh 6).ownBlock.toList else [])) (if fd 2 = true then SN else s) s W := by
  have := h.wx
  rwa [if_neg (c := fd 7 = true) (by rw [h7]; decide)] at this
theorem WbS.fin (h : WbS w base bx g f lim gx T K cs s SN bs eb n off fd gh W) (h2 : fd 2 = true) (h7 : fd 7 = true) : WX w base bx g f lim gx [] SN SN W := by
  have := h.wx
  rw [if_pos h2, if_pos h7] at this
  exact this.less (fun b hm => by cases hm)
end
/-- a world that has grown -/
def BwS (wb : World) (_fd : Nat → Bool) (_gh : Nat → Unit) (W : World) : Prop := Below wb.heap.size wb W
theorem size_th {t : Th} (h : t.id.length = 32) : (Try.prog.info? 38).map (·.size) = some (TV t).size := by rw [TV_size h]; kernel_rfl
theorem th_id {t : Th} {W : World} {T : Nat} (h32 : t.id.length = 32) (hb : Blk W T 38 (TV t)) : (loadVar 33 ⟨T, 3, none⟩).run Try.prog W = .ok (.agg (bcells t.id)) W := by
  have HSZ : (Try.prog.info? 33).map (·.size) = some (t.id.map bv).length := by rw [List.length_map, h32]; kernel_rfl
  refine run_load_cells _ _ (t.id.map bv) (fun j v hj => ?_) Try.underlying33 rfl HSZ
  rw [Addr.add_lit]
  have hl : j < (t.id.map bv).length := (List.getElem?_eq_some_iff.1 hj).1
  refine hb.cell (3 + j) ?_
  simp only [TV, part, List.getElem?_toArray, List.append_assoc]
  rw [List.getElem?_append_right (by simp [thHead]), List.getElem?_append_left (by simpa [thHead] using hl), ← hj]
  rw [show (thHead t).length = 3 from rfl, Nat.add_sub_cancel_left]
theorem th_dot {t : Th} {W : World} {T : Nat} (h32 : t.id.length = 32) (hb : Blk W T 38 (TV t)) : (loadVar 35 ⟨T, 35, none⟩).run Try.prog W = .ok (.agg #[.int .i64 t.x, .int .i64 t.y]) W := by
  refine run_load_cells _ _ [.int .i64 t.x, .int .i64 t.y] (fun j v hj => ?_) Try.underlying35 rfl (by kernel_rfl)
  rw [Addr.add_lit]
  match j, hj with
  | 0, hj => cases hj; exact hb.cell 35 (TV_tail (t := t) h32 (i := 0) rfl)
  | 1, hj => cases hj; exact hb.cell 36 (TV_tail (t := t) h32 (i := 1) rfl)
def wtlVal (g gx : Nat) (ez2 : Int) (ln dn c5 c6 c9 : Nat) (A5 A6 A9 : Option Addr) : Nat → Unit → Value
  | 0, _ => .bool true
  | 1, _ => .bool false
  | 2, _ => .bool false
  | 3, _ => .slice A5 dn c5
  | 4, _ => .slice A6 dn c6
  | 5, _ => .bool true
  | 6, _ => .bool false
  | 7, _ => .bool false
  | 8, _ => .bool false
  | 9, _ => .int .i64 ez2
  | 10, _ => .int .i64 ez2
  | 11, _ => .bool false
  | 12, _ => .bool false
  | 13, _ => .bool false
  | 14, _ => .pointer (some ⟨g, 0, none⟩)
  | 15, _ => .int .i64 (ln : Int)
  | 16, _ => .pointer (some ⟨gx, 0, none⟩)
  | 17, _ => .pointer (some ⟨gx, 0, none⟩)
  | 18, _ => .pointer (some ⟨gx, 1, none⟩)
  | 19, _ => .slice A9 ln c9
  | 20, _ => .int .i64 (ln : Int)
  | 21, _ => .bool false
  | 22, _ => .bool false
  | _, _ => undef
def wr0Val (g gx T : Nat) (ez : Int) (tn : Int) : Nat → Unit → Value
  | 0, _ => .pointer (some ⟨g, 0, none⟩)
  | 1, _ => .pointer (some ⟨T, 1, none⟩)
  | 2, _ => .int .i64 tn
  | 3, _ => .int .i64 ez
  | 4, _ => .pointer (some ⟨gx, 0, none⟩)
  | 5, _ => .pointer (some ⟨T, 1, none⟩)
  | 6, _ => .int .i64 tn
  | 7, _ => .int .i64 ez
  | 8, _ => .bool true
  | 9, _ => .bool true
  | _, _ => undef
def wr1Val (g gx T : Nat) (ez : Int) (st : ByteArray) (tA : Option Addr) (tl tc : Nat) : Nat → Unit → Value
  | 0, _ => .pointer (some ⟨g, 0, none⟩)
  | 1, _ => .pointer (some ⟨T, 2, none⟩)
  | 2, _ => .slice tA tl tc
  | 3, _ => .string st
  | 4, _ => .int .i64 ez
  | 5, _ => .pointer (some ⟨gx, 0, none⟩)
  | 6, _ => .pointer (some ⟨T, 2, none⟩)
  | 7, _ => .slice tA tl tc
  | 8, _ => .string st
  | 9, _ => .int .i64 ez
  | 10, _ => .bool true
  | 11, _ => .bool true
  | _, _ => undef
def wr3Val (g gx T : Nat) (ez : Int) (iv : Array Value) : Nat → Unit → Value
  | 0, _ => .pointer (some ⟨g, 0, none⟩)
  | 1, _ => .pointer (some ⟨T, 3, none⟩)
  | 2, _ => .agg iv
  | 3, _ => .int .i64 ez
  | 4, _ => .pointer (some ⟨gx, 0, none⟩)
  | 5, _ => .pointer (some ⟨T, 3, none⟩)
  | 6, _ => .agg iv
  | 7, _ => .int .i64 ez
  | 8, _ => .bool true
  | 9, _ => .bool true
  | _, _ => undef
def wr4Val (g gx T : Nat) (ez : Int) (tx ty : Int) : Nat → Unit → Value
  | 0, _ => .pointer (some ⟨g, 0, none⟩)
  | 1, _ => .pointer (some ⟨T, 35, none⟩)
  | 2, _ => .agg #[.int .i64 tx, .int .i64 ty]
  | 3, _ => .int .i64 ez
  | 4, _ => .pointer (some ⟨gx, 0, none⟩)
  | 5, _ => .pointer (some ⟨T, 35, none⟩)
  | 6, _ => .agg #[.int .i64 tx, .int .i64 ty]
  | 7, _ => .int .i64 ez
  | 8, _ => .bool true
  | 9, _ => .bool true
  | _, _ => undef
def wr5Val (g gx T : Nat) (ez : Int) (vA : Option Addr) (vl vc : Nat) : Nat → Unit → Value
  | 0, _ => .pointer (some ⟨g, 0, none⟩)
  | 1, _ => .pointer (some ⟨T, 37, none⟩)
  | 2, _ => .slice vA vl vc
  | 3, _ => .int .i64 ez
  | 4, _ => .pointer (some ⟨gx, 0, none⟩)
  | 5, _ => .pointer (some ⟨T, 37, none⟩)
  | 6, _ => .slice vA vl vc
  | 7, _ => .int .i64 ez
  | 8, _ => .bool true
  | 9, _ => .bool true
  | _, _ => undef
def wr6Val (g gx T : Nat) (ez : Int) (tb : Bool) : Nat → Unit → Value
  | 0, _ => .pointer (some ⟨g, 0, none⟩)
  | 1, _ => .pointer (some ⟨T, 38, none⟩)
  | 2, _ => .bool tb
  | 3, _ => .int .i64 ez
  | 4, _ => .pointer (some ⟨gx, 0, none⟩)
  | 5, _ => .pointer (some ⟨T, 38, none⟩)
  | 6, _ => .bool tb
  | 7, _ => .int .i64 ez
  | 8, _ => .bool true
  | 9, _ => .bool true
  | _, _ => undef
def wr2Val (g gx T KB off tl tc vc : Nat) (ez : Int) (tA : Option Addr) : Nat → Value → Value
  | 0, _ => .pointer (some ⟨g, 0, none⟩)
  | 1, _ => .slice (some ⟨KB, off, none⟩) tl vc
  | 2, _ => .int .i64 ez
  | 3, _ => .pointer (some ⟨gx, 0, none⟩)
  | 4, _ => .pointer (some ⟨T, 2, none⟩)
  | 5, _ => .slice tA tl tc
  | 6, k => k
  | 7, _ => .int .i64 ez
  | 8, _ => .bool true
  | 9, _ => .bool true
  | 10, _ => .slice (some ⟨KB, off, none⟩) tl vc
  | 11, _ => .pointer (some ⟨T, 2, none⟩)
  | 12, _ => .slice tA tl tc
  | 13, _ => .bool true
  | 14, _ => .bool true
  | 15, _ => .bool true
  | _, _ => undef
set_option maxRecDepth 20000 in
set_option maxHeartbeats 20000000 in
theorem wwrites_calls (lim : Int) (n2 c2 : Nat) (A2 : Option Addr) (ts : List Th) (w : World) (h : THS w A2 n2 ts) (hn2 : n2 ≤ 9223372036854775807) :
    Calls Try.prog 3 #[.int .i64 lim, .slice A2 n2 c2] w fun e w' => e = .returned (.bool true) ∧ Below w.heap.size w w' := by
  have HAW := hid (fun W => awake_calls W)
  have HTH := hid h
  by_cases hbad : lim < 0 ∨ 67108864 < lim
  · have HB1 := hid (newWriter_bad lim w hbad)
    have HB2 := hid (refNew_bad lim w hbad)
    clear hbad h
    go_enter Try.func3, Try.ntmps3
    go_wp2_with fail
    refine HB1.out.mono ?_
    rintro _ _ ⟨rfl, rfl⟩
    go_wp2_with fail
    refine HB2.out.mono ?_
    rintro _ _ ⟨rfl, rfl⟩
    go_wp2_with fail
    go_loopw [9, 10, 11, 12, 13, 14, 15, 16] (fun v9 _ _ _ _ _ _ _ wr => v9 = .int .i64 0 ∧ wr = w) (fun _ _ _ _ _ _ _ _ _ => 0)
    case atStart => exact ⟨rfl, rfl⟩
    case round =>
      obtain ⟨rfl, rfl⟩ := hrel
      go_wp2_with fail
      refine (HAW.out wr).mono ?_
      rintro _ w1 ⟨rfl, hb1⟩
      have HB := hid hb1
      clear hb1 HAW
      go_wp2_with fail
      go_ret
      exact ⟨rfl, HB.out⟩
  obtain ⟨l, rfl⟩ : ∃ l : Nat, lim = (l : Int) := ⟨lim.toNat, by omega⟩
  have hl : l ≤ 67108864 := by omega
  clear hbad
  have HLGF := hid (fun W (hW : THS W A2 n2 ts) => long_calls n2 c2 A2 ts W hW hn2)
  have HB1 := hid (newWriter_calls l w hl)
  have HB2 := hid (fun W => refNew_calls l W hl)
  clear hl h
  go_enter Try.func3, Try.ntmps3
  go_wp2_with fail
  refine HB1.out.mono ?_
  rintro _ w1 ⟨g, f, rfl, hw1, hg1, hf1, hb1⟩
  go_wp2_with fail
  refine (HB2.out w1).mono ?_
  rintro _ w2 ⟨gx, rfl, hr2, hb2⟩
  have HWX := hid (show WX w w.heap.size w1.heap.size g f l gx [] ⟨[], 0⟩ ⟨[], 0⟩ w2 from ⟨⟨none, none, (hw1 _ (Nat.le_refl _)).keep hb2, hr2, fun b hm hm' => by
    have h1 := (hr2.fp_lt b hm).1
    have h2 := ((hw1 _ (Nat.le_refl _)).fp_lt b hm').2
    omega, fun b hm => by cases hm⟩, hb1.trans (hb2.mono hb1.size), Nat.le_refl _, hb1.size⟩)
  clear hw1 hg1 hf1 hb1 hr2 hb2 HB1 HB2
  generalize w1.heap.size = bx at HWX
  have hb0 : ∃ base, base = w.heap.size := ⟨_, rfl⟩
  obtain ⟨base, hbe⟩ := hb0
  have HWX2 := hid (show WX w base bx g f l gx [] ⟨[], 0⟩ ⟨[], 0⟩ w2 from by rw [hbe]; exact HWX.out)
  clear hbe HWX
  go_wp2_with fail
  cases hlg : longV ts with
  | true =>
    rw [hlg] at HLGF
    go_loopw [9, 10, 11, 12, 13, 14, 15, 16] (fun v9 _ _ _ _ _ _ _ wr => v9 = .int .i64 0 ∧ wr = w2) (fun _ _ _ _ _ _ _ _ _ => 0)
    case atStart => exact ⟨rfl, rfl⟩
    case round =>
      obtain ⟨rfl, rfl⟩ := hrel
      go_wp2_with fail
      refine (HLGF.out wr (HTH.out.keep HWX2.out.bel)).mono ?_
      rintro _ _ ⟨rfl, rfl⟩
      go_wp2_with fail
      refine (HAW.out wr).mono ?_
      rintro _ w3 ⟨rfl, hb3⟩
      have HB := hid (HWX2.out.bel.trans (hb3.mono HWX2.out.bel.size))
      clear hb3 HAW
      go_wp2_with fail
      go_ret
      exact ⟨rfl, HB.out⟩
  | false =>
    rw [hlg] at HLGF
    have HLF := hid hlg
    have HN2 := hid (show n2 ≤ 30 from by have := long30 hlg; have := HTH.out.len; omega)
    have hnI : (n2 : Int) ≤ 30 := by have := HN2.out; omega
    clear hlg hn2
    go_loopw [9, 10, 11, 12, 13, 14, 15, 16] (fun v9 v10 v11 v12 v13 v14 v15 v16 wr => ∃ k : Nat, v9 = .int .i64 (k : Int) ∧ k ≤ n2 ∧ Hid (∃ s, WX w base bx g f l gx [] s s wr)) (fun v9 _ _ _ _ _ _ _ _ => n2 - (intOf v9).toNat)
    case atStart => exact ⟨0, rfl, Nat.zero_le _, hid ⟨_, HWX2.out⟩⟩
    case round =>
      clear HWX2
      obtain ⟨k, rfl, hk, HR⟩ := hrel
      obtain ⟨s, hri⟩ := HR.out
      have HRI := hid hri
      clear HR hri
      have HLW := hid (HLGF.out wr (HTH.out.keep HRI.out.bel))
      by_cases hlt : k < n2
      · have hlt' : (k : Int) < (n2 : Int) := by omega
        have hkl : k < ts.length := by have := HTH.out.len; omega
        obtain ⟨t, ht⟩ : ∃ t, ts[k]? = some t := ⟨ts[k], List.getElem?_eq_getElem hkl⟩
        have hm := List.mem_of_getElem? ht
        have HHr := HTH.out.keep HRI.out.bel
        obtain ⟨b2, off2, rfl, -⟩ := HHr.at_ (by omega)
        have HTK := hid (HHr.tok HLF.out hm)
        have HEA := hid (long_each HLF.out hm)
        have HTKw := hid (HTH.out.tok HLF.out hm)
        have HSV := hid (show 0 < t.zs.length → ∀ b off, t.A2 = some ⟨b, off, none⟩ → b < w.heap.size from fun h0 b off e => by
          obtain ⟨b', o', e', hc⟩ := HTKw.out.2.2.1.2 h0
          rw [e] at e'
          cases e'
          exact lt_of_cell (hc 0 _ (List.getElem?_eq_getElem h0)))
        have HWR := hid (HRI.out.bel.size)
        have HRUN := hid (run_load_thing HTK.out.1 (HHr.load ht (by omega)))
        have hz := (zero_of_info infoTh).1
        have HZ0 := hid (show (TV (th0 0)).size = (TV t).size from by rw [TV_size HTK.out.1]; exact TV_size rfl)
        have HSA := hid (size_th HTK.out.1)
        have HOA := hid (TV_oneCell t)
        have KZ := hid (Blk.new wr 38 (TV (th0 0)))
        have HNS := hid (new_set wr 38 (TV (th0 0)) (TV t))
        have HC0 := hid (TV_head (t := t) (i := 0) rfl)
        have HC1 := hid (TV_head (t := t) (i := 1) rfl)
        have HC2 := hid (TV_head (t := t) (i := 2) rfl)
        have HC5 := hid (TV_tail (t := t) HTK.out.1 (i := 2) rfl)
        have HC6 := hid (TV_tail (t := t) HTK.out.1 (i := 3) rfl)
        have HLI := hid (fun W T (hb : Blk W T 38 (TV t)) => th_id HTK.out.1 hb)
        have HLD := hid (fun W T (hb : Blk W T 38 (TV t)) => th_dot HTK.out.1 hb)
        generalize TV (th0 0) = zt at hz HZ0 KZ HNS
        generalize TV t = cs at HRUN HZ0 HSA HOA HNS HC0 HC1 HC2 HC5 HC6 HLI HLD
        clear ht hm HHr
        go_wp2_with fail
        refine HLW.out.mono ?_
        rintro _ _ ⟨rfl, rfl⟩
        clear HLW
        go_wp2_with (first | (refine wpList_load_run rfl 38 _ rfl _ _ rfl HRUN.out ?_) | ((refine wpList_store_blk rfl 38 _ _ rfl wr.heap.size _ rfl rfl 38 _ KZ.out HSA.out HZ0.out HOA.out ?_); refine Held.go ?_))
        obtain ⟨hb6, hk6⟩ := HNS.out
        have HRT := hid (show WX w base bx g f l gx [wr.heap.size] s s _ from HRI.out.more hb6 (fun b hm => .inr (by simp at hm; subst hm; exact ⟨Nat.le_refl _, hk6.lt⟩)))
        have HTK6 := hid (HTK.out.keep hb6)
        have HTB := hid hk6
        generalize (wr.alloc (.cells zt 38)).setRow wr.heap.size cs = w6 at hb6 hk6 HRT HTK6 HTB ⊢
        generalize wr.heap.size = T at HRT HTB ⊢
        clear hb6 hk6 HNS KZ HRUN hz HZ0 HSA HOA HRI HTK
        unfold Held
        have e0 : w6.cell? ⟨T, 0, none⟩ = some (.int .i64 t.k) := HTB.out.cell 0 HC0.out
        generalize t.k = kd at e0 HC0
        clear HC0
        by_cases h0 : kd = 0
        · subst h0
          have HK1 := hid (fun W S2 (h : WX w base bx g f l gx [T] s S2 W) => h.own (fun r hr _ => wNum_calls base g f r l s W t.n HTK6.out.2.2.2.2.2.2.2.1 hr))
          have HK2 := hid (fun W S1 (h : WX w base bx g f l gx [T] S1 s W) => h.ref (fun rx hr => refWNum_calls bx gx rx l s W t.n HTK6.out.2.2.2.2.2.2.2.1 hr))
          generalize putW l s [numI t.n] = SN at HK1 HK2
          generalize t.n = tn at HK1 HK2 HC1
          generalize (SN.e : Int) = ez at HK1 HK2
          have HSTT := hid (show WrS w base bx g f l gx T cs s SN 3 7 (fun j => decide (10 ≤ j)) (fun _ => ()) w6.drew from ⟨HRT.out.keep (Below.refl _ _).drew, HTB.out.keep (Below.refl _ _).drew⟩)
          go_wp2_with fail
          clear e0 HRT HTB
          refine wp_region_invG 182 () (wr0Val g gx T ez tn) (WrS w base bx g f l gx T cs s SN 3 7) (by kernel_rfl) (by kernel_rfl) (by exact Nat.le_refl 182) ?_ ?_ ?_
          · exact HSTT.out
          · intro i o f gh a W hi hf hdep hsame hcl hval hS
            rcases i with _ | _ | _ | _ | _ | _ | _ | _ | _ | _ | i
            all_goals simp only [List.getElem?_cons_succ, List.getElem?_cons_zero, List.getElem?_nil, Option.some.injEq, reduceCtorEq] at hi
            all_goals subst hi
            · have E5 : a.tmps[5]? = some (.pointer (some ⟨g, 0, none⟩)) := (same_of hsame 5 (by rfl)).trans rfl
              refine g_plain rfl ?_
              exact does_value (w' := W) (v := .pointer (some ⟨g, 0, none⟩)) (by go_simp) ⟨(), .inr rfl, (hS.step 0 (by decide) (by decide))⟩
            · have E10 : a.tmps[10]? = some (.pointer (some ⟨T, 0, none⟩)) := (same_of hsame 10 (by rfl)).trans rfl
              refine g_plain rfl ?_
              exact does_value (w' := W) (v := .pointer (some ⟨T, 1, none⟩)) (by go_simp) ⟨(), .inr rfl, (hS.step 1 (by decide) (by decide))⟩
            · have E61 := hval 1 _ 61 rfl rfl (dep_of hdep 1 (by rfl))
              unfold wr0Val at E61
              have c1 : W.cell? ⟨T, 1, none⟩ = some (.int .i64 tn) := hS.tb.cell 1 HC1.out
              refine g_plain rfl ?_
              exact does_value (w' := W) (v := .int .i64 tn) (by go_simp) ⟨(), .inr rfl, (hS.step 2 (by decide) (by decide))⟩
            · have E60 := hval 0 _ 60 rfl rfl (dep_of hdep 0 (by rfl))
              have E62 := hval 2 _ 62 rfl rfl (dep_of hdep 2 (by rfl))
              unfold wr0Val at E60 E62
              refine g_plain rfl ?_
              refine does_call 12 #[.pointer (some ⟨g, 0, none⟩), .int .i64 tn] (by go_simp) ((HK1.out W _ (hS.pre1 hf)).mono ?_)
              rintro _ W' ⟨rfl, hp, hh⟩
              exact ⟨_, rfl, (), .inr rfl, hS.s1 hp hh (by decide)⟩
            · have E7 : a.tmps[7]? = some (.pointer (some ⟨gx, 0, none⟩)) := (same_of hsame 7 (by rfl)).trans rfl
              refine g_plain rfl ?_
              exact does_value (w' := W) (v := .pointer (some ⟨gx, 0, none⟩)) (by go_simp) ⟨(), .inr rfl, (hS.step 4 (by decide) (by decide))⟩
            · have E10 : a.tmps[10]? = some (.pointer (some ⟨T, 0, none⟩)) := (same_of hsame 10 (by rfl)).trans rfl
              refine g_plain rfl ?_
              exact does_value (w' := W) (v := .pointer (some ⟨T, 1, none⟩)) (by go_simp) ⟨(), .inr rfl, (hS.step 5 (by decide) (by decide))⟩
            · have E65 := hval 5 _ 65 rfl rfl (dep_of hdep 5 (by rfl))
              unfold wr0Val at E65
              have c1 : W.cell? ⟨T, 1, none⟩ = some (.int .i64 tn) := hS.tb.cell 1 HC1.out
              refine g_plain rfl ?_
              exact does_value (w' := W) (v := .int .i64 tn) (by go_simp) ⟨(), .inr rfl, (hS.step 6 (by decide) (by decide))⟩
            · have E64 := hval 4 _ 64 rfl rfl (dep_of hdep 4 (by rfl))
              have E66 := hval 6 _ 66 rfl rfl (dep_of hdep 6 (by rfl))
              unfold wr0Val at E64 E66
              refine g_plain rfl ?_
              refine does_call 13 #[.pointer (some ⟨gx, 0, none⟩), .int .i64 tn] (by go_simp) ((HK2.out W _ (hS.pre2 hf)).mono ?_)
              rintro _ W' ⟨rfl, hp, hh⟩
              exact ⟨_, rfl, (), .inr rfl, hS.s2 hp hh (by decide)⟩
            · have E63 := hval 3 _ 63 rfl rfl (dep_of hdep 3 (by rfl))
              have E67 := hval 7 _ 67 rfl rfl (dep_of hdep 7 (by rfl))
              unfold wr0Val at E63 E67
              refine g_plain rfl ?_
              exact does_value (w' := W) (v := .bool true) (by go_simp) ⟨(), .inr rfl, (hS.step 8 (by decide) (by decide))⟩
            · have E68 := hval 8 _ 68 rfl rfl (dep_of hdep 8 (by rfl))
              unfold wr0Val at E68
              refine g_plain rfl ?_
              exact does_value (w' := W) (v := .bool true) (by go_simp) ⟨(), .inr rfl, (hS.step 9 (by decide) (by decide))⟩
          · intro gh w8 hS
            have HX := hid (hS.fin rfl rfl)
            clear hS HK1 HK2 HSTT
            simp only [putAll, wr0Val, Nat.reduceAdd, Nat.zero_add, Act.put, List.setIfInBounds_toArray, List.set_cons_zero, List.set_cons_succ]
            have HLS := hid HX.out.lens
            have HTS := hid HX.out.bel.size
            go_wp2_with fail
            refine (HX.out.doneW).mono ?_
            rintro _ wa ⟨A5, c5, rfl, ho5, hba⟩
            have HXa := hid (HX.out.more (H' := (Value.slice A5 (doneB SN).length c5).ownBlock.toList) hba (fun b hm => .inr (World.ownsRow.lt ho5 b (by simpa using hm))))
            have HO5 := hid ho5
            clear ho5 hba HX
            go_wp2_with fail
            refine (HXa.out.doneR).mono ?_
            rintro _ wb ⟨A6, c6, rfl, ho6, hbb⟩
            have HXb := hid (HXa.out.keep hbb)
            have HO5b := hid (HO5.out.keep hbb)
            obtain ⟨A9, c9, hrow⟩ := HXb.out.row
            have HRW := hid (fun W (hW : Below wb.heap.size wb W) => ((hW.cell (p := ⟨gx, 1, none⟩) (lt_of_cell hrow)).trans hrow : W.cell? ⟨gx, 1, none⟩ = some (.slice A9 SN.bs.length c9)))
            have HLN := hid (fun W (hW : Below wb.heap.size wb W) => (HXb.out.keep hW).len)
            have HDL := hid (show (doneB SN).length ≤ 67108864 from by have := HLS.out; unfold doneB; split <;> simp <;> omega)
            obtain ⟨A5', c5', e5, -, sb5, -⟩ := HO5b.out.sb
            obtain ⟨rfl, rfl⟩ : A5 = A5' ∧ c5 = c5' := by injection e5 with h1 _ h3; exact ⟨h1, h3⟩
            obtain ⟨A6', c6', e6, -, sb6, -⟩ := ho6.sb
            obtain ⟨rfl, rfl⟩ : A6 = A6' ∧ c6 = c6' := by injection e6 with h1 _ h3; exact ⟨h1, h3⟩
            have HS5 := hid sb5; have HS6 := hid sb6
            have HSM := hid (fun W (hW : Below wb.heap.size wb W) => sameBytes_calls _ (doneB SN).length c5 _ (doneB SN).length c6 A5 A6 (doneB SN) (doneB SN) W (HS5.out.keep hW) (HS6.out.keep hW))
            simp only [beq_self_eq_true] at HSM
            have HOV := hid (fun W (hW : Below wb.heap.size wb W) => overBytes_calls _ (doneB SN).length c5 A5 (doneB SN) W (HO5b.out.keep hW) (by have := HDL.out; omega))
            have HFN := hid (fun W (hW : Below wb.heap.size wb W) W' (hg : W.grownBy W' (Value.slice A5 (doneB SN).length c5).ownBlock) => ((HXb.out.keep hW).high (Chg.of_grown (L := (Value.slice A5 (doneB SN).length c5).ownBlock.toList) hg (fun b e => by rw [e]; simp)) (fun b hm => ⟨hm, by
              have h1 := (World.ownsRow.lt HO5b.out b (by simpa using hm)).1
              have h2 := HTS.out
              omega⟩)).less (H' := []) (fun b hm => by cases hm))
            clear hrow e5 sb5 e6 sb6 ho6 hbb HO5 HO5b HXa HXb HS5 HS6 HLS HDL
            generalize (SN.bs.length) = ln at HRW HLN
            generalize (doneB SN).length = dn at HSM HOV HFN ⊢
            generalize (SN.e : Int) = ez2
            have HST := hid (show BwS wb (fun j => decide (23 ≤ j)) (fun _ => ()) wb.drew from (Below.refl _ _).drew)
            go_wp2_with fail
            refine wp_region_invG 182 () (wtlVal g gx ez2 ln dn c5 c6 c9 A5 A6 A9) (BwS wb) (by kernel_rfl) (by kernel_rfl) (by exact Nat.le_refl 182) ?_ ?_ ?_
            · exact HST.out
            · intro i o f gh a W hi hf hdep hsame hcl hval hS
              rcases i with _ | _ | _ | _ | _ | _ | _ | _ | _ | _ | _ | _ | _ | _ | _ | _ | _ | _ | _ | _ | _ | _ | _ | i
              all_goals simp only [List.getElem?_cons_succ, List.getElem?_cons_zero, List.getElem?_nil, Option.some.injEq, reduceCtorEq] at hi
              all_goals subst hi
              · have E11 : a.tmps[11]? = some (.bool true) := (same_of hsame 11 (by rfl)).trans rfl
                refine g_plain rfl ?_
                exact does_value (w' := W) (v := .bool true) (by go_simp) ⟨(), .inr rfl, hS⟩
              · have E156 := hval 0 _ 156 rfl rfl (dep_of hdep 0 (by rfl))
                unfold wtlVal at E156
                refine g_plain rfl ?_
                exact does_value (w' := W) (v := .bool false) (by go_simp) ⟨(), .inr rfl, hS⟩
              · have E157 := hval 1 _ 157 rfl rfl (dep_of hdep 1 (by rfl))
                unfold wtlVal at E157
                refine g_plain rfl ?_
                exact does_value (w' := W) (v := .bool false) (by go_simp) ⟨(), .inr rfl, hS⟩
              · have EG := hval 2 _ 158 rfl rfl (dep_of hdep 2 (by rfl))
                have E13 : a.tmps[13]? = some (.slice A5 dn c5) := (same_of hsame 13 (by rfl)).trans rfl
                unfold wtlVal at EG
                refine g_want rfl rfl rfl EG ?_
                exact does_value (w' := W) (v := .slice A5 dn c5) (by go_simp) ⟨(), .inr rfl, hS⟩
              · have EG := hval 2 _ 158 rfl rfl (dep_of hdep 2 (by rfl))
                have E15 : a.tmps[15]? = some (.slice A6 dn c6) := (same_of hsame 15 (by rfl)).trans rfl
                unfold wtlVal at EG
                refine g_want rfl rfl rfl EG ?_
                exact does_value (w' := W) (v := .slice A6 dn c6) (by go_simp) ⟨(), .inr rfl, hS⟩
              · have EG := hval 2 _ 158 rfl rfl (dep_of hdep 2 (by rfl))
                have E159 := hval 3 _ 159 rfl rfl (dep_of hdep 3 (by rfl))
                have E160 := hval 4 _ 160 rfl rfl (dep_of hdep 4 (by rfl))
                unfold wtlVal at EG E159 E160
                refine g_want rfl rfl rfl EG ?_
                refine does_call 31 #[.slice A5 dn c5, .slice A6 dn c6] (by go_simp) ((HSM.out W hS).mono ?_)
                rintro _ _ ⟨rfl, rfl⟩
                exact ⟨_, rfl, (), .inr rfl, hS⟩
              · have EG := hval 2 _ 158 rfl rfl (dep_of hdep 2 (by rfl))
                have E161 := hval 5 _ 161 rfl rfl (dep_of hdep 5 (by rfl))
                unfold wtlVal at EG E161
                refine g_want rfl rfl rfl EG ?_
                exact does_value (w' := W) (v := .bool false) (by go_simp) ⟨(), .inr rfl, hS⟩
              · have E158 := hval 2 _ 158 rfl rfl (dep_of hdep 2 (by rfl))
                have E162 := hval 6 _ 162 rfl rfl (dep_of hdep 6 (by rfl))
                unfold wtlVal at E158 E162
                refine g_plain rfl ?_
                exact does_value (w' := W) (v := .bool false) (by go_simp) ⟨(), .inr rfl, hS⟩
              · have E163 := hval 7 _ 163 rfl rfl (dep_of hdep 7 (by rfl))
                unfold wtlVal at E163
                refine g_plain rfl ?_
                exact does_value (w' := W) (v := .bool false) (by go_simp) ⟨(), .inr rfl, hS⟩
              · have EG := hval 8 _ 164 rfl rfl (dep_of hdep 8 (by rfl))
                have E14 : a.tmps[14]? = some (.int .i64 ez2) := (same_of hsame 14 (by rfl)).trans rfl
                unfold wtlVal at EG
                refine g_want rfl rfl rfl EG ?_
                exact does_value (w' := W) (v := .int .i64 ez2) (by go_simp) ⟨(), .inr rfl, hS⟩
              · have EG := hval 8 _ 164 rfl rfl (dep_of hdep 8 (by rfl))
                have E16 : a.tmps[16]? = some (.int .i64 ez2) := (same_of hsame 16 (by rfl)).trans rfl
                unfold wtlVal at EG
                refine g_want rfl rfl rfl EG ?_
                exact does_value (w' := W) (v := .int .i64 ez2) (by go_simp) ⟨(), .inr rfl, hS⟩
              · have EG := hval 8 _ 164 rfl rfl (dep_of hdep 8 (by rfl))
                have E165 := hval 9 _ 165 rfl rfl (dep_of hdep 9 (by rfl))
                have E166 := hval 10 _ 166 rfl rfl (dep_of hdep 10 (by rfl))
                unfold wtlVal at EG E165 E166
                refine g_want rfl rfl rfl EG ?_
                exact does_value (w' := W) (v := .bool false) (by go_simp) ⟨(), .inr rfl, hS⟩
              · have E164 := hval 8 _ 164 rfl rfl (dep_of hdep 8 (by rfl))
                have E167 := hval 11 _ 167 rfl rfl (dep_of hdep 11 (by rfl))
                unfold wtlVal at E164 E167
                refine g_plain rfl ?_
                exact does_value (w' := W) (v := .bool false) (by go_simp) ⟨(), .inr rfl, hS⟩
              · have E168 := hval 12 _ 168 rfl rfl (dep_of hdep 12 (by rfl))
                unfold wtlVal at E168
                refine g_plain rfl ?_
                exact does_value (w' := W) (v := .bool false) (by go_simp) ⟨(), .inr rfl, hS⟩
              · have EG := hval 13 _ 169 rfl rfl (dep_of hdep 13 (by rfl))
                have E5 : a.tmps[5]? = some (.pointer (some ⟨g, 0, none⟩)) := (same_of hsame 5 (by rfl)).trans rfl
                unfold wtlVal at EG
                refine g_want rfl rfl rfl EG ?_
                exact does_value (w' := W) (v := .pointer (some ⟨g, 0, none⟩)) (by go_simp) ⟨(), .inr rfl, hS⟩
              · have EG := hval 13 _ 169 rfl rfl (dep_of hdep 13 (by rfl))
                have E170 := hval 14 _ 170 rfl rfl (dep_of hdep 14 (by rfl))
                unfold wtlVal at EG E170
                refine g_want rfl rfl rfl EG ?_
                refine does_call 32 #[.pointer (some ⟨g, 0, none⟩)] (by go_simp) ((HLN.out W hS).mono ?_)
                rintro _ _ ⟨rfl, rfl⟩
                exact ⟨_, rfl, (), .inr rfl, hS⟩
              · have EG := hval 13 _ 169 rfl rfl (dep_of hdep 13 (by rfl))
                have E7 : a.tmps[7]? = some (.pointer (some ⟨gx, 0, none⟩)) := (same_of hsame 7 (by rfl)).trans rfl
                unfold wtlVal at EG
                refine g_want rfl rfl rfl EG ?_
                exact does_value (w' := W) (v := .pointer (some ⟨gx, 0, none⟩)) (by go_simp) ⟨(), .inr rfl, hS⟩
              · have EG := hval 13 _ 169 rfl rfl (dep_of hdep 13 (by rfl))
                have E172 := hval 16 _ 172 rfl rfl (dep_of hdep 16 (by rfl))
                unfold wtlVal at EG E172
                refine g_want rfl rfl rfl EG ?_
                exact does_value (w' := W) (v := .pointer (some ⟨gx, 0, none⟩)) (by go_simp) ⟨(), .inr rfl, hS⟩
              · have EG := hval 13 _ 169 rfl rfl (dep_of hdep 13 (by rfl))
                have E173 := hval 17 _ 173 rfl rfl (dep_of hdep 17 (by rfl))
                unfold wtlVal at EG E173
                refine g_want rfl rfl rfl EG ?_
                exact does_value (w' := W) (v := .pointer (some ⟨gx, 1, none⟩)) (by go_simp) ⟨(), .inr rfl, hS⟩
              · have EG := hval 13 _ 169 rfl rfl (dep_of hdep 13 (by rfl))
                have E174 := hval 18 _ 174 rfl rfl (dep_of hdep 18 (by rfl))
                unfold wtlVal at EG E174
                have c1 := HRW.out W hS
                refine g_want rfl rfl rfl EG ?_
                exact does_value (w' := W) (v := .slice A9 ln c9) (by go_simp) ⟨(), .inr rfl, hS⟩
              · have EG := hval 13 _ 169 rfl rfl (dep_of hdep 13 (by rfl))
                have E175 := hval 19 _ 175 rfl rfl (dep_of hdep 19 (by rfl))
                unfold wtlVal at EG E175
                refine g_want rfl rfl rfl EG ?_
                exact does_value (w' := W) (v := .int .i64 (ln : Int)) (by go_simp) ⟨(), .inr rfl, hS⟩
              · have EG := hval 13 _ 169 rfl rfl (dep_of hdep 13 (by rfl))
                have E171 := hval 15 _ 171 rfl rfl (dep_of hdep 15 (by rfl))
                have E176 := hval 20 _ 176 rfl rfl (dep_of hdep 20 (by rfl))
                unfold wtlVal at EG E171 E176
                refine g_want rfl rfl rfl EG ?_
                exact does_value (w' := W) (v := .bool false) (by go_simp) ⟨(), .inr rfl, hS⟩
              · have E169 := hval 13 _ 169 rfl rfl (dep_of hdep 13 (by rfl))
                have E177 := hval 21 _ 177 rfl rfl (dep_of hdep 21 (by rfl))
                unfold wtlVal at E169 E177
                refine g_plain rfl ?_
                exact does_value (w' := W) (v := .bool false) (by go_simp) ⟨(), .inr rfl, hS⟩
            · intro gh wc hS
              have HBC := hid (show Below wb.heap.size wb wc from hS)
              clear hS HST
              simp only [putAll, wtlVal, Nat.reduceAdd, Nat.zero_add, Act.put, List.setIfInBounds_toArray, List.set_cons_zero, List.set_cons_succ]
              go_wp2_with fail
              refine (HOV.out wc HBC.out).mono ?_
              rintro _ wd ⟨rfl, hgd⟩
              have HXd := hid (HFN.out wc HBC.out wd hgd)
              clear hgd HFN HBC HOV HSM HLN HRW
              go_wp2_with fail
              go_roundw
              case rel => exact ⟨k + 1, by go_num, by omega, hid ⟨SN, HXd.out⟩⟩
              case measure => simp [intOf]; omega
        by_cases h1 : kd = 1
        · subst h1
          have HK1 := hid (fun W S2 (h : WX w base bx g f l gx [T] s S2 W) => h.own (fun r hr _ => wText_calls base g f r l s W t.cs (by have := HEA.out.2.1; omega) hr))
          have HK2 := hid (fun W S1 (h : WX w base bx g f l gx [T] S1 s W) => h.ref (fun rx hr => refWText_calls bx gx rx l s W t.cs (by have := HEA.out.2.1; omega) hr))
          have HSTR := hid (fun W (hW : Below w.heap.size w W) => run_str (P := Try.prog) (HTKw.out.keep hW).2.1 t.c 31 9 5 Try.underlying31 Try.underlying5 Try.underlying9)
          generalize putW l s [numI t.cs.length, some t.cs] = SN at HK1 HK2
          generalize strB t.cs = st at HK1 HK2 HSTR
          generalize (SN.e : Int) = ez at HK1 HK2
          generalize t.cs.length = tl at HSTR HC2
          generalize t.A = tA at HSTR HC2
          generalize t.c = tc at HSTR HC2
          have HSTT := hid (show WrS w base bx g f l gx T cs s SN 4 9 (fun j => decide (12 ≤ j)) (fun _ => ()) w6.drew from ⟨HRT.out.keep (Below.refl _ _).drew, HTB.out.keep (Below.refl _ _).drew⟩)
          go_wp2_with fail
          clear e0 HRT HTB
          refine wp_region_invG 182 () (wr1Val g gx T ez st tA tl tc) (WrS w base bx g f l gx T cs s SN 4 9) (by kernel_rfl) (by kernel_rfl) (by exact Nat.le_refl 182) ?_ ?_ ?_
          · exact HSTT.out
          · intro i o f gh a W hi hf hdep hsame hcl hval hS
            rcases i with _ | _ | _ | _ | _ | _ | _ | _ | _ | _ | _ | _ | i
            all_goals simp only [List.getElem?_cons_succ, List.getElem?_cons_zero, List.getElem?_nil, Option.some.injEq, reduceCtorEq] at hi
            all_goals subst hi
            · have E5 : a.tmps[5]? = some (.pointer (some ⟨g, 0, none⟩)) := (same_of hsame 5 (by rfl)).trans rfl
              refine g_plain rfl ?_
              exact does_value (w' := W) (v := .pointer (some ⟨g, 0, none⟩)) (by go_simp) ⟨(), .inr rfl, (hS.step 0 (by decide) (by decide))⟩
            · have E10 : a.tmps[10]? = some (.pointer (some ⟨T, 0, none⟩)) := (same_of hsame 10 (by rfl)).trans rfl
              refine g_plain rfl ?_
              exact does_value (w' := W) (v := .pointer (some ⟨T, 2, none⟩)) (by go_simp) ⟨(), .inr rfl, (hS.step 1 (by decide) (by decide))⟩
            · have E72 := hval 1 _ 72 rfl rfl (dep_of hdep 1 (by rfl))
              unfold wr1Val at E72
              have c1 : W.cell? ⟨T, 2, none⟩ = some (.slice tA tl tc) := hS.tb.cell 2 HC2.out
              refine g_plain rfl ?_
              exact does_value (w' := W) (v := .slice tA tl tc) (by go_simp) ⟨(), .inr rfl, (hS.step 2 (by decide) (by decide))⟩
            · have E73 := hval 2 _ 73 rfl rfl (dep_of hdep 2 (by rfl))
              unfold wr1Val at E73
              have hstr := HSTR.out W hS.wx.bel
              refine g_plain rfl ?_
              exact does_value (w' := W) (v := .string st) (by go_simp) ⟨(), .inr rfl, (hS.step 3 (by decide) (by decide))⟩
            · have E71 := hval 0 _ 71 rfl rfl (dep_of hdep 0 (by rfl))
              have E74 := hval 3 _ 74 rfl rfl (dep_of hdep 3 (by rfl))
              unfold wr1Val at E71 E74
              refine g_plain rfl ?_
              refine does_call 14 #[.pointer (some ⟨g, 0, none⟩), .string st] (by go_simp) ((HK1.out W _ (hS.pre1 hf)).mono ?_)
              rintro _ W' ⟨rfl, hp, hh⟩
              exact ⟨_, rfl, (), .inr rfl, hS.s1 hp hh (by decide)⟩
            · have E7 : a.tmps[7]? = some (.pointer (some ⟨gx, 0, none⟩)) := (same_of hsame 7 (by rfl)).trans rfl
              refine g_plain rfl ?_
              exact does_value (w' := W) (v := .pointer (some ⟨gx, 0, none⟩)) (by go_simp) ⟨(), .inr rfl, (hS.step 5 (by decide) (by decide))⟩
            · have E10 : a.tmps[10]? = some (.pointer (some ⟨T, 0, none⟩)) := (same_of hsame 10 (by rfl)).trans rfl
              refine g_plain rfl ?_
              exact does_value (w' := W) (v := .pointer (some ⟨T, 2, none⟩)) (by go_simp) ⟨(), .inr rfl, (hS.step 6 (by decide) (by decide))⟩
            · have E77 := hval 6 _ 77 rfl rfl (dep_of hdep 6 (by rfl))
              unfold wr1Val at E77
              have c1 : W.cell? ⟨T, 2, none⟩ = some (.slice tA tl tc) := hS.tb.cell 2 HC2.out
              refine g_plain rfl ?_
              exact does_value (w' := W) (v := .slice tA tl tc) (by go_simp) ⟨(), .inr rfl, (hS.step 7 (by decide) (by decide))⟩
            · have E78 := hval 7 _ 78 rfl rfl (dep_of hdep 7 (by rfl))
              unfold wr1Val at E78
              have hstr := HSTR.out W hS.wx.bel
              refine g_plain rfl ?_
              exact does_value (w' := W) (v := .string st) (by go_simp) ⟨(), .inr rfl, (hS.step 8 (by decide) (by decide))⟩
            · have E76 := hval 5 _ 76 rfl rfl (dep_of hdep 5 (by rfl))
              have E79 := hval 8 _ 79 rfl rfl (dep_of hdep 8 (by rfl))
              unfold wr1Val at E76 E79
              refine g_plain rfl ?_
              refine does_call 15 #[.pointer (some ⟨gx, 0, none⟩), .string st] (by go_simp) ((HK2.out W _ (hS.pre2 hf)).mono ?_)
              rintro _ W' ⟨rfl, hp, hh⟩
              exact ⟨_, rfl, (), .inr rfl, hS.s2 hp hh (by decide)⟩
            · have E75 := hval 4 _ 75 rfl rfl (dep_of hdep 4 (by rfl))
              have E80 := hval 9 _ 80 rfl rfl (dep_of hdep 9 (by rfl))
              unfold wr1Val at E75 E80
              refine g_plain rfl ?_
              exact does_value (w' := W) (v := .bool true) (by go_simp) ⟨(), .inr rfl, (hS.step 10 (by decide) (by decide))⟩
            · have E81 := hval 10 _ 81 rfl rfl (dep_of hdep 10 (by rfl))
              unfold wr1Val at E81
              refine g_plain rfl ?_
              exact does_value (w' := W) (v := .bool true) (by go_simp) ⟨(), .inr rfl, (hS.step 11 (by decide) (by decide))⟩
          · intro gh w8 hS
            have HX := hid (hS.fin rfl rfl)
            clear hS HK1 HK2 HSTT
            simp only [putAll, wr1Val, Nat.reduceAdd, Nat.zero_add, Act.put, List.setIfInBounds_toArray, List.set_cons_zero, List.set_cons_succ]
            have HLS := hid HX.out.lens
            have HTS := hid HX.out.bel.size
            go_wp2_with fail
            refine (HX.out.doneW).mono ?_
            rintro _ wa ⟨A5, c5, rfl, ho5, hba⟩
            have HXa := hid (HX.out.more (H' := (Value.slice A5 (doneB SN).length c5).ownBlock.toList) hba (fun b hm => .inr (World.ownsRow.lt ho5 b (by simpa using hm))))
            have HO5 := hid ho5
            clear ho5 hba HX
            go_wp2_with fail
            refine (HXa.out.doneR).mono ?_
            rintro _ wb ⟨A6, c6, rfl, ho6, hbb⟩
            have HXb := hid (HXa.out.keep hbb)
            have HO5b := hid (HO5.out.keep hbb)
            obtain ⟨A9, c9, hrow⟩ := HXb.out.row
            have HRW := hid (fun W (hW : Below wb.heap.size wb W) => ((hW.cell (p := ⟨gx, 1, none⟩) (lt_of_cell hrow)).trans hrow : W.cell? ⟨gx, 1, none⟩ = some (.slice A9 SN.bs.length c9)))
            have HLN := hid (fun W (hW : Below wb.heap.size wb W) => (HXb.out.keep hW).len)
            have HDL := hid (show (doneB SN).length ≤ 67108864 from by have := HLS.out; unfold doneB; split <;> simp <;> omega)
            obtain ⟨A5', c5', e5, -, sb5, -⟩ := HO5b.out.sb
            obtain ⟨rfl, rfl⟩ : A5 = A5' ∧ c5 = c5' := by injection e5 with h1 _ h3; exact ⟨h1, h3⟩
            obtain ⟨A6', c6', e6, -, sb6, -⟩ := ho6.sb
            obtain ⟨rfl, rfl⟩ : A6 = A6' ∧ c6 = c6' := by injection e6 with h1 _ h3; exact ⟨h1, h3⟩
            have HS5 := hid sb5; have HS6 := hid sb6
            have HSM := hid (fun W (hW : Below wb.heap.size wb W) => sameBytes_calls _ (doneB SN).length c5 _ (doneB SN).length c6 A5 A6 (doneB SN) (doneB SN) W (HS5.out.keep hW) (HS6.out.keep hW))
            simp only [beq_self_eq_true] at HSM
            have HOV := hid (fun W (hW : Below wb.heap.size wb W) => overBytes_calls _ (doneB SN).length c5 A5 (doneB SN) W (HO5b.out.keep hW) (by have := HDL.out; omega))
            have HFN := hid (fun W (hW : Below wb.heap.size wb W) W' (hg : W.grownBy W' (Value.slice A5 (doneB SN).length c5).ownBlock) => ((HXb.out.keep hW).high (Chg.of_grown (L := (Value.slice A5 (doneB SN).length c5).ownBlock.toList) hg (fun b e => by rw [e]; simp)) (fun b hm => ⟨hm, by
              have h1 := (World.ownsRow.lt HO5b.out b (by simpa using hm)).1
              have h2 := HTS.out
              omega⟩)).less (H' := []) (fun b hm => by cases hm))
            clear hrow e5 sb5 e6 sb6 ho6 hbb HO5 HO5b HXa HXb HS5 HS6 HLS HDL
            generalize (SN.bs.length) = ln at HRW HLN
            generalize (doneB SN).length = dn at HSM HOV HFN ⊢
            generalize (SN.e : Int) = ez2
            have HST := hid (show BwS wb (fun j => decide (23 ≤ j)) (fun _ => ()) wb.drew from (Below.refl _ _).drew)
            go_wp2_with fail
            refine wp_region_invG 182 () (wtlVal g gx ez2 ln dn c5 c6 c9 A5 A6 A9) (BwS wb) (by kernel_rfl) (by kernel_rfl) (by exact Nat.le_refl 182) ?_ ?_ ?_
            · exact HST.out
            · intro i o f gh a W hi hf hdep hsame hcl hval hS
              rcases i with _ | _ | _ | _ | _ | _ | _ | _ | _ | _ | _ | _ | _ | _ | _ | _ | _ | _ | _ | _ | _ | _ | _ | i
              all_goals simp only [List.getElem?_cons_succ, List.getElem?_cons_zero, List.getElem?_nil, Option.some.injEq, reduceCtorEq] at hi
              all_goals subst hi
              · have E11 : a.tmps[11]? = some (.bool true) := (same_of hsame 11 (by rfl)).trans rfl
                refine g_plain rfl ?_
                exact does_value (w' := W) (v := .bool true) (by go_simp) ⟨(), .inr rfl, hS⟩
              · have E156 := hval 0 _ 156 rfl rfl (dep_of hdep 0 (by rfl))
                unfold wtlVal at E156
                refine g_plain rfl ?_
                exact does_value (w' := W) (v := .bool false) (by go_simp) ⟨(), .inr rfl, hS⟩
              · have E157 := hval 1 _ 157 rfl rfl (dep_of hdep 1 (by rfl))
                unfold wtlVal at E157
                refine g_plain rfl ?_
                exact does_value (w' := W) (v := .bool false) (by go_simp) ⟨(), .inr rfl, hS⟩
              · have EG := hval 2 _ 158 rfl rfl (dep_of hdep 2 (by rfl))
                have E13 : a.tmps[13]? = some (.slice A5 dn c5) := (same_of hsame 13 (by rfl)).trans rfl
                unfold wtlVal at EG
                refine g_want rfl rfl rfl EG ?_
                exact does_value (w' := W) (v := .slice A5 dn c5) (by go_simp) ⟨(), .inr rfl, hS⟩
              · have EG := hval 2 _ 158 rfl rfl (dep_of hdep 2 (by rfl))
                have E15 : a.tmps[15]? = some (.slice A6 dn c6) := (same_of hsame 15 (by rfl)).trans rfl
                unfold wtlVal at EG
                refine g_want rfl rfl rfl EG ?_
                exact does_value (w' := W) (v := .slice A6 dn c6) (by go_simp) ⟨(), .inr rfl, hS⟩
              · have EG := hval 2 _ 158 rfl rfl (dep_of hdep 2 (by rfl))
                have E159 := hval 3 _ 159 rfl rfl (dep_of hdep 3 (by rfl))
                have E160 := hval 4 _ 160 rfl rfl (dep_of hdep 4 (by rfl))
                unfold wtlVal at EG E159 E160
                refine g_want rfl rfl rfl EG ?_
                refine does_call 31 #[.slice A5 dn c5, .slice A6 dn c6] (by go_simp) ((HSM.out W hS).mono ?_)
                rintro _ _ ⟨rfl, rfl⟩
                exact ⟨_, rfl, (), .inr rfl, hS⟩
              · have EG := hval 2 _ 158 rfl rfl (dep_of hdep 2 (by rfl))
                have E161 := hval 5 _ 161 rfl rfl (dep_of hdep 5 (by rfl))
                unfold wtlVal at EG E161
                refine g_want rfl rfl rfl EG ?_
                exact does_value (w' := W) (v := .bool false) (by go_simp) ⟨(), .inr rfl, hS⟩
              · have E158 := hval 2 _ 158 rfl rfl (dep_of hdep 2 (by rfl))
                have E162 := hval 6 _ 162 rfl rfl (dep_of hdep 6 (by rfl))
                unfold wtlVal at E158 E162
                refine g_plain rfl ?_
                exact does_value (w' := W) (v := .bool false) (by go_simp) ⟨(), .inr rfl, hS⟩
              · have E163 := hval 7 _ 163 rfl rfl (dep_of hdep 7 (by rfl))
                unfold wtlVal at E163
                refine g_plain rfl ?_
                exact does_value (w' := W) (v := .bool false) (by go_simp) ⟨(), .inr rfl, hS⟩
              · have EG := hval 8 _ 164 rfl rfl (dep_of hdep 8 (by rfl))
                have E14 : a.tmps[14]? = some (.int .i64 ez2) := (same_of hsame 14 (by rfl)).trans rfl
                unfold wtlVal at EG
                refine g_want rfl rfl rfl EG ?_
                exact does_value (w' := W) (v := .int .i64 ez2) (by go_simp) ⟨(), .inr rfl, hS⟩
              · have EG := hval 8 _ 164 rfl rfl (dep_of hdep 8 (by rfl))
                have E16 : a.tmps[16]? = some (.int .i64 ez2) := (same_of hsame 16 (by rfl)).trans rfl
                unfold wtlVal at EG
                refine g_want rfl rfl rfl EG ?_
                exact does_value (w' := W) (v := .int .i64 ez2) (by go_simp) ⟨(), .inr rfl, hS⟩
              · have EG := hval 8 _ 164 rfl rfl (dep_of hdep 8 (by rfl))
                have E165 := hval 9 _ 165 rfl rfl (dep_of hdep 9 (by rfl))
                have E166 := hval 10 _ 166 rfl rfl (dep_of hdep 10 (by rfl))
                unfold wtlVal at EG E165 E166
                refine g_want rfl rfl rfl EG ?_
                exact does_value (w' := W) (v := .bool false) (by go_simp) ⟨(), .inr rfl, hS⟩
              · have E164 := hval 8 _ 164 rfl rfl (dep_of hdep 8 (by rfl))
                have E167 := hval 11 _ 167 rfl rfl (dep_of hdep 11 (by rfl))
                unfold wtlVal at E164 E167
                refine g_plain rfl ?_
                exact does_value (w' := W) (v := .bool false) (by go_simp) ⟨(), .inr rfl, hS⟩
              · have E168 := hval 12 _ 168 rfl rfl (dep_of hdep 12 (by rfl))
                unfold wtlVal at E168
                refine g_plain rfl ?_
                exact does_value (w' := W) (v := .bool false) (by go_simp) ⟨(), .inr rfl, hS⟩
              · have EG := hval 13 _ 169 rfl rfl (dep_of hdep 13 (by rfl))
                have E5 : a.tmps[5]? = some (.pointer (some ⟨g, 0, none⟩)) := (same_of hsame 5 (by rfl)).trans rfl
                unfold wtlVal at EG
                refine g_want rfl rfl rfl EG ?_
                exact does_value (w' := W) (v := .pointer (some ⟨g, 0, none⟩)) (by go_simp) ⟨(), .inr rfl, hS⟩
              · have EG := hval 13 _ 169 rfl rfl (dep_of hdep 13 (by rfl))
                have E170 := hval 14 _ 170 rfl rfl (dep_of hdep 14 (by rfl))
                unfold wtlVal at EG E170
                refine g_want rfl rfl rfl EG ?_
                refine does_call 32 #[.pointer (some ⟨g, 0, none⟩)] (by go_simp) ((HLN.out W hS).mono ?_)
                rintro _ _ ⟨rfl, rfl⟩
                exact ⟨_, rfl, (), .inr rfl, hS⟩
              · have EG := hval 13 _ 169 rfl rfl (dep_of hdep 13 (by rfl))
                have E7 : a.tmps[7]? = some (.pointer (some ⟨gx, 0, none⟩)) := (same_of hsame 7 (by rfl)).trans rfl
                unfold wtlVal at EG
                refine g_want rfl rfl rfl EG ?_
                exact does_value (w' := W) (v := .pointer (some ⟨gx, 0, none⟩)) (by go_simp) ⟨(), .inr rfl, hS⟩
              · have EG := hval 13 _ 169 rfl rfl (dep_of hdep 13 (by rfl))
                have E172 := hval 16 _ 172 rfl rfl (dep_of hdep 16 (by rfl))
                unfold wtlVal at EG E172
                refine g_want rfl rfl rfl EG ?_
                exact does_value (w' := W) (v := .pointer (some ⟨gx, 0, none⟩)) (by go_simp) ⟨(), .inr rfl, hS⟩
              · have EG := hval 13 _ 169 rfl rfl (dep_of hdep 13 (by rfl))
                have E173 := hval 17 _ 173 rfl rfl (dep_of hdep 17 (by rfl))
                unfold wtlVal at EG E173
                refine g_want rfl rfl rfl EG ?_
                exact does_value (w' := W) (v := .pointer (some ⟨gx, 1, none⟩)) (by go_simp) ⟨(), .inr rfl, hS⟩
              · have EG := hval 13 _ 169 rfl rfl (dep_of hdep 13 (by rfl))
                have E174 := hval 18 _ 174 rfl rfl (dep_of hdep 18 (by rfl))
                unfold wtlVal at EG E174
                have c1 := HRW.out W hS
                refine g_want rfl rfl rfl EG ?_
                exact does_value (w' := W) (v := .slice A9 ln c9) (by go_simp) ⟨(), .inr rfl, hS⟩
              · have EG := hval 13 _ 169 rfl rfl (dep_of hdep 13 (by rfl))
                have E175 := hval 19 _ 175 rfl rfl (dep_of hdep 19 (by rfl))
                unfold wtlVal at EG E175
                refine g_want rfl rfl rfl EG ?_
                exact does_value (w' := W) (v := .int .i64 (ln : Int)) (by go_simp) ⟨(), .inr rfl, hS⟩
              · have EG := hval 13 _ 169 rfl rfl (dep_of hdep 13 (by rfl))
                have E171 := hval 15 _ 171 rfl rfl (dep_of hdep 15 (by rfl))
                have E176 := hval 20 _ 176 rfl rfl (dep_of hdep 20 (by rfl))
                unfold wtlVal at EG E171 E176
                refine g_want rfl rfl rfl EG ?_
                exact does_value (w' := W) (v := .bool false) (by go_simp) ⟨(), .inr rfl, hS⟩
              · have E169 := hval 13 _ 169 rfl rfl (dep_of hdep 13 (by rfl))
                have E177 := hval 21 _ 177 rfl rfl (dep_of hdep 21 (by rfl))
                unfold wtlVal at E169 E177
                refine g_plain rfl ?_
                exact does_value (w' := W) (v := .bool false) (by go_simp) ⟨(), .inr rfl, hS⟩
            · intro gh wc hS
              have HBC := hid (show Below wb.heap.size wb wc from hS)
              clear hS HST
              simp only [putAll, wtlVal, Nat.reduceAdd, Nat.zero_add, Act.put, List.setIfInBounds_toArray, List.set_cons_zero, List.set_cons_succ]
              go_wp2_with fail
              refine (HOV.out wc HBC.out).mono ?_
              rintro _ wd ⟨rfl, hgd⟩
              have HXd := hid (HFN.out wc HBC.out wd hgd)
              clear hgd HFN HBC HOV HSM HLN HRW
              go_wp2_with fail
              go_roundw
              case rel => exact ⟨k + 1, by go_num, by omega, hid ⟨SN, HXd.out⟩⟩
              case measure => simp [intOf]; omega
        by_cases h2 : kd = 2
        · subst h2
          have HLB := hid (lentOwn_calls w6.heap.size t.cs.length t.c t.A t.cs w6 HTK6.out.2.1 (by have := HEA.out.2.1; omega))
          have ec2 : w6.cell? ⟨T, 2, none⟩ = some (.slice t.A t.cs.length t.c) := HTB.out.cell 2 HC2.out
          have HTC := hid HTKw.out.2.1
          go_wp2_with fail
          refine HLB.out.mono ?_
          rintro _ w7 ⟨vA, vc, rfl, hcc, hsl, hown, hb7⟩
          obtain ⟨KB, off, rfl, hKB, -⟩ := hsl.2 (by omega)
          have hKl := (World.ownsRow.lt hown KB (by rfl))
          have HEB := hid (show (enc t.cs.length ++ t.cs).length = encSize t.cs.length + t.cs.length from by rw [List.length_append, enc_length])
          have HEBL := hid (show encSize t.cs.length ≤ 9 from (encSize_le (n := t.cs.length) (by have := HEA.out.2.1; omega)).2)
          have HK1 := hid (fun W S2 H (h : WX w base bx g f l gx ([T, KB] ++ H) s S2 W) (hs : SB W (KB + 1) (some ⟨KB, off, none⟩) (t.cs.length + 4) (t.cs ++ [201, 202, 203, 204])) => h.own (fun r hr hh => wBytes_calls base g f r l s W (KB + 1) t.cs.length vc (some ⟨KB, off, none⟩) t.cs (by have := HEA.out.2.1; omega) hr (by
            have h1 := hs.take t.cs.length (by omega)
            rwa [List.take_append_of_le_length (Nat.le_refl _), List.take_length] at h1) (by have := h.ex; obtain ⟨_, _, _, _, _, hq⟩ := this; exact (hq KB (by simp)).1) (fun b o e _ hre => by
            cases e
            exact hh KB (by simp) (mem_fpw.2 (.inr (.inr hre))))))
          have HRB := hid (fun W (hW : Below w.heap.size w W) => refBytes_calls w.heap.size t.cs.length t.c t.A t.cs W ((HTKw.out.keep hW).2.1 |> fun _ => HTC.out.keepB hW) (by have := HEA.out.2.1; omega))
          have HK2 := hid (fun W S1 H A7 c7 (h : WX w base bx g f l gx ([T, KB] ++ H) S1 s W) (hs : SB W W.heap.size A7 (enc t.cs.length ++ t.cs).length (enc t.cs.length ++ t.cs)) => h.ref (fun rx hr => refPut_calls bx gx rx l s W.heap.size (enc t.cs.length ++ t.cs).length c7 0 0 A7 none (enc t.cs.length ++ t.cs) [] [numI t.cs.length, some t.cs] W hr hs ⟨rfl, fun h => absurd h (Nat.lt_irrefl 0)⟩ (by have := HEB.out; have := HEBL.out; have := HEA.out.2.1; omega) (by omega) (by rw [(sized_items t.cs).1]; rfl) (fun _ => (sized_items t.cs).2.symm)))
          have HKP := hid (fun W (hW : Below w.heap.size w W) (hs : SB W (KB + 1) (some ⟨KB, off, none⟩) (t.cs.length + 4) (t.cs ++ [201, 202, 203, 204])) => keptBytes_calls (KB + 1) t.cs.length vc w.heap.size t.c (some ⟨KB, off, none⟩) t.A t.cs W hs (HTC.out.keepB hW) (by have := HEA.out.2.1; omega) hcc)
          rw [← HEB.out] at HRB
          have HTL := hid HEA.out.2.1
          generalize putW l s [numI t.cs.length, some t.cs] = SN at HK1 HK2
          generalize (SN.e : Int) = ez at HK1 HK2
          have hsb2 : SB w7 (KB + 1) (some ⟨KB, off, none⟩) (t.cs.length + 4) (t.cs ++ [201, 202, 203, 204]) := ⟨hsl.1, fun h0 => by
            obtain ⟨b, o, e, -, hc⟩ := hsl.2 h0
            cases e
            exact ⟨KB, off, rfl, Nat.lt_succ_self _, hc⟩⟩
          generalize enc t.cs.length ++ t.cs = eb at HRB HK2 HEB
          have HSTT := hid (show WbS w base bx g f l gx T KB cs s SN t.cs eb t.cs.length off (fun j => decide (16 ≤ j)) (fun _ => .pointer none) w7.drew from ⟨(HRT.out.more (hb7.trans (Below.refl _ _).drew) (fun b hm => by
            simp only [decide_eq_true_eq, show ¬ (16 ≤ 6) by decide, false_and, if_false, List.append_nil] at hm
            simp at hm
            rcases hm with rfl | rfl
            · exact .inl (by simp)
            · exact .inr hKl)), HTB.out.keep (hb7.trans (Below.refl _ _).drew), hsb2.keep (Below.refl _ _).drew, fun e => by cases e⟩)
          go_wp2_with fail
          clear e0 ec2 HRT HTB hcc hsl hown hb7 hKl hKB hsb2 HLB
          generalize t.cs.length = tl at *
          generalize t.A = tA at *
          generalize t.c = tc at *
          refine wp_region_invG 182 (.pointer none) (wr2Val g gx T KB off tl tc vc ez tA) (WbS w base bx g f l gx T KB cs s SN t.cs eb tl off) (by kernel_rfl) (by kernel_rfl) (by exact Nat.le_refl 182) ?_ ?_ ?_
          · exact HSTT.out
          · intro i o f gh a W hi hf hdep hsame hcl hval hS
            rcases i with _ | _ | _ | _ | _ | _ | _ | _ | _ | _ | _ | _ | _ | _ | _ | _ | i
            all_goals simp only [List.getElem?_cons_succ, List.getElem?_cons_zero, List.getElem?_nil, Option.some.injEq, reduceCtorEq] at hi
            all_goals subst hi
            · have E5 : a.tmps[5]? = some (.pointer (some ⟨g, 0, none⟩)) := (same_of hsame 5 (by rfl)).trans rfl
              refine g_plain rfl ?_
              exact does_value (w' := W) (v := .pointer (some ⟨g, 0, none⟩)) (by go_simp) ⟨(.pointer none), .inr rfl, (hS.step (Below.refl _ _) 0 (.pointer none) (by decide) (by decide) (by decide))⟩
            · have E12 : a.tmps[12]? = some (.slice (some ⟨KB, off, none⟩) tl vc) := (same_of hsame 12 (by rfl)).trans rfl
              refine g_plain rfl ?_
              exact does_value (w' := W) (v := .slice (some ⟨KB, off, none⟩) tl vc) (by go_simp) ⟨(.pointer none), .inr rfl, (hS.step (Below.refl _ _) 1 (.pointer none) (by decide) (by decide) (by decide))⟩
            · have E87 := hval 0 _ 87 rfl rfl (dep_of hdep 0 (by rfl))
              have E88 := hval 1 _ 88 rfl rfl (dep_of hdep 1 (by rfl))
              unfold wr2Val at E87 E88
              refine g_plain rfl ?_
              refine does_call 17 #[.pointer (some ⟨g, 0, none⟩), .slice (some ⟨KB, off, none⟩) tl vc] (by go_simp) ((HK1.out W _ _ (hS.pre2 hf) hS.sb).mono ?_)
              rintro _ W' ⟨rfl, hp, hh⟩
              exact ⟨_, rfl, .pointer none, .inr rfl, hS.s2 hp hh⟩
            · have E7 : a.tmps[7]? = some (.pointer (some ⟨gx, 0, none⟩)) := (same_of hsame 7 (by rfl)).trans rfl
              refine g_plain rfl ?_
              exact does_value (w' := W) (v := .pointer (some ⟨gx, 0, none⟩)) (by go_simp) ⟨(.pointer none), .inr rfl, (hS.step (Below.refl _ _) 3 (.pointer none) (by decide) (by decide) (by decide))⟩
            · have E10 : a.tmps[10]? = some (.pointer (some ⟨T, 0, none⟩)) := (same_of hsame 10 (by rfl)).trans rfl
              refine g_plain rfl ?_
              exact does_value (w' := W) (v := .pointer (some ⟨T, 2, none⟩)) (by go_simp) ⟨(.pointer none), .inr rfl, (hS.step (Below.refl _ _) 4 (.pointer none) (by decide) (by decide) (by decide))⟩
            · have E91 := hval 4 _ 91 rfl rfl (dep_of hdep 4 (by rfl))
              unfold wr2Val at E91
              have c1 : W.cell? ⟨T, 2, none⟩ = some (.slice tA tl tc) := hS.tb.cell 2 HC2.out
              refine g_plain rfl ?_
              exact does_value (w' := W) (v := .slice tA tl tc) (by go_simp) ⟨(.pointer none), .inr rfl, (hS.step (Below.refl _ _) 5 (.pointer none) (by decide) (by decide) (by decide))⟩
            · have E92 := hval 5 _ 92 rfl rfl (dep_of hdep 5 (by rfl))
              unfold wr2Val at E92
              have n7 := not_yet hcl hf 7 (by rfl)
              refine g_plain rfl ?_
              refine does_call 19 #[.slice tA tl tc] (by go_simp) ((HRB.out W hS.wx.bel).mono ?_)
              rintro _ W' ⟨u, rfl, ho, hB⟩
              exact ⟨u, rfl, u, .inr rfl, hS.s6 hf n7 ho hB⟩
            · have E90 := hval 3 _ 90 rfl rfl (dep_of hdep 3 (by rfl))
              have E93 := hval 6 _ 93 rfl rfl (dep_of hdep 6 (by rfl))
              unfold wr2Val at E90 E93
              refine g_plain rfl ?_
              have ho := hS.o6 (dep_of hdep 6 (by rfl)) hf
              obtain ⟨A7, c7, ev7, -, sb7, -⟩ := ho.sb
              rw [ev7] at E93
              refine does_call 18 #[.pointer (some ⟨gx, 0, none⟩), .slice A7 eb.length c7, .slice none 0 0] (by go_simp) ((HK2.out W _ _ A7 c7 (hS.pre7 hf) sb7).mono ?_)
              rintro _ W' ⟨rfl, hp, hh⟩
              exact ⟨_, rfl, .pointer none, .inr rfl, hS.s7 hp hh⟩
            · have E89 := hval 2 _ 89 rfl rfl (dep_of hdep 2 (by rfl))
              have E94 := hval 7 _ 94 rfl rfl (dep_of hdep 7 (by rfl))
              unfold wr2Val at E89 E94
              refine g_plain rfl ?_
              exact does_value (w' := W) (v := .bool true) (by go_simp) ⟨(.pointer none), .inr rfl, (hS.step (Below.refl _ _) 8 (.pointer none) (by decide) (by decide) (by decide))⟩
            · have E95 := hval 8 _ 95 rfl rfl (dep_of hdep 8 (by rfl))
              unfold wr2Val at E95
              refine g_plain rfl ?_
              exact does_value (w' := W) (v := .bool true) (by go_simp) ⟨(.pointer none), .inr rfl, (hS.step (Below.refl _ _) 9 (.pointer none) (by decide) (by decide) (by decide))⟩
            · have EG := hval 9 _ 96 rfl rfl (dep_of hdep 9 (by rfl))
              have E12 : a.tmps[12]? = some (.slice (some ⟨KB, off, none⟩) tl vc) := (same_of hsame 12 (by rfl)).trans rfl
              unfold wr2Val at EG
              refine g_want rfl rfl rfl EG ?_
              exact does_value (w' := W) (v := .slice (some ⟨KB, off, none⟩) tl vc) (by go_simp) ⟨(.pointer none), .inr rfl, (hS.step (Below.refl _ _) 10 (.pointer none) (by decide) (by decide) (by decide))⟩
            · have EG := hval 9 _ 96 rfl rfl (dep_of hdep 9 (by rfl))
              have E10 : a.tmps[10]? = some (.pointer (some ⟨T, 0, none⟩)) := (same_of hsame 10 (by rfl)).trans rfl
              unfold wr2Val at EG
              refine g_want rfl rfl rfl EG ?_
              exact does_value (w' := W) (v := .pointer (some ⟨T, 2, none⟩)) (by go_simp) ⟨(.pointer none), .inr rfl, (hS.step (Below.refl _ _) 11 (.pointer none) (by decide) (by decide) (by decide))⟩
            · have EG := hval 9 _ 96 rfl rfl (dep_of hdep 9 (by rfl))
              have E98 := hval 11 _ 98 rfl rfl (dep_of hdep 11 (by rfl))
              unfold wr2Val at EG E98
              have c1 : W.cell? ⟨T, 2, none⟩ = some (.slice tA tl tc) := hS.tb.cell 2 HC2.out
              refine g_want rfl rfl rfl EG ?_
              exact does_value (w' := W) (v := .slice tA tl tc) (by go_simp) ⟨(.pointer none), .inr rfl, (hS.step (Below.refl _ _) 12 (.pointer none) (by decide) (by decide) (by decide))⟩
            · have EG := hval 9 _ 96 rfl rfl (dep_of hdep 9 (by rfl))
              have E97 := hval 10 _ 97 rfl rfl (dep_of hdep 10 (by rfl))
              have E99 := hval 12 _ 99 rfl rfl (dep_of hdep 12 (by rfl))
              unfold wr2Val at EG E97 E99
              refine g_want rfl rfl rfl EG ?_
              refine does_call 20 #[.slice (some ⟨KB, off, none⟩) tl vc, .slice tA tl tc] (by go_simp) ((HKP.out W hS.wx.bel hS.sb).mono ?_)
              rintro _ W' ⟨rfl, hB⟩
              exact ⟨_, rfl, .pointer none, .inr rfl, hS.step hB 13 (.pointer none) (by decide) (by decide) (by decide)⟩
            · have E96 := hval 9 _ 96 rfl rfl (dep_of hdep 9 (by rfl))
              have E100 := hval 13 _ 100 rfl rfl (dep_of hdep 13 (by rfl))
              unfold wr2Val at E96 E100
              refine g_plain rfl ?_
              exact does_value (w' := W) (v := .bool true) (by go_simp) ⟨(.pointer none), .inr rfl, (hS.step (Below.refl _ _) 14 (.pointer none) (by decide) (by decide) (by decide))⟩
            · have E101 := hval 14 _ 101 rfl rfl (dep_of hdep 14 (by rfl))
              unfold wr2Val at E101
              refine g_plain rfl ?_
              exact does_value (w' := W) (v := .bool true) (by go_simp) ⟨(.pointer none), .inr rfl, (hS.step (Below.refl _ _) 15 (.pointer none) (by decide) (by decide) (by decide))⟩
          · intro gh w8 hS
            have HX := hid (hS.fin rfl rfl)
            clear hS HK1 HK2 HSTT HRB HKP
            simp only [putAll, wr2Val, Nat.reduceAdd, Nat.zero_add, Act.put, List.setIfInBounds_toArray, List.set_cons_zero, List.set_cons_succ]
            have HLS := hid HX.out.lens
            have HTS := hid HX.out.bel.size
            go_wp2_with fail
            refine (HX.out.doneW).mono ?_
            rintro _ wa ⟨A5, c5, rfl, ho5, hba⟩
            have HXa := hid (HX.out.more (H' := (Value.slice A5 (doneB SN).length c5).ownBlock.toList) hba (fun b hm => .inr (World.ownsRow.lt ho5 b (by simpa using hm))))
            have HO5 := hid ho5
            clear ho5 hba HX
            go_wp2_with fail
            refine (HXa.out.doneR).mono ?_
            rintro _ wb ⟨A6, c6, rfl, ho6, hbb⟩
            have HXb := hid (HXa.out.keep hbb)
            have HO5b := hid (HO5.out.keep hbb)
            obtain ⟨A9, c9, hrow⟩ := HXb.out.row
            have HRW := hid (fun W (hW : Below wb.heap.size wb W) => ((hW.cell (p := ⟨gx, 1, none⟩) (lt_of_cell hrow)).trans hrow : W.cell? ⟨gx, 1, none⟩ = some (.slice A9 SN.bs.length c9)))
            have HLN := hid (fun W (hW : Below wb.heap.size wb W) => (HXb.out.keep hW).len)
            have HDL := hid (show (doneB SN).length ≤ 67108864 from by have := HLS.out; unfold doneB; split <;> simp <;> omega)
            obtain ⟨A5', c5', e5, -, sb5, -⟩ := HO5b.out.sb
            obtain ⟨rfl, rfl⟩ : A5 = A5' ∧ c5 = c5' := by injection e5 with h1 _ h3; exact ⟨h1, h3⟩
            obtain ⟨A6', c6', e6, -, sb6, -⟩ := ho6.sb
            obtain ⟨rfl, rfl⟩ : A6 = A6' ∧ c6 = c6' := by injection e6 with h1 _ h3; exact ⟨h1, h3⟩
            have HS5 := hid sb5; have HS6 := hid sb6
            have HSM := hid (fun W (hW : Below wb.heap.size wb W) => sameBytes_calls _ (doneB SN).length c5 _ (doneB SN).length c6 A5 A6 (doneB SN) (doneB SN) W (HS5.out.keep hW) (HS6.out.keep hW))
            simp only [beq_self_eq_true] at HSM
            have HOV := hid (fun W (hW : Below wb.heap.size wb W) => overBytes_calls _ (doneB SN).length c5 A5 (doneB SN) W (HO5b.out.keep hW) (by have := HDL.out; omega))
            have HFN := hid (fun W (hW : Below wb.heap.size wb W) W' (hg : W.grownBy W' (Value.slice A5 (doneB SN).length c5).ownBlock) => ((HXb.out.keep hW).high (Chg.of_grown (L := (Value.slice A5 (doneB SN).length c5).ownBlock.toList) hg (fun b e => by rw [e]; simp)) (fun b hm => ⟨hm, by
              have h1 := (World.ownsRow.lt HO5b.out b (by simpa using hm)).1
              have h2 := HTS.out
              omega⟩)).less (H' := []) (fun b hm => by cases hm))
            clear hrow e5 sb5 e6 sb6 ho6 hbb HO5 HO5b HXa HXb HS5 HS6 HLS HDL
            generalize (SN.bs.length) = ln at HRW HLN
            generalize (doneB SN).length = dn at HSM HOV HFN ⊢
            generalize (SN.e : Int) = ez2
            have HST := hid (show BwS wb (fun j => decide (23 ≤ j)) (fun _ => ()) wb.drew from (Below.refl _ _).drew)
            go_wp2_with fail
            refine wp_region_invG 182 () (wtlVal g gx ez2 ln dn c5 c6 c9 A5 A6 A9) (BwS wb) (by kernel_rfl) (by kernel_rfl) (by exact Nat.le_refl 182) ?_ ?_ ?_
            · exact HST.out
            · intro i o f gh a W hi hf hdep hsame hcl hval hS
              rcases i with _ | _ | _ | _ | _ | _ | _ | _ | _ | _ | _ | _ | _ | _ | _ | _ | _ | _ | _ | _ | _ | _ | _ | i
              all_goals simp only [List.getElem?_cons_succ, List.getElem?_cons_zero, List.getElem?_nil, Option.some.injEq, reduceCtorEq] at hi
              all_goals subst hi
              · have E11 : a.tmps[11]? = some (.bool true) := (same_of hsame 11 (by rfl)).trans rfl
                refine g_plain rfl ?_
                exact does_value (w' := W) (v := .bool true) (by go_simp) ⟨(), .inr rfl, hS⟩
              · have E156 := hval 0 _ 156 rfl rfl (dep_of hdep 0 (by rfl))
                unfold wtlVal at E156
                refine g_plain rfl ?_
                exact does_value (w' := W) (v := .bool false) (by go_simp) ⟨(), .inr rfl, hS⟩
              · have E157 := hval 1 _ 157 rfl rfl (dep_of hdep 1 (by rfl))
                unfold wtlVal at E157
                refine g_plain rfl ?_
                exact does_value (w' := W) (v := .bool false) (by go_simp) ⟨(), .inr rfl, hS⟩
              · have EG := hval 2 _ 158 rfl rfl (dep_of hdep 2 (by rfl))
                have E13 : a.tmps[13]? = some (.slice A5 dn c5) := (same_of hsame 13 (by rfl)).trans rfl
                unfold wtlVal at EG
                refine g_want rfl rfl rfl EG ?_
                exact does_value (w' := W) (v := .slice A5 dn c5) (by go_simp) ⟨(), .inr rfl, hS⟩
              · have EG := hval 2 _ 158 rfl rfl (dep_of hdep 2 (by rfl))
                have E15 : a.tmps[15]? = some (.slice A6 dn c6) := (same_of hsame 15 (by rfl)).trans rfl
                unfold wtlVal at EG
                refine g_want rfl rfl rfl EG ?_
                exact does_value (w' := W) (v := .slice A6 dn c6) (by go_simp) ⟨(), .inr rfl, hS⟩
              · have EG := hval 2 _ 158 rfl rfl (dep_of hdep 2 (by rfl))
                have E159 := hval 3 _ 159 rfl rfl (dep_of hdep 3 (by rfl))
                have E160 := hval 4 _ 160 rfl rfl (dep_of hdep 4 (by rfl))
                unfold wtlVal at EG E159 E160
                refine g_want rfl rfl rfl EG ?_
                refine does_call 31 #[.slice A5 dn c5, .slice A6 dn c6] (by go_simp) ((HSM.out W hS).mono ?_)
                rintro _ _ ⟨rfl, rfl⟩
                exact ⟨_, rfl, (), .inr rfl, hS⟩
              · have EG := hval 2 _ 158 rfl rfl (dep_of hdep 2 (by rfl))
                have E161 := hval 5 _ 161 rfl rfl (dep_of hdep 5 (by rfl))
                unfold wtlVal at EG E161
                refine g_want rfl rfl rfl EG ?_
                exact does_value (w' := W) (v := .bool false) (by go_simp) ⟨(), .inr rfl, hS⟩
              · have E158 := hval 2 _ 158 rfl rfl (dep_of hdep 2 (by rfl))
                have E162 := hval 6 _ 162 rfl rfl (dep_of hdep 6 (by rfl))
                unfold wtlVal at E158 E162
                refine g_plain rfl ?_
                exact does_value (w' := W) (v := .bool false) (by go_simp) ⟨(), .inr rfl, hS⟩
              · have E163 := hval 7 _ 163 rfl rfl (dep_of hdep 7 (by rfl))
                unfold wtlVal at E163
                refine g_plain rfl ?_
                exact does_value (w' := W) (v := .bool false) (by go_simp) ⟨(), .inr rfl, hS⟩
              · have EG := hval 8 _ 164 rfl rfl (dep_of hdep 8 (by rfl))
                have E14 : a.tmps[14]? = some (.int .i64 ez2) := (same_of hsame 14 (by rfl)).trans rfl
                unfold wtlVal at EG
                refine g_want rfl rfl rfl EG ?_
                exact does_value (w' := W) (v := .int .i64 ez2) (by go_simp) ⟨(), .inr rfl, hS⟩
              · have EG := hval 8 _ 164 rfl rfl (dep_of hdep 8 (by rfl))
                have E16 : a.tmps[16]? = some (.int .i64 ez2) := (same_of hsame 16 (by rfl)).trans rfl
                unfold wtlVal at EG
                refine g_want rfl rfl rfl EG ?_
                exact does_value (w' := W) (v := .int .i64 ez2) (by go_simp) ⟨(), .inr rfl, hS⟩
              · have EG := hval 8 _ 164 rfl rfl (dep_of hdep 8 (by rfl))
                have E165 := hval 9 _ 165 rfl rfl (dep_of hdep 9 (by rfl))
                have E166 := hval 10 _ 166 rfl rfl (dep_of hdep 10 (by rfl))
                unfold wtlVal at EG E165 E166
                refine g_want rfl rfl rfl EG ?_
                exact does_value (w' := W) (v := .bool false) (by go_simp) ⟨(), .inr rfl, hS⟩
              · have E164 := hval 8 _ 164 rfl rfl (dep_of hdep 8 (by rfl))
                have E167 := hval 11 _ 167 rfl rfl (dep_of hdep 11 (by rfl))
                unfold wtlVal at E164 E167
                refine g_plain rfl ?_
                exact does_value (w' := W) (v := .bool false) (by go_simp) ⟨(), .inr rfl, hS⟩
              · have E168 := hval 12 _ 168 rfl rfl (dep_of hdep 12 (by rfl))
                unfold wtlVal at E168
                refine g_plain rfl ?_
                exact does_value (w' := W) (v := .bool false) (by go_simp) ⟨(), .inr rfl, hS⟩
              · have EG := hval 13 _ 169 rfl rfl (dep_of hdep 13 (by rfl))
                have E5 : a.tmps[5]? = some (.pointer (some ⟨g, 0, none⟩)) := (same_of hsame 5 (by rfl)).trans rfl
                unfold wtlVal at EG
                refine g_want rfl rfl rfl EG ?_
                exact does_value (w' := W) (v := .pointer (some ⟨g, 0, none⟩)) (by go_simp) ⟨(), .inr rfl, hS⟩
              · have EG := hval 13 _ 169 rfl rfl (dep_of hdep 13 (by rfl))
                have E170 := hval 14 _ 170 rfl rfl (dep_of hdep 14 (by rfl))
                unfold wtlVal at EG E170
                refine g_want rfl rfl rfl EG ?_
                refine does_call 32 #[.pointer (some ⟨g, 0, none⟩)] (by go_simp) ((HLN.out W hS).mono ?_)
                rintro _ _ ⟨rfl, rfl⟩
                exact ⟨_, rfl, (), .inr rfl, hS⟩
              · have EG := hval 13 _ 169 rfl rfl (dep_of hdep 13 (by rfl))
                have E7 : a.tmps[7]? = some (.pointer (some ⟨gx, 0, none⟩)) := (same_of hsame 7 (by rfl)).trans rfl
                unfold wtlVal at EG
                refine g_want rfl rfl rfl EG ?_
                exact does_value (w' := W) (v := .pointer (some ⟨gx, 0, none⟩)) (by go_simp) ⟨(), .inr rfl, hS⟩
              · have EG := hval 13 _ 169 rfl rfl (dep_of hdep 13 (by rfl))
                have E172 := hval 16 _ 172 rfl rfl (dep_of hdep 16 (by rfl))
                unfold wtlVal at EG E172
                refine g_want rfl rfl rfl EG ?_
                exact does_value (w' := W) (v := .pointer (some ⟨gx, 0, none⟩)) (by go_simp) ⟨(), .inr rfl, hS⟩
              · have EG := hval 13 _ 169 rfl rfl (dep_of hdep 13 (by rfl))
                have E173 := hval 17 _ 173 rfl rfl (dep_of hdep 17 (by rfl))
                unfold wtlVal at EG E173
                refine g_want rfl rfl rfl EG ?_
                exact does_value (w' := W) (v := .pointer (some ⟨gx, 1, none⟩)) (by go_simp) ⟨(), .inr rfl, hS⟩
              · have EG := hval 13 _ 169 rfl rfl (dep_of hdep 13 (by rfl))
                have E174 := hval 18 _ 174 rfl rfl (dep_of hdep 18 (by rfl))
                unfold wtlVal at EG E174
                have c1 := HRW.out W hS
                refine g_want rfl rfl rfl EG ?_
                exact does_value (w' := W) (v := .slice A9 ln c9) (by go_simp) ⟨(), .inr rfl, hS⟩
              · have EG := hval 13 _ 169 rfl rfl (dep_of hdep 13 (by rfl))
                have E175 := hval 19 _ 175 rfl rfl (dep_of hdep 19 (by rfl))
                unfold wtlVal at EG E175
                refine g_want rfl rfl rfl EG ?_
                exact does_value (w' := W) (v := .int .i64 (ln : Int)) (by go_simp) ⟨(), .inr rfl, hS⟩
              · have EG := hval 13 _ 169 rfl rfl (dep_of hdep 13 (by rfl))
                have E171 := hval 15 _ 171 rfl rfl (dep_of hdep 15 (by rfl))
                have E176 := hval 20 _ 176 rfl rfl (dep_of hdep 20 (by rfl))
                unfold wtlVal at EG E171 E176
                refine g_want rfl rfl rfl EG ?_
                exact does_value (w' := W) (v := .bool false) (by go_simp) ⟨(), .inr rfl, hS⟩
              · have E169 := hval 13 _ 169 rfl rfl (dep_of hdep 13 (by rfl))
                have E177 := hval 21 _ 177 rfl rfl (dep_of hdep 21 (by rfl))
                unfold wtlVal at E169 E177
                refine g_plain rfl ?_
                exact does_value (w' := W) (v := .bool false) (by go_simp) ⟨(), .inr rfl, hS⟩
            · intro gh wc hS
              have HBC := hid (show Below wb.heap.size wb wc from hS)
              clear hS HST
              simp only [putAll, wtlVal, Nat.reduceAdd, Nat.zero_add, Act.put, List.setIfInBounds_toArray, List.set_cons_zero, List.set_cons_succ]
              go_wp2_with fail
              refine (HOV.out wc HBC.out).mono ?_
              rintro _ wd ⟨rfl, hgd⟩
              have HXd := hid (HFN.out wc HBC.out wd hgd)
              clear hgd HFN HBC HOV HSM HLN HRW
              go_wp2_with fail
              go_roundw
              case rel => exact ⟨k + 1, by go_num, by omega, hid ⟨SN, HXd.out⟩⟩
              case measure => simp [intOf]; omega
        by_cases h3 : kd = 3
        · subst h3
          have HK1 := hid (fun W S2 (h : WX w base bx g f l gx [T] s S2 W) => h.own (fun r hr _ => wID_calls base g f r l s W t.id HTK6.out.1 hr))
          have HK2 := hid (fun W S1 (h : WX w base bx g f l gx [T] S1 s W) => h.ref (fun rx hr => refWID_calls bx gx rx l s W t.id HTK6.out.1 hr))
          generalize putW l s [some t.id] = SN at HK1 HK2
          generalize bcells t.id = iv at HK1 HK2 HLI
          generalize (SN.e : Int) = ez at HK1 HK2
          have HSTT := hid (show WrS w base bx g f l gx T cs s SN 3 7 (fun j => decide (10 ≤ j)) (fun _ => ()) w6.drew from ⟨HRT.out.keep (Below.refl _ _).drew, HTB.out.keep (Below.refl _ _).drew⟩)
          go_wp2_with fail
          clear e0 HRT HTB
          refine wp_region_invG 182 () (wr3Val g gx T ez iv) (WrS w base bx g f l gx T cs s SN 3 7) (by kernel_rfl) (by kernel_rfl) (by exact Nat.le_refl 182) ?_ ?_ ?_
          · exact HSTT.out
          · intro i o f gh a W hi hf hdep hsame hcl hval hS
            rcases i with _ | _ | _ | _ | _ | _ | _ | _ | _ | _ | i
            all_goals simp only [List.getElem?_cons_succ, List.getElem?_cons_zero, List.getElem?_nil, Option.some.injEq, reduceCtorEq] at hi
            all_goals subst hi
            · have E5 : a.tmps[5]? = some (.pointer (some ⟨g, 0, none⟩)) := (same_of hsame 5 (by rfl)).trans rfl
              refine g_plain rfl ?_
              exact does_value (w' := W) (v := .pointer (some ⟨g, 0, none⟩)) (by go_simp) ⟨(), .inr rfl, (hS.step 0 (by decide) (by decide))⟩
            · have E10 : a.tmps[10]? = some (.pointer (some ⟨T, 0, none⟩)) := (same_of hsame 10 (by rfl)).trans rfl
              refine g_plain rfl ?_
              exact does_value (w' := W) (v := .pointer (some ⟨T, 3, none⟩)) (by go_simp) ⟨(), .inr rfl, (hS.step 1 (by decide) (by decide))⟩
            · have E105 := hval 1 _ 105 rfl rfl (dep_of hdep 1 (by rfl))
              unfold wr3Val at E105
              refine g_plain rfl ?_
              exact does_load_run _ _ rfl ⟨T, 3, none⟩ _ (by rw [eval_getD, E105]; rfl) (HLI.out W T hS.tb) ⟨(), .inr rfl, (hS.step 2 (by decide) (by decide))⟩
            · have E104 := hval 0 _ 104 rfl rfl (dep_of hdep 0 (by rfl))
              have E106 := hval 2 _ 106 rfl rfl (dep_of hdep 2 (by rfl))
              unfold wr3Val at E104 E106
              refine g_plain rfl ?_
              refine does_call 21 #[.pointer (some ⟨g, 0, none⟩), .agg iv] (by go_simp) ((HK1.out W _ (hS.pre1 hf)).mono ?_)
              rintro _ W' ⟨rfl, hp, hh⟩
              exact ⟨_, rfl, (), .inr rfl, hS.s1 hp hh (by decide)⟩
            · have E7 : a.tmps[7]? = some (.pointer (some ⟨gx, 0, none⟩)) := (same_of hsame 7 (by rfl)).trans rfl
              refine g_plain rfl ?_
              exact does_value (w' := W) (v := .pointer (some ⟨gx, 0, none⟩)) (by go_simp) ⟨(), .inr rfl, (hS.step 4 (by decide) (by decide))⟩
            · have E10 : a.tmps[10]? = some (.pointer (some ⟨T, 0, none⟩)) := (same_of hsame 10 (by rfl)).trans rfl
              refine g_plain rfl ?_
              exact does_value (w' := W) (v := .pointer (some ⟨T, 3, none⟩)) (by go_simp) ⟨(), .inr rfl, (hS.step 5 (by decide) (by decide))⟩
            · have E109 := hval 5 _ 109 rfl rfl (dep_of hdep 5 (by rfl))
              unfold wr3Val at E109
              refine g_plain rfl ?_
              exact does_load_run _ _ rfl ⟨T, 3, none⟩ _ (by rw [eval_getD, E109]; rfl) (HLI.out W T hS.tb) ⟨(), .inr rfl, (hS.step 6 (by decide) (by decide))⟩
            · have E108 := hval 4 _ 108 rfl rfl (dep_of hdep 4 (by rfl))
              have E110 := hval 6 _ 110 rfl rfl (dep_of hdep 6 (by rfl))
              unfold wr3Val at E108 E110
              refine g_plain rfl ?_
              refine does_call 22 #[.pointer (some ⟨gx, 0, none⟩), .agg iv] (by go_simp) ((HK2.out W _ (hS.pre2 hf)).mono ?_)
              rintro _ W' ⟨rfl, hp, hh⟩
              exact ⟨_, rfl, (), .inr rfl, hS.s2 hp hh (by decide)⟩
            · have E107 := hval 3 _ 107 rfl rfl (dep_of hdep 3 (by rfl))
              have E111 := hval 7 _ 111 rfl rfl (dep_of hdep 7 (by rfl))
              unfold wr3Val at E107 E111
              refine g_plain rfl ?_
              exact does_value (w' := W) (v := .bool true) (by go_simp) ⟨(), .inr rfl, (hS.step 8 (by decide) (by decide))⟩
            · have E112 := hval 8 _ 112 rfl rfl (dep_of hdep 8 (by rfl))
              unfold wr3Val at E112
              refine g_plain rfl ?_
              exact does_value (w' := W) (v := .bool true) (by go_simp) ⟨(), .inr rfl, (hS.step 9 (by decide) (by decide))⟩
          · intro gh w8 hS
            have HX := hid (hS.fin rfl rfl)
            clear hS HK1 HK2 HSTT
            simp only [putAll, wr3Val, Nat.reduceAdd, Nat.zero_add, Act.put, List.setIfInBounds_toArray, List.set_cons_zero, List.set_cons_succ]
            have HLS := hid HX.out.lens
            have HTS := hid HX.out.bel.size
            go_wp2_with fail
            refine (HX.out.doneW).mono ?_
            rintro _ wa ⟨A5, c5, rfl, ho5, hba⟩
            have HXa := hid (HX.out.more (H' := (Value.slice A5 (doneB SN).length c5).ownBlock.toList) hba (fun b hm => .inr (World.ownsRow.lt ho5 b (by simpa using hm))))
            have HO5 := hid ho5
            clear ho5 hba HX
            go_wp2_with fail
            refine (HXa.out.doneR).mono ?_
            rintro _ wb ⟨A6, c6, rfl, ho6, hbb⟩
            have HXb := hid (HXa.out.keep hbb)
            have HO5b := hid (HO5.out.keep hbb)
            obtain ⟨A9, c9, hrow⟩ := HXb.out.row
            have HRW := hid (fun W (hW : Below wb.heap.size wb W) => ((hW.cell (p := ⟨gx, 1, none⟩) (lt_of_cell hrow)).trans hrow : W.cell? ⟨gx, 1, none⟩ = some (.slice A9 SN.bs.length c9)))
            have HLN := hid (fun W (hW : Below wb.heap.size wb W) => (HXb.out.keep hW).len)
            have HDL := hid (show (doneB SN).length ≤ 67108864 from by have := HLS.out; unfold doneB; split <;> simp <;> omega)
            obtain ⟨A5', c5', e5, -, sb5, -⟩ := HO5b.out.sb
            obtain ⟨rfl, rfl⟩ : A5 = A5' ∧ c5 = c5' := by injection e5 with h1 _ h3; exact ⟨h1, h3⟩
            obtain ⟨A6', c6', e6, -, sb6, -⟩ := ho6.sb
            obtain ⟨rfl, rfl⟩ : A6 = A6' ∧ c6 = c6' := by injection e6 with h1 _ h3; exact ⟨h1, h3⟩
            have HS5 := hid sb5; have HS6 := hid sb6
            have HSM := hid (fun W (hW : Below wb.heap.size wb W) => sameBytes_calls _ (doneB SN).length c5 _ (doneB SN).length c6 A5 A6 (doneB SN) (doneB SN) W (HS5.out.keep hW) (HS6.out.keep hW))
            simp only [beq_self_eq_true] at HSM
            have HOV := hid (fun W (hW : Below wb.heap.size wb W) => overBytes_calls _ (doneB SN).length c5 A5 (doneB SN) W (HO5b.out.keep hW) (by have := HDL.out; omega))
            have HFN := hid (fun W (hW : Below wb.heap.size wb W) W' (hg : W.grownBy W' (Value.slice A5 (doneB SN).length c5).ownBlock) => ((HXb.out.keep hW).high (Chg.of_grown (L := (Value.slice A5 (doneB SN).length c5).ownBlock.toList) hg (fun b e => by rw [e]; simp)) (fun b hm => ⟨hm, by
              have h1 := (World.ownsRow.lt HO5b.out b (by simpa using hm)).1
              have h2 := HTS.out
              omega⟩)).less (H' := []) (fun b hm => by cases hm))
            clear hrow e5 sb5 e6 sb6 ho6 hbb HO5 HO5b HXa HXb HS5 HS6 HLS HDL
            generalize (SN.bs.length) = ln at HRW HLN
            generalize (doneB SN).length = dn at HSM HOV HFN ⊢
            generalize (SN.e : Int) = ez2
            have HST := hid (show BwS wb (fun j => decide (23 ≤ j)) (fun _ => ()) wb.drew from (Below.refl _ _).drew)
            go_wp2_with fail
            refine wp_region_invG 182 () (wtlVal g gx ez2 ln dn c5 c6 c9 A5 A6 A9) (BwS wb) (by kernel_rfl) (by kernel_rfl) (by exact Nat.le_refl 182) ?_ ?_ ?_
            · exact HST.out
            · intro i o f gh a W hi hf hdep hsame hcl hval hS
              rcases i with _ | _ | _ | _ | _ | _ | _ | _ | _ | _ | _ | _ | _ | _ | _ | _ | _ | _ | _ | _ | _ | _ | _ | i
              all_goals simp only [List.getElem?_cons_succ, List.getElem?_cons_zero, List.getElem?_nil, Option.some.injEq, reduceCtorEq] at hi
              all_goals subst hi
              · have E11 : a.tmps[11]? = some (.bool true) := (same_of hsame 11 (by rfl)).trans rfl
                refine g_plain rfl ?_
                exact does_value (w' := W) (v := .bool true) (by go_simp) ⟨(), .inr rfl, hS⟩
              · have E156 := hval 0 _ 156 rfl rfl (dep_of hdep 0 (by rfl))
                unfold wtlVal at E156
                refine g_plain rfl ?_
                exact does_value (w' := W) (v := .bool false) (by go_simp) ⟨(), .inr rfl, hS⟩
              · have E157 := hval 1 _ 157 rfl rfl (dep_of hdep 1 (by rfl))
                unfold wtlVal at E157
                refine g_plain rfl ?_
                exact does_value (w' := W) (v := .bool false) (by go_simp) ⟨(), .inr rfl, hS⟩
              · have EG := hval 2 _ 158 rfl rfl (dep_of hdep 2 (by rfl))
                have E13 : a.tmps[13]? = some (.slice A5 dn c5) := (same_of hsame 13 (by rfl)).trans rfl
                unfold wtlVal at EG
                refine g_want rfl rfl rfl EG ?_
                exact does_value (w' := W) (v := .slice A5 dn c5) (by go_simp) ⟨(), .inr rfl, hS⟩
              · have EG := hval 2 _ 158 rfl rfl (dep_of hdep 2 (by rfl))
                have E15 : a.tmps[15]? = some (.slice A6 dn c6) := (same_of hsame 15 (by rfl)).trans rfl
                unfold wtlVal at EG
                refine g_want rfl rfl rfl EG ?_
                exact does_value (w' := W) (v := .slice A6 dn c6) (by go_simp) ⟨(), .inr rfl, hS⟩
              · have EG := hval 2 _ 158 rfl rfl (dep_of hdep 2 (by rfl))
                have E159 := hval 3 _ 159 rfl rfl (dep_of hdep 3 (by rfl))
                have E160 := hval 4 _ 160 rfl rfl (dep_of hdep 4 (by rfl))
                unfold wtlVal at EG E159 E160
                refine g_want rfl rfl rfl EG ?_
                refine does_call 31 #[.slice A5 dn c5, .slice A6 dn c6] (by go_simp) ((HSM.out W hS).mono ?_)
                rintro _ _ ⟨rfl, rfl⟩
                exact ⟨_, rfl, (), .inr rfl, hS⟩
              · have EG := hval 2 _ 158 rfl rfl (dep_of hdep 2 (by rfl))
                have E161 := hval 5 _ 161 rfl rfl (dep_of hdep 5 (by rfl))
                unfold wtlVal at EG E161
                refine g_want rfl rfl rfl EG ?_
                exact does_value (w' := W) (v := .bool false) (by go_simp) ⟨(), .inr rfl, hS⟩
              · have E158 := hval 2 _ 158 rfl rfl (dep_of hdep 2 (by rfl))
                have E162 := hval 6 _ 162 rfl rfl (dep_of hdep 6 (by rfl))
                unfold wtlVal at E158 E162
                refine g_plain rfl ?_
                exact does_value (w' := W) (v := .bool false) (by go_simp) ⟨(), .inr rfl, hS⟩
              · have E163 := hval 7 _ 163 rfl rfl (dep_of hdep 7 (by rfl))
                unfold wtlVal at E163
                refine g_plain rfl ?_
                exact does_value (w' := W) (v := .bool false) (by go_simp) ⟨(), .inr rfl, hS⟩
              · have EG := hval 8 _ 164 rfl rfl (dep_of hdep 8 (by rfl))
                have E14 : a.tmps[14]? = some (.int .i64 ez2) := (same_of hsame 14 (by rfl)).trans rfl
                unfold wtlVal at EG
                refine g_want rfl rfl rfl EG ?_
                exact does_value (w' := W) (v := .int .i64 ez2) (by go_simp) ⟨(), .inr rfl, hS⟩
              · have EG := hval 8 _ 164 rfl rfl (dep_of hdep 8 (by rfl))
                have E16 : a.tmps[16]? = some (.int .i64 ez2) := (same_of hsame 16 (by rfl)).trans rfl
                unfold wtlVal at EG
                refine g_want rfl rfl rfl EG ?_
                exact does_value (w' := W) (v := .int .i64 ez2) (by go_simp) ⟨(), .inr rfl, hS⟩
              · have EG := hval 8 _ 164 rfl rfl (dep_of hdep 8 (by rfl))
                have E165 := hval 9 _ 165 rfl rfl (dep_of hdep 9 (by rfl))
                have E166 := hval 10 _ 166 rfl rfl (dep_of hdep 10 (by rfl))
                unfold wtlVal at EG E165 E166
                refine g_want rfl rfl rfl EG ?_
                exact does_value (w' := W) (v := .bool false) (by go_simp) ⟨(), .inr rfl, hS⟩
              · have E164 := hval 8 _ 164 rfl rfl (dep_of hdep 8 (by rfl))
                have E167 := hval 11 _ 167 rfl rfl (dep_of hdep 11 (by rfl))
                unfold wtlVal at E164 E167
                refine g_plain rfl ?_
                exact does_value (w' := W) (v := .bool false) (by go_simp) ⟨(), .inr rfl, hS⟩
              · have E168 := hval 12 _ 168 rfl rfl (dep_of hdep 12 (by rfl))
                unfold wtlVal at E168
                refine g_plain rfl ?_
                exact does_value (w' := W) (v := .bool false) (by go_simp) ⟨(), .inr rfl, hS⟩
              · have EG := hval 13 _ 169 rfl rfl (dep_of hdep 13 (by rfl))
                have E5 : a.tmps[5]? = some (.pointer (some ⟨g, 0, none⟩)) := (same_of hsame 5 (by rfl)).trans rfl
                unfold wtlVal at EG
                refine g_want rfl rfl rfl EG ?_
                exact does_value (w' := W) (v := .pointer (some ⟨g, 0, none⟩)) (by go_simp) ⟨(), .inr rfl, hS⟩
              · have EG := hval 13 _ 169 rfl rfl (dep_of hdep 13 (by rfl))
                have E170 := hval 14 _ 170 rfl rfl (dep_of hdep 14 (by rfl))
                unfold wtlVal at EG E170
                refine g_want rfl rfl rfl EG ?_
                refine does_call 32 #[.pointer (some ⟨g, 0, none⟩)] (by go_simp) ((HLN.out W hS).mono ?_)
                rintro _ _ ⟨rfl, rfl⟩
                exact ⟨_, rfl, (), .inr rfl, hS⟩
              · have EG := hval 13 _ 169 rfl rfl (dep_of hdep 13 (by rfl))
                have E7 : a.tmps[7]? = some (.pointer (some ⟨gx, 0, none⟩)) := (same_of hsame 7 (by rfl)).trans rfl
                unfold wtlVal at EG
                refine g_want rfl rfl rfl EG ?_
                exact does_value (w' := W) (v := .pointer (some ⟨gx, 0, none⟩)) (by go_simp) ⟨(), .inr rfl, hS⟩
              · have EG := hval 13 _ 169 rfl rfl (dep_of hdep 13 (by rfl))
                have E172 := hval 16 _ 172 rfl rfl (dep_of hdep 16 (by rfl))
                unfold wtlVal at EG E172
                refine g_want rfl rfl rfl EG ?_
                exact does_value (w' := W) (v := .pointer (some ⟨gx, 0, none⟩)) (by go_simp) ⟨(), .inr rfl, hS⟩
              · have EG := hval 13 _ 169 rfl rfl (dep_of hdep 13 (by rfl))
                have E173 := hval 17 _ 173 rfl rfl (dep_of hdep 17 (by rfl))
                unfold wtlVal at EG E173
                refine g_want rfl rfl rfl EG ?_
                exact does_value (w' := W) (v := .pointer (some ⟨gx, 1, none⟩)) (by go_simp) ⟨(), .inr rfl, hS⟩
              · have EG := hval 13 _ 169 rfl rfl (dep_of hdep 13 (by rfl))
                have E174 := hval 18 _ 174 rfl rfl (dep_of hdep 18 (by rfl))
                unfold wtlVal at EG E174
                have c1 := HRW.out W hS
                refine g_want rfl rfl rfl EG ?_
                exact does_value (w' := W) (v := .slice A9 ln c9) (by go_simp) ⟨(), .inr rfl, hS⟩
              · have EG := hval 13 _ 169 rfl rfl (dep_of hdep 13 (by rfl))
                have E175 := hval 19 _ 175 rfl rfl (dep_of hdep 19 (by rfl))
                unfold wtlVal at EG E175
                refine g_want rfl rfl rfl EG ?_
                exact does_value (w' := W) (v := .int .i64 (ln : Int)) (by go_simp) ⟨(), .inr rfl, hS⟩
              · have EG := hval 13 _ 169 rfl rfl (dep_of hdep 13 (by rfl))
                have E171 := hval 15 _ 171 rfl rfl (dep_of hdep 15 (by rfl))
                have E176 := hval 20 _ 176 rfl rfl (dep_of hdep 20 (by rfl))
                unfold wtlVal at EG E171 E176
                refine g_want rfl rfl rfl EG ?_
                exact does_value (w' := W) (v := .bool false) (by go_simp) ⟨(), .inr rfl, hS⟩
              · have E169 := hval 13 _ 169 rfl rfl (dep_of hdep 13 (by rfl))
                have E177 := hval 21 _ 177 rfl rfl (dep_of hdep 21 (by rfl))
                unfold wtlVal at E169 E177
                refine g_plain rfl ?_
                exact does_value (w' := W) (v := .bool false) (by go_simp) ⟨(), .inr rfl, hS⟩
            · intro gh wc hS
              have HBC := hid (show Below wb.heap.size wb wc from hS)
              clear hS HST
              simp only [putAll, wtlVal, Nat.reduceAdd, Nat.zero_add, Act.put, List.setIfInBounds_toArray, List.set_cons_zero, List.set_cons_succ]
              go_wp2_with fail
              refine (HOV.out wc HBC.out).mono ?_
              rintro _ wd ⟨rfl, hgd⟩
              have HXd := hid (HFN.out wc HBC.out wd hgd)
              clear hgd HFN HBC HOV HSM HLN HRW
              go_wp2_with fail
              go_roundw
              case rel => exact ⟨k + 1, by go_num, by omega, hid ⟨SN, HXd.out⟩⟩
              case measure => simp [intOf]; omega
        by_cases h4 : kd = 4
        · subst h4
          have HK1 := hid (fun W S2 (h : WX w base bx g f l gx [T] s S2 W) => h.own (fun r hr _ => wDot_calls base g f r l s W t.x t.y HTK6.out.2.2.2.2.2.2.2.2.1 HTK6.out.2.2.2.2.2.2.2.2.2.1 hr))
          have HK2 := hid (fun W S1 (h : WX w base bx g f l gx [T] S1 s W) => h.ref (fun rx hr => refWDot_calls bx gx rx l s W t.x t.y HTK6.out.2.2.2.2.2.2.2.2.1 HTK6.out.2.2.2.2.2.2.2.2.2.1 hr))
          generalize putW l s [numI t.x, numI t.y] = SN at HK1 HK2
          generalize t.x = tx at HK1 HK2 HLD
          generalize t.y = ty at HK1 HK2 HLD
          generalize (SN.e : Int) = ez at HK1 HK2
          have HSTT := hid (show WrS w base bx g f l gx T cs s SN 3 7 (fun j => decide (10 ≤ j)) (fun _ => ()) w6.drew from ⟨HRT.out.keep (Below.refl _ _).drew, HTB.out.keep (Below.refl _ _).drew⟩)
          go_wp2_with fail
          clear e0 HRT HTB
          refine wp_region_invG 182 () (wr4Val g gx T ez tx ty) (WrS w base bx g f l gx T cs s SN 3 7) (by kernel_rfl) (by kernel_rfl) (by exact Nat.le_refl 182) ?_ ?_ ?_
          · exact HSTT.out
          · intro i o f gh a W hi hf hdep hsame hcl hval hS
            rcases i with _ | _ | _ | _ | _ | _ | _ | _ | _ | _ | i
            all_goals simp only [List.getElem?_cons_succ, List.getElem?_cons_zero, List.getElem?_nil, Option.some.injEq, reduceCtorEq] at hi
            all_goals subst hi
            · have E5 : a.tmps[5]? = some (.pointer (some ⟨g, 0, none⟩)) := (same_of hsame 5 (by rfl)).trans rfl
              refine g_plain rfl ?_
              exact does_value (w' := W) (v := .pointer (some ⟨g, 0, none⟩)) (by go_simp) ⟨(), .inr rfl, (hS.step 0 (by decide) (by decide))⟩
            · have E10 : a.tmps[10]? = some (.pointer (some ⟨T, 0, none⟩)) := (same_of hsame 10 (by rfl)).trans rfl
              refine g_plain rfl ?_
              exact does_value (w' := W) (v := .pointer (some ⟨T, 35, none⟩)) (by go_simp) ⟨(), .inr rfl, (hS.step 1 (by decide) (by decide))⟩
            · have E116 := hval 1 _ 116 rfl rfl (dep_of hdep 1 (by rfl))
              unfold wr4Val at E116
              refine g_plain rfl ?_
              exact does_load_run _ _ rfl ⟨T, 35, none⟩ _ (by rw [eval_getD, E116]; rfl) (HLD.out W T hS.tb) ⟨(), .inr rfl, (hS.step 2 (by decide) (by decide))⟩
            · have E115 := hval 0 _ 115 rfl rfl (dep_of hdep 0 (by rfl))
              have E117 := hval 2 _ 117 rfl rfl (dep_of hdep 2 (by rfl))
              unfold wr4Val at E115 E117
              refine g_plain rfl ?_
              refine does_call 23 #[.pointer (some ⟨g, 0, none⟩), .agg #[.int .i64 tx, .int .i64 ty]] (by go_simp) ((HK1.out W _ (hS.pre1 hf)).mono ?_)
              rintro _ W' ⟨rfl, hp, hh⟩
              exact ⟨_, rfl, (), .inr rfl, hS.s1 hp hh (by decide)⟩
            · have E7 : a.tmps[7]? = some (.pointer (some ⟨gx, 0, none⟩)) := (same_of hsame 7 (by rfl)).trans rfl
              refine g_plain rfl ?_
              exact does_value (w' := W) (v := .pointer (some ⟨gx, 0, none⟩)) (by go_simp) ⟨(), .inr rfl, (hS.step 4 (by decide) (by decide))⟩
            · have E10 : a.tmps[10]? = some (.pointer (some ⟨T, 0, none⟩)) := (same_of hsame 10 (by rfl)).trans rfl
              refine g_plain rfl ?_
              exact does_value (w' := W) (v := .pointer (some ⟨T, 35, none⟩)) (by go_simp) ⟨(), .inr rfl, (hS.step 5 (by decide) (by decide))⟩
            · have E120 := hval 5 _ 120 rfl rfl (dep_of hdep 5 (by rfl))
              unfold wr4Val at E120
              refine g_plain rfl ?_
              exact does_load_run _ _ rfl ⟨T, 35, none⟩ _ (by rw [eval_getD, E120]; rfl) (HLD.out W T hS.tb) ⟨(), .inr rfl, (hS.step 6 (by decide) (by decide))⟩
            · have E119 := hval 4 _ 119 rfl rfl (dep_of hdep 4 (by rfl))
              have E121 := hval 6 _ 121 rfl rfl (dep_of hdep 6 (by rfl))
              unfold wr4Val at E119 E121
              refine g_plain rfl ?_
              refine does_call 24 #[.pointer (some ⟨gx, 0, none⟩), .agg #[.int .i64 tx, .int .i64 ty]] (by go_simp) ((HK2.out W _ (hS.pre2 hf)).mono ?_)
              rintro _ W' ⟨rfl, hp, hh⟩
              exact ⟨_, rfl, (), .inr rfl, hS.s2 hp hh (by decide)⟩
            · have E118 := hval 3 _ 118 rfl rfl (dep_of hdep 3 (by rfl))
              have E122 := hval 7 _ 122 rfl rfl (dep_of hdep 7 (by rfl))
              unfold wr4Val at E118 E122
              refine g_plain rfl ?_
              exact does_value (w' := W) (v := .bool true) (by go_simp) ⟨(), .inr rfl, (hS.step 8 (by decide) (by decide))⟩
            · have E123 := hval 8 _ 123 rfl rfl (dep_of hdep 8 (by rfl))
              unfold wr4Val at E123
              refine g_plain rfl ?_
              exact does_value (w' := W) (v := .bool true) (by go_simp) ⟨(), .inr rfl, (hS.step 9 (by decide) (by decide))⟩
          · intro gh w8 hS
            have HX := hid (hS.fin rfl rfl)
            clear hS HK1 HK2 HSTT
            simp only [putAll, wr4Val, Nat.reduceAdd, Nat.zero_add, Act.put, List.setIfInBounds_toArray, List.set_cons_zero, List.set_cons_succ]
            have HLS := hid HX.out.lens
            have HTS := hid HX.out.bel.size
            go_wp2_with fail
            refine (HX.out.doneW).mono ?_
            rintro _ wa ⟨A5, c5, rfl, ho5, hba⟩
            have HXa := hid (HX.out.more (H' := (Value.slice A5 (doneB SN).length c5).ownBlock.toList) hba (fun b hm => .inr (World.ownsRow.lt ho5 b (by simpa using hm))))
            have HO5 := hid ho5
            clear ho5 hba HX
            go_wp2_with fail
            refine (HXa.out.doneR).mono ?_
            rintro _ wb ⟨A6, c6, rfl, ho6, hbb⟩
            have HXb := hid (HXa.out.keep hbb)
            have HO5b := hid (HO5.out.keep hbb)
            obtain ⟨A9, c9, hrow⟩ := HXb.out.row
            have HRW := hid (fun W (hW : Below wb.heap.size wb W) => ((hW.cell (p := ⟨gx, 1, none⟩) (lt_of_cell hrow)).trans hrow : W.cell? ⟨gx, 1, none⟩ = some (.slice A9 SN.bs.length c9)))
            have HLN := hid (fun W (hW : Below wb.heap.size wb W) => (HXb.out.keep hW).len)
            have HDL := hid (show (doneB SN).length ≤ 67108864 from by have := HLS.out; unfold doneB; split <;> simp <;> omega)
            obtain ⟨A5', c5', e5, -, sb5, -⟩ := HO5b.out.sb
            obtain ⟨rfl, rfl⟩ : A5 = A5' ∧ c5 = c5' := by injection e5 with h1 _ h3; exact ⟨h1, h3⟩
            obtain ⟨A6', c6', e6, -, sb6, -⟩ := ho6.sb
            obtain ⟨rfl, rfl⟩ : A6 = A6' ∧ c6 = c6' := by injection e6 with h1 _ h3; exact ⟨h1, h3⟩
            have HS5 := hid sb5; have HS6 := hid sb6
            have HSM := hid (fun W (hW : Below wb.heap.size wb W) => sameBytes_calls _ (doneB SN).length c5 _ (doneB SN).length c6 A5 A6 (doneB SN) (doneB SN) W (HS5.out.keep hW) (HS6.out.keep hW))
            simp only [beq_self_eq_true] at HSM
            have HOV := hid (fun W (hW : Below wb.heap.size wb W) => overBytes_calls _ (doneB SN).length c5 A5 (doneB SN) W (HO5b.out.keep hW) (by have := HDL.out; omega))
            have HFN := hid (fun W (hW : Below wb.heap.size wb W) W' (hg : W.grownBy W' (Value.slice A5 (doneB SN).length c5).ownBlock) => ((HXb.out.keep hW).high (Chg.of_grown (L := (Value.slice A5 (doneB SN).length c5).ownBlock.toList) hg (fun b e => by rw [e]; simp)) (fun b hm => ⟨hm, by
              have h1 := (World.ownsRow.lt HO5b.out b (by simpa using hm)).1
              have h2 := HTS.out
              omega⟩)).less (H' := []) (fun b hm => by cases hm))
            clear hrow e5 sb5 e6 sb6 ho6 hbb HO5 HO5b HXa HXb HS5 HS6 HLS HDL
            generalize (SN.bs.length) = ln at HRW HLN
            generalize (doneB SN).length = dn at HSM HOV HFN ⊢
            generalize (SN.e : Int) = ez2
            have HST := hid (show BwS wb (fun j => decide (23 ≤ j)) (fun _ => ()) wb.drew from (Below.refl _ _).drew)
            go_wp2_with fail
            refine wp_region_invG 182 () (wtlVal g gx ez2 ln dn c5 c6 c9 A5 A6 A9) (BwS wb) (by kernel_rfl) (by kernel_rfl) (by exact Nat.le_refl 182) ?_ ?_ ?_
            · exact HST.out
            · intro i o f gh a W hi hf hdep hsame hcl hval hS
              rcases i with _ | _ | _ | _ | _ | _ | _ | _ | _ | _ | _ | _ | _ | _ | _ | _ | _ | _ | _ | _ | _ | _ | _ | i
              all_goals simp only [List.getElem?_cons_succ, List.getElem?_cons_zero, List.getElem?_nil, Option.some.injEq, reduceCtorEq] at hi
              all_goals subst hi
              · have E11 : a.tmps[11]? = some (.bool true) := (same_of hsame 11 (by rfl)).trans rfl
                refine g_plain rfl ?_
                exact does_value (w' := W) (v := .bool true) (by go_simp) ⟨(), .inr rfl, hS⟩
              · have E156 := hval 0 _ 156 rfl rfl (dep_of hdep 0 (by rfl))
                unfold wtlVal at E156
                refine g_plain rfl ?_
                exact does_value (w' := W) (v := .bool false) (by go_simp) ⟨(), .inr rfl, hS⟩
              · have E157 := hval 1 _ 157 rfl rfl (dep_of hdep 1 (by rfl))
                unfold wtlVal at E157
                refine g_plain rfl ?_
                exact does_value (w' := W) (v := .bool false) (by go_simp) ⟨(), .inr rfl, hS⟩
              · have EG := hval 2 _ 158 rfl rfl (dep_of hdep 2 (by rfl))
                have E13 : a.tmps[13]? = some (.slice A5 dn c5) := (same_of hsame 13 (by rfl)).trans rfl
                unfold wtlVal at EG
                refine g_want rfl rfl rfl EG ?_
                exact does_value (w' := W) (v := .slice A5 dn c5) (by go_simp) ⟨(), .inr rfl, hS⟩
              · have EG := hval 2 _ 158 rfl rfl (dep_of hdep 2 (by rfl))
                have E15 : a.tmps[15]? = some (.slice A6 dn c6) := (same_of hsame 15 (by rfl)).trans rfl
                unfold wtlVal at EG
                refine g_want rfl rfl rfl EG ?_
                exact does_value (w' := W) (v := .slice A6 dn c6) (by go_simp) ⟨(), .inr rfl, hS⟩
              · have EG := hval 2 _ 158 rfl rfl (dep_of hdep 2 (by rfl))
                have E159 := hval 3 _ 159 rfl rfl (dep_of hdep 3 (by rfl))
                have E160 := hval 4 _ 160 rfl rfl (dep_of hdep 4 (by rfl))
                unfold wtlVal at EG E159 E160
                refine g_want rfl rfl rfl EG ?_
                refine does_call 31 #[.slice A5 dn c5, .slice A6 dn c6] (by go_simp) ((HSM.out W hS).mono ?_)
                rintro _ _ ⟨rfl, rfl⟩
                exact ⟨_, rfl, (), .inr rfl, hS⟩
              · have EG := hval 2 _ 158 rfl rfl (dep_of hdep 2 (by rfl))
                have E161 := hval 5 _ 161 rfl rfl (dep_of hdep 5 (by rfl))
                unfold wtlVal at EG E161
                refine g_want rfl rfl rfl EG ?_
                exact does_value (w' := W) (v := .bool false) (by go_simp) ⟨(), .inr rfl, hS⟩
              · have E158 := hval 2 _ 158 rfl rfl (dep_of hdep 2 (by rfl))
                have E162 := hval 6 _ 162 rfl rfl (dep_of hdep 6 (by rfl))
                unfold wtlVal at E158 E162
                refine g_plain rfl ?_
                exact does_value (w' := W) (v := .bool false) (by go_simp) ⟨(), .inr rfl, hS⟩
              · have E163 := hval 7 _ 163 rfl rfl (dep_of hdep 7 (by rfl))
                unfold wtlVal at E163
                refine g_plain rfl ?_
                exact does_value (w' := W) (v := .bool false) (by go_simp) ⟨(), .inr rfl, hS⟩
              · have EG := hval 8 _ 164 rfl rfl (dep_of hdep 8 (by rfl))
                have E14 : a.tmps[14]? = some (.int .i64 ez2) := (same_of hsame 14 (by rfl)).trans rfl
                unfold wtlVal at EG
                refine g_want rfl rfl rfl EG ?_
                exact does_value (w' := W) (v := .int .i64 ez2) (by go_simp) ⟨(), .inr rfl, hS⟩
              · have EG := hval 8 _ 164 rfl rfl (dep_of hdep 8 (by rfl))
                have E16 : a.tmps[16]? = some (.int .i64 ez2) := (same_of hsame 16 (by rfl)).trans rfl
                unfold wtlVal at EG
                refine g_want rfl rfl rfl EG ?_
                exact does_value (w' := W) (v := .int .i64 ez2) (by go_simp) ⟨(), .inr rfl, hS⟩
              · have EG := hval 8 _ 164 rfl rfl (dep_of hdep 8 (by rfl))
                have E165 := hval 9 _ 165 rfl rfl (dep_of hdep 9 (by rfl))
                have E166 := hval 10 _ 166 rfl rfl (dep_of hdep 10 (by rfl))
                unfold wtlVal at EG E165 E166
                refine g_want rfl rfl rfl EG ?_
                exact does_value (w' := W) (v := .bool false) (by go_simp) ⟨(), .inr rfl, hS⟩
              · have E164 := hval 8 _ 164 rfl rfl (dep_of hdep 8 (by rfl))
                have E167 := hval 11 _ 167 rfl rfl (dep_of hdep 11 (by rfl))
                unfold wtlVal at E164 E167
                refine g_plain rfl ?_
                exact does_value (w' := W) (v := .bool false) (by go_simp) ⟨(), .inr rfl, hS⟩
              · have E168 := hval 12 _ 168 rfl rfl (dep_of hdep 12 (by rfl))
                unfold wtlVal at E168
                refine g_plain rfl ?_
                exact does_value (w' := W) (v := .bool false) (by go_simp) ⟨(), .inr rfl, hS⟩
              · have EG := hval 13 _ 169 rfl rfl (dep_of hdep 13 (by rfl))
                have E5 : a.tmps[5]? = some (.pointer (some ⟨g, 0, none⟩)) := (same_of hsame 5 (by rfl)).trans rfl
                unfold wtlVal at EG
                refine g_want rfl rfl rfl EG ?_
                exact does_value (w' := W) (v := .pointer (some ⟨g, 0, none⟩)) (by go_simp) ⟨(), .inr rfl, hS⟩
              · have EG := hval 13 _ 169 rfl rfl (dep_of hdep 13 (by rfl))
                have E170 := hval 14 _ 170 rfl rfl (dep_of hdep 14 (by rfl))
                unfold wtlVal at EG E170
                refine g_want rfl rfl rfl EG ?_
                refine does_call 32 #[.pointer (some ⟨g, 0, none⟩)] (by go_simp) ((HLN.out W hS).mono ?_)
                rintro _ _ ⟨rfl, rfl⟩
                exact ⟨_, rfl, (), .inr rfl, hS⟩
              · have EG := hval 13 _ 169 rfl rfl (dep_of hdep 13 (by rfl))
                have E7 : a.tmps[7]? = some (.pointer (some ⟨gx, 0, none⟩)) := (same_of hsame 7 (by rfl)).trans rfl
                unfold wtlVal at EG
                refine g_want rfl rfl rfl EG ?_
                exact does_value (w' := W) (v := .pointer (some ⟨gx, 0, none⟩)) (by go_simp) ⟨(), .inr rfl, hS⟩
              · have EG := hval 13 _ 169 rfl rfl (dep_of hdep 13 (by rfl))
                have E172 := hval 16 _ 172 rfl rfl (dep_of hdep 16 (by rfl))
                unfold wtlVal at EG E172
                refine g_want rfl rfl rfl EG ?_
                exact does_value (w' := W) (v := .pointer (some ⟨gx, 0, none⟩)) (by go_simp) ⟨(), .inr rfl, hS⟩
              · have EG := hval 13 _ 169 rfl rfl (dep_of hdep 13 (by rfl))
                have E173 := hval 17 _ 173 rfl rfl (dep_of hdep 17 (by rfl))
                unfold wtlVal at EG E173
                refine g_want rfl rfl rfl EG ?_
                exact does_value (w' := W) (v := .pointer (some ⟨gx, 1, none⟩)) (by go_simp) ⟨(), .inr rfl, hS⟩
              · have EG := hval 13 _ 169 rfl rfl (dep_of hdep 13 (by rfl))
                have E174 := hval 18 _ 174 rfl rfl (dep_of hdep 18 (by rfl))
                unfold wtlVal at EG E174
                have c1 := HRW.out W hS
                refine g_want rfl rfl rfl EG ?_
                exact does_value (w' := W) (v := .slice A9 ln c9) (by go_simp) ⟨(), .inr rfl, hS⟩
              · have EG := hval 13 _ 169 rfl rfl (dep_of hdep 13 (by rfl))
                have E175 := hval 19 _ 175 rfl rfl (dep_of hdep 19 (by rfl))
                unfold wtlVal at EG E175
                refine g_want rfl rfl rfl EG ?_
                exact does_value (w' := W) (v := .int .i64 (ln : Int)) (by go_simp) ⟨(), .inr rfl, hS⟩
              · have EG := hval 13 _ 169 rfl rfl (dep_of hdep 13 (by rfl))
                have E171 := hval 15 _ 171 rfl rfl (dep_of hdep 15 (by rfl))
                have E176 := hval 20 _ 176 rfl rfl (dep_of hdep 20 (by rfl))
                unfold wtlVal at EG E171 E176
                refine g_want rfl rfl rfl EG ?_
                exact does_value (w' := W) (v := .bool false) (by go_simp) ⟨(), .inr rfl, hS⟩
              · have E169 := hval 13 _ 169 rfl rfl (dep_of hdep 13 (by rfl))
                have E177 := hval 21 _ 177 rfl rfl (dep_of hdep 21 (by rfl))
                unfold wtlVal at E169 E177
                refine g_plain rfl ?_
                exact does_value (w' := W) (v := .bool false) (by go_simp) ⟨(), .inr rfl, hS⟩
            · intro gh wc hS
              have HBC := hid (show Below wb.heap.size wb wc from hS)
              clear hS HST
              simp only [putAll, wtlVal, Nat.reduceAdd, Nat.zero_add, Act.put, List.setIfInBounds_toArray, List.set_cons_zero, List.set_cons_succ]
              go_wp2_with fail
              refine (HOV.out wc HBC.out).mono ?_
              rintro _ wd ⟨rfl, hgd⟩
              have HXd := hid (HFN.out wc HBC.out wd hgd)
              clear hgd HFN HBC HOV HSM HLN HRW
              go_wp2_with fail
              go_roundw
              case rel => exact ⟨k + 1, by go_num, by omega, hid ⟨SN, HXd.out⟩⟩
              case measure => simp [intOf]; omega
        by_cases h5 : kd = 5
        · subst h5
          have HK1 := hid (fun W S2 (h : WX w base bx g f l gx [T] s S2 W) => h.own (fun r hr _ => wVec_calls base g f r l s W t.zs.length t.c2 t.A2 t.zs (by have := HEA.out.2.2; omega) HTKw.out.2.2.2.2.2.2.1 HTKw.out.2.2.2.2.2.2.2.2.2.2 hr (HTKw.out.keep h.bel).2.2.1 (fun h0 b off e hre => by
            have h1 := HSV.out h0 b off e
            have h2 := hr.fp_lt b (mem_fpw.2 (.inr (.inr hre)))
            have h3 := h.hb
            omega)))
          have HK2 := hid (fun W S1 (h : WX w base bx g f l gx [T] S1 s W) => h.ref (fun rx hr => refWVec_calls bx gx rx l s W t.zs.length t.c2 t.A2 t.zs (HTKw.out.keep h.bel).2.2.1 (by have := HEA.out.2.2; omega) HTKw.out.2.2.2.2.2.2.2.2.2.2 (fun h0 b off e => by
            have h1 := HSV.out h0 b off e
            have h3 := h.bel.size
            omega) hr))
          generalize putW l s (numI t.zs.length :: t.zs.map numI) = SN at HK1 HK2
          generalize t.zs.length = vl at HK1 HK2 HC5
          generalize t.A2 = vA at HK1 HK2 HC5
          generalize t.c2 = vc at HK1 HK2 HC5
          generalize (SN.e : Int) = ez at HK1 HK2
          have HSTT := hid (show WrS w base bx g f l gx T cs s SN 3 7 (fun j => decide (10 ≤ j)) (fun _ => ()) w6.drew from ⟨HRT.out.keep (Below.refl _ _).drew, HTB.out.keep (Below.refl _ _).drew⟩)
          go_wp2_with fail
          clear e0 HRT HTB
          refine wp_region_invG 182 () (wr5Val g gx T ez vA vl vc) (WrS w base bx g f l gx T cs s SN 3 7) (by kernel_rfl) (by kernel_rfl) (by exact Nat.le_refl 182) ?_ ?_ ?_
          · exact HSTT.out
          · intro i o f gh a W hi hf hdep hsame hcl hval hS
            rcases i with _ | _ | _ | _ | _ | _ | _ | _ | _ | _ | i
            all_goals simp only [List.getElem?_cons_succ, List.getElem?_cons_zero, List.getElem?_nil, Option.some.injEq, reduceCtorEq] at hi
            all_goals subst hi
            · have E5 : a.tmps[5]? = some (.pointer (some ⟨g, 0, none⟩)) := (same_of hsame 5 (by rfl)).trans rfl
              refine g_plain rfl ?_
              exact does_value (w' := W) (v := .pointer (some ⟨g, 0, none⟩)) (by go_simp) ⟨(), .inr rfl, (hS.step 0 (by decide) (by decide))⟩
            · have E10 : a.tmps[10]? = some (.pointer (some ⟨T, 0, none⟩)) := (same_of hsame 10 (by rfl)).trans rfl
              refine g_plain rfl ?_
              exact does_value (w' := W) (v := .pointer (some ⟨T, 37, none⟩)) (by go_simp) ⟨(), .inr rfl, (hS.step 1 (by decide) (by decide))⟩
            · have E127 := hval 1 _ 127 rfl rfl (dep_of hdep 1 (by rfl))
              unfold wr5Val at E127
              have c1 : W.cell? ⟨T, 37, none⟩ = some (.slice vA vl vc) := hS.tb.cell 37 HC5.out
              refine g_plain rfl ?_
              exact does_value (w' := W) (v := .slice vA vl vc) (by go_simp) ⟨(), .inr rfl, (hS.step 2 (by decide) (by decide))⟩
            · have E126 := hval 0 _ 126 rfl rfl (dep_of hdep 0 (by rfl))
              have E128 := hval 2 _ 128 rfl rfl (dep_of hdep 2 (by rfl))
              unfold wr5Val at E126 E128
              refine g_plain rfl ?_
              refine does_call 25 #[.pointer (some ⟨g, 0, none⟩), .slice vA vl vc] (by go_simp) ((HK1.out W _ (hS.pre1 hf)).mono ?_)
              rintro _ W' ⟨rfl, hp, hh⟩
              exact ⟨_, rfl, (), .inr rfl, hS.s1 hp hh (by decide)⟩
            · have E7 : a.tmps[7]? = some (.pointer (some ⟨gx, 0, none⟩)) := (same_of hsame 7 (by rfl)).trans rfl
              refine g_plain rfl ?_
              exact does_value (w' := W) (v := .pointer (some ⟨gx, 0, none⟩)) (by go_simp) ⟨(), .inr rfl, (hS.step 4 (by decide) (by decide))⟩
            · have E10 : a.tmps[10]? = some (.pointer (some ⟨T, 0, none⟩)) := (same_of hsame 10 (by rfl)).trans rfl
              refine g_plain rfl ?_
              exact does_value (w' := W) (v := .pointer (some ⟨T, 37, none⟩)) (by go_simp) ⟨(), .inr rfl, (hS.step 5 (by decide) (by decide))⟩
            · have E131 := hval 5 _ 131 rfl rfl (dep_of hdep 5 (by rfl))
              unfold wr5Val at E131
              have c1 : W.cell? ⟨T, 37, none⟩ = some (.slice vA vl vc) := hS.tb.cell 37 HC5.out
              refine g_plain rfl ?_
              exact does_value (w' := W) (v := .slice vA vl vc) (by go_simp) ⟨(), .inr rfl, (hS.step 6 (by decide) (by decide))⟩
            · have E130 := hval 4 _ 130 rfl rfl (dep_of hdep 4 (by rfl))
              have E132 := hval 6 _ 132 rfl rfl (dep_of hdep 6 (by rfl))
              unfold wr5Val at E130 E132
              refine g_plain rfl ?_
              refine does_call 26 #[.pointer (some ⟨gx, 0, none⟩), .slice vA vl vc] (by go_simp) ((HK2.out W _ (hS.pre2 hf)).mono ?_)
              rintro _ W' ⟨rfl, hp, hh⟩
              exact ⟨_, rfl, (), .inr rfl, hS.s2 hp hh (by decide)⟩
            · have E129 := hval 3 _ 129 rfl rfl (dep_of hdep 3 (by rfl))
              have E133 := hval 7 _ 133 rfl rfl (dep_of hdep 7 (by rfl))
              unfold wr5Val at E129 E133
              refine g_plain rfl ?_
              exact does_value (w' := W) (v := .bool true) (by go_simp) ⟨(), .inr rfl, (hS.step 8 (by decide) (by decide))⟩
            · have E134 := hval 8 _ 134 rfl rfl (dep_of hdep 8 (by rfl))
              unfold wr5Val at E134
              refine g_plain rfl ?_
              exact does_value (w' := W) (v := .bool true) (by go_simp) ⟨(), .inr rfl, (hS.step 9 (by decide) (by decide))⟩
          · intro gh w8 hS
            have HX := hid (hS.fin rfl rfl)
            clear hS HK1 HK2 HSTT
            simp only [putAll, wr5Val, Nat.reduceAdd, Nat.zero_add, Act.put, List.setIfInBounds_toArray, List.set_cons_zero, List.set_cons_succ]
            have HLS := hid HX.out.lens
            have HTS := hid HX.out.bel.size
            go_wp2_with fail
            refine (HX.out.doneW).mono ?_
            rintro _ wa ⟨A5, c5, rfl, ho5, hba⟩
            have HXa := hid (HX.out.more (H' := (Value.slice A5 (doneB SN).length c5).ownBlock.toList) hba (fun b hm => .inr (World.ownsRow.lt ho5 b (by simpa using hm))))
            have HO5 := hid ho5
            clear ho5 hba HX
            go_wp2_with fail
            refine (HXa.out.doneR).mono ?_
            rintro _ wb ⟨A6, c6, rfl, ho6, hbb⟩
            have HXb := hid (HXa.out.keep hbb)
            have HO5b := hid (HO5.out.keep hbb)
            obtain ⟨A9, c9, hrow⟩ := HXb.out.row
            have HRW := hid (fun W (hW : Below wb.heap.size wb W) => ((hW.cell (p := ⟨gx, 1, none⟩) (lt_of_cell hrow)).trans hrow : W.cell? ⟨gx, 1, none⟩ = some (.slice A9 SN.bs.length c9)))
            have HLN := hid (fun W (hW : Below wb.heap.size wb W) => (HXb.out.keep hW).len)
            have HDL := hid (show (doneB SN).length ≤ 67108864 from by have := HLS.out; unfold doneB; split <;> simp <;> omega)
            obtain ⟨A5', c5', e5, -, sb5, -⟩ := HO5b.out.sb
            obtain ⟨rfl, rfl⟩ : A5 = A5' ∧ c5 = c5' := by injection e5 with h1 _ h3; exact ⟨h1, h3⟩
            obtain ⟨A6', c6', e6, -, sb6, -⟩ := ho6.sb
            obtain ⟨rfl, rfl⟩ : A6 = A6' ∧ c6 = c6' := by injection e6 with h1 _ h3; exact ⟨h1, h3⟩
            have HS5 := hid sb5; have HS6 := hid sb6
            have HSM := hid (fun W (hW : Below wb.heap.size wb W) => sameBytes_calls _ (doneB SN).length c5 _ (doneB SN).length c6 A5 A6 (doneB SN) (doneB SN) W (HS5.out.keep hW) (HS6.out.keep hW))
            simp only [beq_self_eq_true] at HSM
            have HOV := hid (fun W (hW : Below wb.heap.size wb W) => overBytes_calls _ (doneB SN).length c5 A5 (doneB SN) W (HO5b.out.keep hW) (by have := HDL.out; omega))
            have HFN := hid (fun W (hW : Below wb.heap.size wb W) W' (hg : W.grownBy W' (Value.slice A5 (doneB SN).length c5).ownBlock) => ((HXb.out.keep hW).high (Chg.of_grown (L := (Value.slice A5 (doneB SN).length c5).ownBlock.toList) hg (fun b e => by rw [e]; simp)) (fun b hm => ⟨hm, by
              have h1 := (World.ownsRow.lt HO5b.out b (by simpa using hm)).1
              have h2 := HTS.out
              omega⟩)).less (H' := []) (fun b hm => by cases hm))
            clear hrow e5 sb5 e6 sb6 ho6 hbb HO5 HO5b HXa HXb HS5 HS6 HLS HDL
            generalize (SN.bs.length) = ln at HRW HLN
            generalize (doneB SN).length = dn at HSM HOV HFN ⊢
            generalize (SN.e : Int) = ez2
            have HST := hid (show BwS wb (fun j => decide (23 ≤ j)) (fun _ => ()) wb.drew from (Below.refl _ _).drew)
            go_wp2_with fail
            refine wp_region_invG 182 () (wtlVal g gx ez2 ln dn c5 c6 c9 A5 A6 A9) (BwS wb) (by kernel_rfl) (by kernel_rfl) (by exact Nat.le_refl 182) ?_ ?_ ?_
            · exact HST.out
            · intro i o f gh a W hi hf hdep hsame hcl hval hS
              rcases i with _ | _ | _ | _ | _ | _ | _ | _ | _ | _ | _ | _ | _ | _ | _ | _ | _ | _ | _ | _ | _ | _ | _ | i
              all_goals simp only [List.getElem?_cons_succ, List.getElem?_cons_zero, List.getElem?_nil, Option.some.injEq, reduceCtorEq] at hi
              all_goals subst hi
              · have E11 : a.tmps[11]? = some (.bool true) := (same_of hsame 11 (by rfl)).trans rfl
                refine g_plain rfl ?_
                exact does_value (w' := W) (v := .bool true) (by go_simp) ⟨(), .inr rfl, hS⟩
              · have E156 := hval 0 _ 156 rfl rfl (dep_of hdep 0 (by rfl))
                unfold wtlVal at E156
                refine g_plain rfl ?_
                exact does_value (w' := W) (v := .bool false) (by go_simp) ⟨(), .inr rfl, hS⟩
              · have E157 := hval 1 _ 157 rfl rfl (dep_of hdep 1 (by rfl))
                unfold wtlVal at E157
                refine g_plain rfl ?_
                exact does_value (w' := W) (v := .bool false) (by go_simp) ⟨(), .inr rfl, hS⟩
              · have EG := hval 2 _ 158 rfl rfl (dep_of hdep 2 (by rfl))
                have E13 : a.tmps[13]? = some (.slice A5 dn c5) := (same_of hsame 13 (by rfl)).trans rfl
                unfold wtlVal at EG
                refine g_want rfl rfl rfl EG ?_
                exact does_value (w' := W) (v := .slice A5 dn c5) (by go_simp) ⟨(), .inr rfl, hS⟩
              · have EG := hval 2 _ 158 rfl rfl (dep_of hdep 2 (by rfl))
                have E15 : a.tmps[15]? = some (.slice A6 dn c6) := (same_of hsame 15 (by rfl)).trans rfl
                unfold wtlVal at EG
                refine g_want rfl rfl rfl EG ?_
                exact does_value (w' := W) (v := .slice A6 dn c6) (by go_simp) ⟨(), .inr rfl, hS⟩
              · have EG := hval 2 _ 158 rfl rfl (dep_of hdep 2 (by rfl))
                have E159 := hval 3 _ 159 rfl rfl (dep_of hdep 3 (by rfl))
                have E160 := hval 4 _ 160 rfl rfl (dep_of hdep 4 (by rfl))
                unfold wtlVal at EG E159 E160
                refine g_want rfl rfl rfl EG ?_
                refine does_call 31 #[.slice A5 dn c5, .slice A6 dn c6] (by go_simp) ((HSM.out W hS).mono ?_)
                rintro _ _ ⟨rfl, rfl⟩
                exact ⟨_, rfl, (), .inr rfl, hS⟩
              · have EG := hval 2 _ 158 rfl rfl (dep_of hdep 2 (by rfl))
                have E161 := hval 5 _ 161 rfl rfl (dep_of hdep 5 (by rfl))
                unfold wtlVal at EG E161
                refine g_want rfl rfl rfl EG ?_
                exact does_value (w' := W) (v := .bool false) (by go_simp) ⟨(), .inr rfl, hS⟩
              · have E158 := hval 2 _ 158 rfl rfl (dep_of hdep 2 (by rfl))
                have E162 := hval 6 _ 162 rfl rfl (dep_of hdep 6 (by rfl))
                unfold wtlVal at E158 E162
                refine g_plain rfl ?_
                exact does_value (w' := W) (v := .bool false) (by go_simp) ⟨(), .inr rfl, hS⟩
              · have E163 := hval 7 _ 163 rfl rfl (dep_of hdep 7 (by rfl))
                unfold wtlVal at E163
                refine g_plain rfl ?_
                exact does_value (w' := W) (v := .bool false) (by go_simp) ⟨(), .inr rfl, hS⟩
              · have EG := hval 8 _ 164 rfl rfl (dep_of hdep 8 (by rfl))
                have E14 : a.tmps[14]? = some (.int .i64 ez2) := (same_of hsame 14 (by rfl)).trans rfl
                unfold wtlVal at EG
                refine g_want rfl rfl rfl EG ?_
                exact does_value (w' := W) (v := .int .i64 ez2) (by go_simp) ⟨(), .inr rfl, hS⟩
              · have EG := hval 8 _ 164 rfl rfl (dep_of hdep 8 (by rfl))
                have E16 : a.tmps[16]? = some (.int .i64 ez2) := (same_of hsame 16 (by rfl)).trans rfl
                unfold wtlVal at EG
                refine g_want rfl rfl rfl EG ?_
                exact does_value (w' := W) (v := .int .i64 ez2) (by go_simp) ⟨(), .inr rfl, hS⟩
              · have EG := hval 8 _ 164 rfl rfl (dep_of hdep 8 (by rfl))
                have E165 := hval 9 _ 165 rfl rfl (dep_of hdep 9 (by rfl))
                have E166 := hval 10 _ 166 rfl rfl (dep_of hdep 10 (by rfl))
                unfold wtlVal at EG E165 E166
                refine g_want rfl rfl rfl EG ?_
                exact does_value (w' := W) (v := .bool false) (by go_simp) ⟨(), .inr rfl, hS⟩
              · have E164 := hval 8 _ 164 rfl rfl (dep_of hdep 8 (by rfl))
                have E167 := hval 11 _ 167 rfl rfl (dep_of hdep 11 (by rfl))
                unfold wtlVal at E164 E167
                refine g_plain rfl ?_
                exact does_value (w' := W) (v := .bool false) (by go_simp) ⟨(), .inr rfl, hS⟩
              · have E168 := hval 12 _ 168 rfl rfl (dep_of hdep 12 (by rfl))
                unfold wtlVal at E168
                refine g_plain rfl ?_
                exact does_value (w' := W) (v := .bool false) (by go_simp) ⟨(), .inr rfl, hS⟩
              · have EG := hval 13 _ 169 rfl rfl (dep_of hdep 13 (by rfl))
                have E5 : a.tmps[5]? = some (.pointer (some ⟨g, 0, none⟩)) := (same_of hsame 5 (by rfl)).trans rfl
                unfold wtlVal at EG
                refine g_want rfl rfl rfl EG ?_
                exact does_value (w' := W) (v := .pointer (some ⟨g, 0, none⟩)) (by go_simp) ⟨(), .inr rfl, hS⟩
              · have EG := hval 13 _ 169 rfl rfl (dep_of hdep 13 (by rfl))
                have E170 := hval 14 _ 170 rfl rfl (dep_of hdep 14 (by rfl))
                unfold wtlVal at EG E170
                refine g_want rfl rfl rfl EG ?_
                refine does_call 32 #[.pointer (some ⟨g, 0, none⟩)] (by go_simp) ((HLN.out W hS).mono ?_)
                rintro _ _ ⟨rfl, rfl⟩
                exact ⟨_, rfl, (), .inr rfl, hS⟩
              · have EG := hval 13 _ 169 rfl rfl (dep_of hdep 13 (by rfl))
                have E7 : a.tmps[7]? = some (.pointer (some ⟨gx, 0, none⟩)) := (same_of hsame 7 (by rfl)).trans rfl
                unfold wtlVal at EG
                refine g_want rfl rfl rfl EG ?_
                exact does_value (w' := W) (v := .pointer (some ⟨gx, 0, none⟩)) (by go_simp) ⟨(), .inr rfl, hS⟩
              · have EG := hval 13 _ 169 rfl rfl (dep_of hdep 13 (by rfl))
                have E172 := hval 16 _ 172 rfl rfl (dep_of hdep 16 (by rfl))
                unfold wtlVal at EG E172
                refine g_want rfl rfl rfl EG ?_
                exact does_value (w' := W) (v := .pointer (some ⟨gx, 0, none⟩)) (by go_simp) ⟨(), .inr rfl, hS⟩
              · have EG := hval 13 _ 169 rfl rfl (dep_of hdep 13 (by rfl))
                have E173 := hval 17 _ 173 rfl rfl (dep_of hdep 17 (by rfl))
                unfold wtlVal at EG E173
                refine g_want rfl rfl rfl EG ?_
                exact does_value (w' := W) (v := .pointer (some ⟨gx, 1, none⟩)) (by go_simp) ⟨(), .inr rfl, hS⟩
              · have EG := hval 13 _ 169 rfl rfl (dep_of hdep 13 (by rfl))
                have E174 := hval 18 _ 174 rfl rfl (dep_of hdep 18 (by rfl))
                unfold wtlVal at EG E174
                have c1 := HRW.out W hS
                refine g_want rfl rfl rfl EG ?_
                exact does_value (w' := W) (v := .slice A9 ln c9) (by go_simp) ⟨(), .inr rfl, hS⟩
              · have EG := hval 13 _ 169 rfl rfl (dep_of hdep 13 (by rfl))
                have E175 := hval 19 _ 175 rfl rfl (dep_of hdep 19 (by rfl))
                unfold wtlVal at EG E175
                refine g_want rfl rfl rfl EG ?_
                exact does_value (w' := W) (v := .int .i64 (ln : Int)) (by go_simp) ⟨(), .inr rfl, hS⟩
              · have EG := hval 13 _ 169 rfl rfl (dep_of hdep 13 (by rfl))
                have E171 := hval 15 _ 171 rfl rfl (dep_of hdep 15 (by rfl))
                have E176 := hval 20 _ 176 rfl rfl (dep_of hdep 20 (by rfl))
                unfold wtlVal at EG E171 E176
                refine g_want rfl rfl rfl EG ?_
                exact does_value (w' := W) (v := .bool false) (by go_simp) ⟨(), .inr rfl, hS⟩
              · have E169 := hval 13 _ 169 rfl rfl (dep_of hdep 13 (by rfl))
                have E177 := hval 21 _ 177 rfl rfl (dep_of hdep 21 (by rfl))
                unfold wtlVal at E169 E177
                refine g_plain rfl ?_
                exact does_value (w' := W) (v := .bool false) (by go_simp) ⟨(), .inr rfl, hS⟩
            · intro gh wc hS
              have HBC := hid (show Below wb.heap.size wb wc from hS)
              clear hS HST
              simp only [putAll, wtlVal, Nat.reduceAdd, Nat.zero_add, Act.put, List.setIfInBounds_toArray, List.set_cons_zero, List.set_cons_succ]
              go_wp2_with fail
              refine (HOV.out wc HBC.out).mono ?_
              rintro _ wd ⟨rfl, hgd⟩
              have HXd := hid (HFN.out wc HBC.out wd hgd)
              clear hgd HFN HBC HOV HSM HLN HRW
              go_wp2_with fail
              go_roundw
              case rel => exact ⟨k + 1, by go_num, by omega, hid ⟨SN, HXd.out⟩⟩
              case measure => simp [intOf]; omega
        by_cases h6 : kd = 6
        · subst h6
          have HK1 := hid (fun W S2 (h : WX w base bx g f l gx [T] s S2 W) => h.own (fun r hr _ => wBool_calls base g f r l s W t.b hr))
          have HK2 := hid (fun W S1 (h : WX w base bx g f l gx [T] S1 s W) => h.ref (fun rx hr => refWBool_calls bx gx rx l s W t.b hr))
          generalize putW l s [numI (if t.b then 1 else 0)] = SN at HK1 HK2
          generalize t.b = tb at HK1 HK2 HC6
          generalize (SN.e : Int) = ez at HK1 HK2
          have HSTT := hid (show WrS w base bx g f l gx T cs s SN 3 7 (fun j => decide (10 ≤ j)) (fun _ => ()) w6.drew from ⟨HRT.out.keep (Below.refl _ _).drew, HTB.out.keep (Below.refl _ _).drew⟩)
          go_wp2_with fail
          clear e0 HRT HTB
          refine wp_region_invG 182 () (wr6Val g gx T ez tb) (WrS w base bx g f l gx T cs s SN 3 7) (by kernel_rfl) (by kernel_rfl) (by exact Nat.le_refl 182) ?_ ?_ ?_
          · exact HSTT.out
          · intro i o f gh a W hi hf hdep hsame hcl hval hS
            rcases i with _ | _ | _ | _ | _ | _ | _ | _ | _ | _ | i
            all_goals simp only [List.getElem?_cons_succ, List.getElem?_cons_zero, List.getElem?_nil, Option.some.injEq, reduceCtorEq] at hi
            all_goals subst hi
            · have E5 : a.tmps[5]? = some (.pointer (some ⟨g, 0, none⟩)) := (same_of hsame 5 (by rfl)).trans rfl
              refine g_plain rfl ?_
              exact does_value (w' := W) (v := .pointer (some ⟨g, 0, none⟩)) (by go_simp) ⟨(), .inr rfl, (hS.step 0 (by decide) (by decide))⟩
            · have E10 : a.tmps[10]? = some (.pointer (some ⟨T, 0, none⟩)) := (same_of hsame 10 (by rfl)).trans rfl
              refine g_plain rfl ?_
              exact does_value (w' := W) (v := .pointer (some ⟨T, 38, none⟩)) (by go_simp) ⟨(), .inr rfl, (hS.step 1 (by decide) (by decide))⟩
            · have E138 := hval 1 _ 138 rfl rfl (dep_of hdep 1 (by rfl))
              unfold wr6Val at E138
              have c1 : W.cell? ⟨T, 38, none⟩ = some (.bool tb) := hS.tb.cell 38 HC6.out
              refine g_plain rfl ?_
              exact does_value (w' := W) (v := .bool tb) (by go_simp) ⟨(), .inr rfl, (hS.step 2 (by decide) (by decide))⟩
            · have E137 := hval 0 _ 137 rfl rfl (dep_of hdep 0 (by rfl))
              have E139 := hval 2 _ 139 rfl rfl (dep_of hdep 2 (by rfl))
              unfold wr6Val at E137 E139
              refine g_plain rfl ?_
              refine does_call 27 #[.pointer (some ⟨g, 0, none⟩), .bool tb] (by go_simp) ((HK1.out W _ (hS.pre1 hf)).mono ?_)
              rintro _ W' ⟨rfl, hp, hh⟩
              exact ⟨_, rfl, (), .inr rfl, hS.s1 hp hh (by decide)⟩
            · have E7 : a.tmps[7]? = some (.pointer (some ⟨gx, 0, none⟩)) := (same_of hsame 7 (by rfl)).trans rfl
              refine g_plain rfl ?_
              exact does_value (w' := W) (v := .pointer (some ⟨gx, 0, none⟩)) (by go_simp) ⟨(), .inr rfl, (hS.step 4 (by decide) (by decide))⟩
            · have E10 : a.tmps[10]? = some (.pointer (some ⟨T, 0, none⟩)) := (same_of hsame 10 (by rfl)).trans rfl
              refine g_plain rfl ?_
              exact does_value (w' := W) (v := .pointer (some ⟨T, 38, none⟩)) (by go_simp) ⟨(), .inr rfl, (hS.step 5 (by decide) (by decide))⟩
            · have E142 := hval 5 _ 142 rfl rfl (dep_of hdep 5 (by rfl))
              unfold wr6Val at E142
              have c1 : W.cell? ⟨T, 38, none⟩ = some (.bool tb) := hS.tb.cell 38 HC6.out
              refine g_plain rfl ?_
              exact does_value (w' := W) (v := .bool tb) (by go_simp) ⟨(), .inr rfl, (hS.step 6 (by decide) (by decide))⟩
            · have E141 := hval 4 _ 141 rfl rfl (dep_of hdep 4 (by rfl))
              have E143 := hval 6 _ 143 rfl rfl (dep_of hdep 6 (by rfl))
              unfold wr6Val at E141 E143
              refine g_plain rfl ?_
              refine does_call 28 #[.pointer (some ⟨gx, 0, none⟩), .bool tb] (by go_simp) ((HK2.out W _ (hS.pre2 hf)).mono ?_)
              rintro _ W' ⟨rfl, hp, hh⟩
              exact ⟨_, rfl, (), .inr rfl, hS.s2 hp hh (by decide)⟩
            · have E140 := hval 3 _ 140 rfl rfl (dep_of hdep 3 (by rfl))
              have E144 := hval 7 _ 144 rfl rfl (dep_of hdep 7 (by rfl))
              unfold wr6Val at E140 E144
              refine g_plain rfl ?_
              exact does_value (w' := W) (v := .bool true) (by go_simp) ⟨(), .inr rfl, (hS.step 8 (by decide) (by decide))⟩
            · have E145 := hval 8 _ 145 rfl rfl (dep_of hdep 8 (by rfl))
              unfold wr6Val at E145
              refine g_plain rfl ?_
              exact does_value (w' := W) (v := .bool true) (by go_simp) ⟨(), .inr rfl, (hS.step 9 (by decide) (by decide))⟩
          · intro gh w8 hS
            have HX := hid (hS.fin rfl rfl)
            clear hS HK1 HK2 HSTT
            simp only [putAll, wr6Val, Nat.reduceAdd, Nat.zero_add, Act.put, List.setIfInBounds_toArray, List.set_cons_zero, List.set_cons_succ]
            have HLS := hid HX.out.lens
            have HTS := hid HX.out.bel.size
            go_wp2_with fail
            refine (HX.out.doneW).mono ?_
            rintro _ wa ⟨A5, c5, rfl, ho5, hba⟩
            have HXa := hid (HX.out.more (H' := (Value.slice A5 (doneB SN).length c5).ownBlock.toList) hba (fun b hm => .inr (World.ownsRow.lt ho5 b (by simpa using hm))))
            have HO5 := hid ho5
            clear ho5 hba HX
            go_wp2_with fail
            refine (HXa.out.doneR).mono ?_
            rintro _ wb ⟨A6, c6, rfl, ho6, hbb⟩
            have HXb := hid (HXa.out.keep hbb)
            have HO5b := hid (HO5.out.keep hbb)
            obtain ⟨A9, c9, hrow⟩ := HXb.out.row
            have HRW := hid (fun W (hW : Below wb.heap.size wb W) => ((hW.cell (p := ⟨gx, 1, none⟩) (lt_of_cell hrow)).trans hrow : W.cell? ⟨gx, 1, none⟩ = some (.slice A9 SN.bs.length c9)))
            have HLN := hid (fun W (hW : Below wb.heap.size wb W) => (HXb.out.keep hW).len)
            have HDL := hid (show (doneB SN).length ≤ 67108864 from by have := HLS.out; unfold doneB; split <;> simp <;> omega)
            obtain ⟨A5', c5', e5, -, sb5, -⟩ := HO5b.out.sb
            obtain ⟨rfl, rfl⟩ : A5 = A5' ∧ c5 = c5' := by injection e5 with h1 _ h3; exact ⟨h1, h3⟩
            obtain ⟨A6', c6', e6, -, sb6, -⟩ := ho6.sb
            obtain ⟨rfl, rfl⟩ : A6 = A6' ∧ c6 = c6' := by injection e6 with h1 _ h3; exact ⟨h1, h3⟩
            have HS5 := hid sb5; have HS6 := hid sb6
            have HSM := hid (fun W (hW : Below wb.heap.size wb W) => sameBytes_calls _ (doneB SN).length c5 _ (doneB SN).length c6 A5 A6 (doneB SN) (doneB SN) W (HS5.out.keep hW) (HS6.out.keep hW))
            simp only [beq_self_eq_true] at HSM
            have HOV := hid (fun W (hW : Below wb.heap.size wb W) => overBytes_calls _ (doneB SN).length c5 A5 (doneB SN) W (HO5b.out.keep hW) (by have := HDL.out; omega))
            have HFN := hid (fun W (hW : Below wb.heap.size wb W) W' (hg : W.grownBy W' (Value.slice A5 (doneB SN).length c5).ownBlock) => ((HXb.out.keep hW).high (Chg.of_grown (L := (Value.slice A5 (doneB SN).length c5).ownBlock.toList) hg (fun b e => by rw [e]; simp)) (fun b hm => ⟨hm, by
              have h1 := (World.ownsRow.lt HO5b.out b (by simpa using hm)).1
              have h2 := HTS.out
              omega⟩)).less (H' := []) (fun b hm => by cases hm))
            clear hrow e5 sb5 e6 sb6 ho6 hbb HO5 HO5b HXa HXb HS5 HS6 HLS HDL
            generalize (SN.bs.length) = ln at HRW HLN
            generalize (doneB SN).length = dn at HSM HOV HFN ⊢
            generalize (SN.e : Int) = ez2
            have HST := hid (show BwS wb (fun j => decide (23 ≤ j)) (fun _ => ()) wb.drew from (Below.refl _ _).drew)
            go_wp2_with fail
            refine wp_region_invG 182 () (wtlVal g gx ez2 ln dn c5 c6 c9 A5 A6 A9) (BwS wb) (by kernel_rfl) (by kernel_rfl) (by exact Nat.le_refl 182) ?_ ?_ ?_
            · exact HST.out
            · intro i o f gh a W hi hf hdep hsame hcl hval hS
              rcases i with _ | _ | _ | _ | _ | _ | _ | _ | _ | _ | _ | _ | _ | _ | _ | _ | _ | _ | _ | _ | _ | _ | _ | i
              all_goals simp only [List.getElem?_cons_succ, List.getElem?_cons_zero, List.getElem?_nil, Option.some.injEq, reduceCtorEq] at hi
              all_goals subst hi
              · have E11 : a.tmps[11]? = some (.bool true) := (same_of hsame 11 (by rfl)).trans rfl
                refine g_plain rfl ?_
                exact does_value (w' := W) (v := .bool true) (by go_simp) ⟨(), .inr rfl, hS⟩
              · have E156 := hval 0 _ 156 rfl rfl (dep_of hdep 0 (by rfl))
                unfold wtlVal at E156
                refine g_plain rfl ?_
                exact does_value (w' := W) (v := .bool false) (by go_simp) ⟨(), .inr rfl, hS⟩
              · have E157 := hval 1 _ 157 rfl rfl (dep_of hdep 1 (by rfl))
                unfold wtlVal at E157
                refine g_plain rfl ?_
                exact does_value (w' := W) (v := .bool false) (by go_simp) ⟨(), .inr rfl, hS⟩
              · have EG := hval 2 _ 158 rfl rfl (dep_of hdep 2 (by rfl))
                have E13 : a.tmps[13]? = some (.slice A5 dn c5) := (same_of hsame 13 (by rfl)).trans rfl
                unfold wtlVal at EG
                refine g_want rfl rfl rfl EG ?_
                exact does_value (w' := W) (v := .slice A5 dn c5) (by go_simp) ⟨(), .inr rfl, hS⟩
              · have EG := hval 2 _ 158 rfl rfl (dep_of hdep 2 (by rfl))
                have E15 : a.tmps[15]? = some (.slice A6 dn c6) := (same_of hsame 15 (by rfl)).trans rfl
                unfold wtlVal at EG
                refine g_want rfl rfl rfl EG ?_
                exact does_value (w' := W) (v := .slice A6 dn c6) (by go_simp) ⟨(), .inr rfl, hS⟩
              · have EG := hval 2 _ 158 rfl rfl (dep_of hdep 2 (by rfl))
                have E159 := hval 3 _ 159 rfl rfl (dep_of hdep 3 (by rfl))
                have E160 := hval 4 _ 160 rfl rfl (dep_of hdep 4 (by rfl))
                unfold wtlVal at EG E159 E160
                refine g_want rfl rfl rfl EG ?_
                refine does_call 31 #[.slice A5 dn c5, .slice A6 dn c6] (by go_simp) ((HSM.out W hS).mono ?_)
                rintro _ _ ⟨rfl, rfl⟩
                exact ⟨_, rfl, (), .inr rfl, hS⟩
              · have EG := hval 2 _ 158 rfl rfl (dep_of hdep 2 (by rfl))
                have E161 := hval 5 _ 161 rfl rfl (dep_of hdep 5 (by rfl))
                unfold wtlVal at EG E161
                refine g_want rfl rfl rfl EG ?_
                exact does_value (w' := W) (v := .bool false) (by go_simp) ⟨(), .inr rfl, hS⟩
              · have E158 := hval 2 _ 158 rfl rfl (dep_of hdep 2 (by rfl))
                have E162 := hval 6 _ 162 rfl rfl (dep_of hdep 6 (by rfl))
                unfold wtlVal at E158 E162
                refine g_plain rfl ?_
                exact does_value (w' := W) (v := .bool false) (by go_simp) ⟨(), .inr rfl, hS⟩
              · have E163 := hval 7 _ 163 rfl rfl (dep_of hdep 7 (by rfl))
                unfold wtlVal at E163
                refine g_plain rfl ?_
                exact does_value (w' := W) (v := .bool false) (by go_simp) ⟨(), .inr rfl, hS⟩
              · have EG := hval 8 _ 164 rfl rfl (dep_of hdep 8 (by rfl))
                have E14 : a.tmps[14]? = some (.int .i64 ez2) := (same_of hsame 14 (by rfl)).trans rfl
                unfold wtlVal at EG
                refine g_want rfl rfl rfl EG ?_
                exact does_value (w' := W) (v := .int .i64 ez2) (by go_simp) ⟨(), .inr rfl, hS⟩
              · have EG := hval 8 _ 164 rfl rfl (dep_of hdep 8 (by rfl))
                have E16 : a.tmps[16]? = some (.int .i64 ez2) := (same_of hsame 16 (by rfl)).trans rfl
                unfold wtlVal at EG
                refine g_want rfl rfl rfl EG ?_
                exact does_value (w' := W) (v := .int .i64 ez2) (by go_simp) ⟨(), .inr rfl, hS⟩
              · have EG := hval 8 _ 164 rfl rfl (dep_of hdep 8 (by rfl))
                have E165 := hval 9 _ 165 rfl rfl (dep_of hdep 9 (by rfl))
                have E166 := hval 10 _ 166 rfl rfl (dep_of hdep 10 (by rfl))
                unfold wtlVal at EG E165 E166
                refine g_want rfl rfl rfl EG ?_
                exact does_value (w' := W) (v := .bool false) (by go_simp) ⟨(), .inr rfl, hS⟩
              · have E164 := hval 8 _ 164 rfl rfl (dep_of hdep 8 (by rfl))
                have E167 := hval 11 _ 167 rfl rfl (dep_of hdep 11 (by rfl))
                unfold wtlVal at E164 E167
                refine g_plain rfl ?_
                exact does_value (w' := W) (v := .bool false) (by go_simp) ⟨(), .inr rfl, hS⟩
              · have E168 := hval 12 _ 168 rfl rfl (dep_of hdep 12 (by rfl))
                unfold wtlVal at E168
                refine g_plain rfl ?_
                exact does_value (w' := W) (v := .bool false) (by go_simp) ⟨(), .inr rfl, hS⟩
              · have EG := hval 13 _ 169 rfl rfl (dep_of hdep 13 (by rfl))
                have E5 : a.tmps[5]? = some (.pointer (some ⟨g, 0, none⟩)) := (same_of hsame 5 (by rfl)).trans rfl
                unfold wtlVal at EG
                refine g_want rfl rfl rfl EG ?_
                exact does_value (w' := W) (v := .pointer (some ⟨g, 0, none⟩)) (by go_simp) ⟨(), .inr rfl, hS⟩
              · have EG := hval 13 _ 169 rfl rfl (dep_of hdep 13 (by rfl))
                have E170 := hval 14 _ 170 rfl rfl (dep_of hdep 14 (by rfl))
                unfold wtlVal at EG E170
                refine g_want rfl rfl rfl EG ?_
                refine does_call 32 #[.pointer (some ⟨g, 0, none⟩)] (by go_simp) ((HLN.out W hS).mono ?_)
                rintro _ _ ⟨rfl, rfl⟩
                exact ⟨_, rfl, (), .inr rfl, hS⟩
              · have EG := hval 13 _ 169 rfl rfl (dep_of hdep 13 (by rfl))
                have E7 : a.tmps[7]? = some (.pointer (some ⟨gx, 0, none⟩)) := (same_of hsame 7 (by rfl)).trans rfl
                unfold wtlVal at EG
                refine g_want rfl rfl rfl EG ?_
                exact does_value (w' := W) (v := .pointer (some ⟨gx, 0, none⟩)) (by go_simp) ⟨(), .inr rfl, hS⟩
              · have EG := hval 13 _ 169 rfl rfl (dep_of hdep 13 (by rfl))
                have E172 := hval 16 _ 172 rfl rfl (dep_of hdep 16 (by rfl))
                unfold wtlVal at EG E172
                refine g_want rfl rfl rfl EG ?_
                exact does_value (w' := W) (v := .pointer (some ⟨gx, 0, none⟩)) (by go_simp) ⟨(), .inr rfl, hS⟩
              · have EG := hval 13 _ 169 rfl rfl (dep_of hdep 13 (by rfl))
                have E173 := hval 17 _ 173 rfl rfl (dep_of hdep 17 (by rfl))
                unfold wtlVal at EG E173
                refine g_want rfl rfl rfl EG ?_
                exact does_value (w' := W) (v := .pointer (some ⟨gx, 1, none⟩)) (by go_simp) ⟨(), .inr rfl, hS⟩
              · have EG := hval 13 _ 169 rfl rfl (dep_of hdep 13 (by rfl))
                have E174 := hval 18 _ 174 rfl rfl (dep_of hdep 18 (by rfl))
                unfold wtlVal at EG E174
                have c1 := HRW.out W hS
                refine g_want rfl rfl rfl EG ?_
                exact does_value (w' := W) (v := .slice A9 ln c9) (by go_simp) ⟨(), .inr rfl, hS⟩
              · have EG := hval 13 _ 169 rfl rfl (dep_of hdep 13 (by rfl))
                have E175 := hval 19 _ 175 rfl rfl (dep_of hdep 19 (by rfl))
                unfold wtlVal at EG E175
                refine g_want rfl rfl rfl EG ?_
                exact does_value (w' := W) (v := .int .i64 (ln : Int)) (by go_simp) ⟨(), .inr rfl, hS⟩
              · have EG := hval 13 _ 169 rfl rfl (dep_of hdep 13 (by rfl))
                have E171 := hval 15 _ 171 rfl rfl (dep_of hdep 15 (by rfl))
                have E176 := hval 20 _ 176 rfl rfl (dep_of hdep 20 (by rfl))
                unfold wtlVal at EG E171 E176
                refine g_want rfl rfl rfl EG ?_
                exact does_value (w' := W) (v := .bool false) (by go_simp) ⟨(), .inr rfl, hS⟩
              · have E169 := hval 13 _ 169 rfl rfl (dep_of hdep 13 (by rfl))
                have E177 := hval 21 _ 177 rfl rfl (dep_of hdep 21 (by rfl))
                unfold wtlVal at E169 E177
                refine g_plain rfl ?_
                exact does_value (w' := W) (v := .bool false) (by go_simp) ⟨(), .inr rfl, hS⟩
            · intro gh wc hS
              have HBC := hid (show Below wb.heap.size wb wc from hS)
              clear hS HST
              simp only [putAll, wtlVal, Nat.reduceAdd, Nat.zero_add, Act.put, List.setIfInBounds_toArray, List.set_cons_zero, List.set_cons_succ]
              go_wp2_with fail
              refine (HOV.out wc HBC.out).mono ?_
              rintro _ wd ⟨rfl, hgd⟩
              have HXd := hid (HFN.out wc HBC.out wd hgd)
              clear hgd HFN HBC HOV HSM HLN HRW
              go_wp2_with fail
              go_roundw
              case rel => exact ⟨k + 1, by go_num, by omega, hid ⟨SN, HXd.out⟩⟩
              case measure => simp [intOf]; omega
        have k0 : (kd == 0) = false := by simpa using h0
        have k1 : (kd == 1) = false := by simpa using h1
        have k2 : (kd == 2) = false := by simpa using h2
        have k3 : (kd == 3) = false := by simpa using h3
        have k4 : (kd == 4) = false := by simpa using h4
        have k5 : (kd == 5) = false := by simpa using h5
        have k6 : (kd == 6) = false := by simpa using h6
        have HX := hid (HRT.out.less (H' := []) (fun b hm => by cases hm))
        clear HRT HTB
        have HLS := hid HX.out.lens
        have HTS := hid HX.out.bel.size
        go_wp2_with fail
        clear e0
        refine (HX.out.doneW).mono ?_
        rintro _ wa ⟨A5, c5, rfl, ho5, hba⟩
        have HXa := hid (HX.out.more (H' := (Value.slice A5 (doneB s).length c5).ownBlock.toList) hba (fun b hm => .inr (World.ownsRow.lt ho5 b (by simpa using hm))))
        have HO5 := hid ho5
        clear ho5 hba HX
        go_wp2_with fail
        refine (HXa.out.doneR).mono ?_
        rintro _ wb ⟨A6, c6, rfl, ho6, hbb⟩
        have HXb := hid (HXa.out.keep hbb)
        have HO5b := hid (HO5.out.keep hbb)
        obtain ⟨A9, c9, hrow⟩ := HXb.out.row
        have HRW := hid (fun W (hW : Below wb.heap.size wb W) => ((hW.cell (p := ⟨gx, 1, none⟩) (lt_of_cell hrow)).trans hrow : W.cell? ⟨gx, 1, none⟩ = some (.slice A9 s.bs.length c9)))
        have HLN := hid (fun W (hW : Below wb.heap.size wb W) => (HXb.out.keep hW).len)
        have HDL := hid (show (doneB s).length ≤ 67108864 from by have := HLS.out; unfold doneB; split <;> simp <;> omega)
        obtain ⟨A5', c5', e5, -, sb5, -⟩ := HO5b.out.sb
        obtain ⟨rfl, rfl⟩ : A5 = A5' ∧ c5 = c5' := by injection e5 with h1 _ h3; exact ⟨h1, h3⟩
        obtain ⟨A6', c6', e6, -, sb6, -⟩ := ho6.sb
        obtain ⟨rfl, rfl⟩ : A6 = A6' ∧ c6 = c6' := by injection e6 with h1 _ h3; exact ⟨h1, h3⟩
        have HS5 := hid sb5; have HS6 := hid sb6
        have HSM := hid (fun W (hW : Below wb.heap.size wb W) => sameBytes_calls _ (doneB s).length c5 _ (doneB s).length c6 A5 A6 (doneB s) (doneB s) W (HS5.out.keep hW) (HS6.out.keep hW))
        simp only [beq_self_eq_true] at HSM
        have HOV := hid (fun W (hW : Below wb.heap.size wb W) => overBytes_calls _ (doneB s).length c5 A5 (doneB s) W (HO5b.out.keep hW) (by have := HDL.out; omega))
        have HFN := hid (fun W (hW : Below wb.heap.size wb W) W' (hg : W.grownBy W' (Value.slice A5 (doneB s).length c5).ownBlock) => ((HXb.out.keep hW).high (Chg.of_grown (L := (Value.slice A5 (doneB s).length c5).ownBlock.toList) hg (fun b e => by rw [e]; simp)) (fun b hm => ⟨hm, by
          have h1 := (World.ownsRow.lt HO5b.out b (by simpa using hm)).1
          have h2 := HTS.out
          omega⟩)).less (H' := []) (fun b hm => by cases hm))
        clear hrow e5 sb5 e6 sb6 ho6 hbb HO5 HO5b HXa HXb HS5 HS6 HLS HDL
        generalize (s.bs.length) = ln at HRW HLN
        generalize (doneB s).length = dn at HSM HOV HFN ⊢
        generalize (s.e : Int) = ez2
        have HST := hid (show BwS wb (fun j => decide (23 ≤ j)) (fun _ => ()) wb.drew from (Below.refl _ _).drew)
        go_wp2_with fail
        refine wp_region_invG 182 () (wtlVal g gx ez2 ln dn c5 c6 c9 A5 A6 A9) (BwS wb) (by kernel_rfl) (by kernel_rfl) (by exact Nat.le_refl 182) ?_ ?_ ?_
        · exact HST.out
        · intro i o f gh a W hi hf hdep hsame hcl hval hS
          rcases i with _ | _ | _ | _ | _ | _ | _ | _ | _ | _ | _ | _ | _ | _ | _ | _ | _ | _ | _ | _ | _ | _ | _ | i
          all_goals simp only [List.getElem?_cons_succ, List.getElem?_cons_zero, List.getElem?_nil, Option.some.injEq, reduceCtorEq] at hi
          all_goals subst hi
          · have E11 : a.tmps[11]? = some (.bool true) := (same_of hsame 11 (by rfl)).trans rfl
            refine g_plain rfl ?_
            exact does_value (w' := W) (v := .bool true) (by go_simp) ⟨(), .inr rfl, hS⟩
          · have E156 := hval 0 _ 156 rfl rfl (dep_of hdep 0 (by rfl))
            unfold wtlVal at E156
            refine g_plain rfl ?_
            exact does_value (w' := W) (v := .bool false) (by go_simp) ⟨(), .inr rfl, hS⟩
          · have E157 := hval 1 _ 157 rfl rfl (dep_of hdep 1 (by rfl))
            unfold wtlVal at E157
            refine g_plain rfl ?_
            exact does_value (w' := W) (v := .bool false) (by go_simp) ⟨(), .inr rfl, hS⟩
          · have EG := hval 2 _ 158 rfl rfl (dep_of hdep 2 (by rfl))
            have E13 : a.tmps[13]? = some (.slice A5 dn c5) := (same_of hsame 13 (by rfl)).trans rfl
            unfold wtlVal at EG
            refine g_want rfl rfl rfl EG ?_
            exact does_value (w' := W) (v := .slice A5 dn c5) (by go_simp) ⟨(), .inr rfl, hS⟩
          · have EG := hval 2 _ 158 rfl rfl (dep_of hdep 2 (by rfl))
            have E15 : a.tmps[15]? = some (.slice A6 dn c6) := (same_of hsame 15 (by rfl)).trans rfl
            unfold wtlVal at EG
            refine g_want rfl rfl rfl EG ?_
            exact does_value (w' := W) (v := .slice A6 dn c6) (by go_simp) ⟨(), .inr rfl, hS⟩
          · have EG := hval 2 _ 158 rfl rfl (dep_of hdep 2 (by rfl))
            have E159 := hval 3 _ 159 rfl rfl (dep_of hdep 3 (by rfl))
            have E160 := hval 4 _ 160 rfl rfl (dep_of hdep 4 (by rfl))
            unfold wtlVal at EG E159 E160
            refine g_want rfl rfl rfl EG ?_
            refine does_call 31 #[.slice A5 dn c5, .slice A6 dn c6] (by go_simp) ((HSM.out W hS).mono ?_)
            rintro _ _ ⟨rfl, rfl⟩
            exact ⟨_, rfl, (), .inr rfl, hS⟩
          · have EG := hval 2 _ 158 rfl rfl (dep_of hdep 2 (by rfl))
            have E161 := hval 5 _ 161 rfl rfl (dep_of hdep 5 (by rfl))
            unfold wtlVal at EG E161
            refine g_want rfl rfl rfl EG ?_
            exact does_value (w' := W) (v := .bool false) (by go_simp) ⟨(), .inr rfl, hS⟩
          · have E158 := hval 2 _ 158 rfl rfl (dep_of hdep 2 (by rfl))
            have E162 := hval 6 _ 162 rfl rfl (dep_of hdep 6 (by rfl))
            unfold wtlVal at E158 E162
            refine g_plain rfl ?_
            exact does_value (w' := W) (v := .bool false) (by go_simp) ⟨(), .inr rfl, hS⟩
          · have E163 := hval 7 _ 163 rfl rfl (dep_of hdep 7 (by rfl))
            unfold wtlVal at E163
            refine g_plain rfl ?_
            exact does_value (w' := W) (v := .bool false) (by go_simp) ⟨(), .inr rfl, hS⟩
          · have EG := hval 8 _ 164 rfl rfl (dep_of hdep 8 (by rfl))
            have E14 : a.tmps[14]? = some (.int .i64 ez2) := (same_of hsame 14 (by rfl)).trans rfl
            unfold wtlVal at EG
            refine g_want rfl rfl rfl EG ?_
            exact does_value (w' := W) (v := .int .i64 ez2) (by go_simp) ⟨(), .inr rfl, hS⟩
          · have EG := hval 8 _ 164 rfl rfl (dep_of hdep 8 (by rfl))
            have E16 : a.tmps[16]? = some (.int .i64 ez2) := (same_of hsame 16 (by rfl)).trans rfl
            unfold wtlVal at EG
            refine g_want rfl rfl rfl EG ?_
            exact does_value (w' := W) (v := .int .i64 ez2) (by go_simp) ⟨(), .inr rfl, hS⟩
          · have EG := hval 8 _ 164 rfl rfl (dep_of hdep 8 (by rfl))
            have E165 := hval 9 _ 165 rfl rfl (dep_of hdep 9 (by rfl))
            have E166 := hval 10 _ 166 rfl rfl (dep_of hdep 10 (by rfl))
            unfold wtlVal at EG E165 E166
            refine g_want rfl rfl rfl EG ?_
            exact does_value (w' := W) (v := .bool false) (by go_simp) ⟨(), .inr rfl, hS⟩
          · have E164 := hval 8 _ 164 rfl rfl (dep_of hdep 8 (by rfl))
            have E167 := hval 11 _ 167 rfl rfl (dep_of hdep 11 (by rfl))
            unfold wtlVal at E164 E167
            refine g_plain rfl ?_
            exact does_value (w' := W) (v := .bool false) (by go_simp) ⟨(), .inr rfl, hS⟩
          · have E168 := hval 12 _ 168 rfl rfl (dep_of hdep 12 (by rfl))
            unfold wtlVal at E168
            refine g_plain rfl ?_
            exact does_value (w' := W) (v := .bool false) (by go_simp) ⟨(), .inr rfl, hS⟩
          · have EG := hval 13 _ 169 rfl rfl (dep_of hdep 13 (by rfl))
            have E5 : a.tmps[5]? = some (.pointer (some ⟨g, 0, none⟩)) := (same_of hsame 5 (by rfl)).trans rfl
            unfold wtlVal at EG
            refine g_want rfl rfl rfl EG ?_
            exact does_value (w' := W) (v := .pointer (some ⟨g, 0, none⟩)) (by go_simp) ⟨(), .inr rfl, hS⟩
          · have EG := hval 13 _ 169 rfl rfl (dep_of hdep 13 (by rfl))
            have E170 := hval 14 _ 170 rfl rfl (dep_of hdep 14 (by rfl))
            unfold wtlVal at EG E170
            refine g_want rfl rfl rfl EG ?_
            refine does_call 32 #[.pointer (some ⟨g, 0, none⟩)] (by go_simp) ((HLN.out W hS).mono ?_)
            rintro _ _ ⟨rfl, rfl⟩
            exact ⟨_, rfl, (), .inr rfl, hS⟩
          · have EG := hval 13 _ 169 rfl rfl (dep_of hdep 13 (by rfl))
            have E7 : a.tmps[7]? = some (.pointer (some ⟨gx, 0, none⟩)) := (same_of hsame 7 (by rfl)).trans rfl
            unfold wtlVal at EG
            refine g_want rfl rfl rfl EG ?_
            exact does_value (w' := W) (v := .pointer (some ⟨gx, 0, none⟩)) (by go_simp) ⟨(), .inr rfl, hS⟩
          · have EG := hval 13 _ 169 rfl rfl (dep_of hdep 13 (by rfl))
            have E172 := hval 16 _ 172 rfl rfl (dep_of hdep 16 (by rfl))
            unfold wtlVal at EG E172
            refine g_want rfl rfl rfl EG ?_
            exact does_value (w' := W) (v := .pointer (some ⟨gx, 0, none⟩)) (by go_simp) ⟨(), .inr rfl, hS⟩
          · have EG := hval 13 _ 169 rfl rfl (dep_of hdep 13 (by rfl))
            have E173 := hval 17 _ 173 rfl rfl (dep_of hdep 17 (by rfl))
            unfold wtlVal at EG E173
            refine g_want rfl rfl rfl EG ?_
            exact does_value (w' := W) (v := .pointer (some ⟨gx, 1, none⟩)) (by go_simp) ⟨(), .inr rfl, hS⟩
          · have EG := hval 13 _ 169 rfl rfl (dep_of hdep 13 (by rfl))
            have E174 := hval 18 _ 174 rfl rfl (dep_of hdep 18 (by rfl))
            unfold wtlVal at EG E174
            have c1 := HRW.out W hS
            refine g_want rfl rfl rfl EG ?_
            exact does_value (w' := W) (v := .slice A9 ln c9) (by go_simp) ⟨(), .inr rfl, hS⟩
          · have EG := hval 13 _ 169 rfl rfl (dep_of hdep 13 (by rfl))
            have E175 := hval 19 _ 175 rfl rfl (dep_of hdep 19 (by rfl))
            unfold wtlVal at EG E175
            refine g_want rfl rfl rfl EG ?_
            exact does_value (w' := W) (v := .int .i64 (ln : Int)) (by go_simp) ⟨(), .inr rfl, hS⟩
          · have EG := hval 13 _ 169 rfl rfl (dep_of hdep 13 (by rfl))
            have E171 := hval 15 _ 171 rfl rfl (dep_of hdep 15 (by rfl))
            have E176 := hval 20 _ 176 rfl rfl (dep_of hdep 20 (by rfl))
            unfold wtlVal at EG E171 E176
            refine g_want rfl rfl rfl EG ?_
            exact does_value (w' := W) (v := .bool false) (by go_simp) ⟨(), .inr rfl, hS⟩
          · have E169 := hval 13 _ 169 rfl rfl (dep_of hdep 13 (by rfl))
            have E177 := hval 21 _ 177 rfl rfl (dep_of hdep 21 (by rfl))
            unfold wtlVal at E169 E177
            refine g_plain rfl ?_
            exact does_value (w' := W) (v := .bool false) (by go_simp) ⟨(), .inr rfl, hS⟩
        · intro gh wc hS
          have HBC := hid (show Below wb.heap.size wb wc from hS)
          clear hS HST
          simp only [putAll, wtlVal, Nat.reduceAdd, Nat.zero_add, Act.put, List.setIfInBounds_toArray, List.set_cons_zero, List.set_cons_succ]
          go_wp2_with fail
          refine (HOV.out wc HBC.out).mono ?_
          rintro _ wd ⟨rfl, hgd⟩
          have HXd := hid (HFN.out wc HBC.out wd hgd)
          clear hgd HFN HBC HOV HSM HLN HRW
          go_wp2_with fail
          go_roundw
          case rel => exact ⟨k + 1, by go_num, by omega, hid ⟨s, HXd.out⟩⟩
          case measure => simp [intOf]; omega
      · obtain rfl : k = n2 := by omega
        go_wp2_with fail
        refine HLW.out.mono ?_
        rintro _ _ ⟨rfl, rfl⟩
        clear HLW
        go_wp2_with fail
        refine (HAW.out wr).mono ?_
        rintro _ w9 ⟨rfl, hb9⟩
        have HR9 := hid (HRI.out.keep hb9)
        clear hb9 HRI
        go_wp2_with fail
        go_ret
        exact ⟨rfl, HR9.out.bel⟩
end Go.Proofs.Ytcpkjpeimnaimaa
