/- The law LogInside, walked. -/
import Derived.Test.YtnblikcfbhbndaaLgRoom
import Derived.Test.YtnblikcfbhbndaaKit2
namespace Go.Proofs.Ytnblikcfbhbndaa
open Go.RowKit

theorem DevB.keepB {w w' : World} {base B g : Nat} {F : List Nat} {s : DS} (h : DevB w base F g s) (hb : Below B w w') (hF : ∀ b ∈ F, b < B) : DevB w' base F g s :=
  h.chg (L := List.range' B (w.heap.size - B)) ⟨hb.os, hb.tape, hb.output, hb.size, fun k hk hm => hb.block k (by
    rcases Nat.lt_or_ge k B with h | h
    · exact h
    · exact absurd (List.mem_range'_1.2 ⟨h, by omega⟩) hm)⟩ (fun b hb hm => by
    have := hF b hb
    have := (List.mem_range'_1.1 hm).1
    omega)
/-- what the law has, beside what it makes from block B1 on -/
structure InS (w wr : World) (base B1 G g : Nat) (F : List Nat) (s : DS) (A : Option Addr) (n : Nat) (bs : List UInt8) (ac : Array Value) : Prop where
  below : Below w.heap.size w wr
  size : B1 ≤ wr.heap.size
  dev : DevB wr base F g s
  lt : ∀ b ∈ F, b < B1
  area : Blk wr G 46 ac
  glt : G < B1
  gf : G ∉ F
  text : SB wr w.heap.size A n bs
  lo : w.heap.size ≤ base
  bw : base ≤ B1
section
variable {w wr w' : World} {base B1 G g : Nat} {F : List Nat} {s s' : DS} {A : Option Addr} {n : Nat} {bs : List UInt8} {ac : Array Value}
theorem InS.keepB (h : InS w wr base B1 G g F s A n bs ac) (hb : Below B1 wr w') : InS w w' base B1 G g F s A n bs ac :=
  ⟨h.below.trans (hb.mono (by have := h.lo; have := h.bw; omega)), Nat.le_trans h.size hb.size, h.dev.keepB hb h.lt, h.lt, h.area.keepB hb h.glt, h.glt, h.gf, h.text.keepB (hb.mono (by have := h.lo; have := h.bw; omega)), h.lo, h.bw⟩
theorem InS.keep (h : InS w wr base B1 G g F s A n bs ac) (hb : Below wr.heap.size wr w') : InS w w' base B1 G g F s A n bs ac := h.keepB (hb.mono h.size)
theorem InS.drew (h : InS w wr base B1 G g F s A n bs ac) : InS w wr.drew base B1 G g F s A n bs ac := h.keep ((Below.refl _ _).drew)
/-- behind a change of the device; new things come from here on -/
theorem InS.at_ (h : InS w wr base B1 G g F s A n bs ac) (hp : DevAt wr base F g s' w') : ∃ F', InS w w' base w'.heap.size G g F' s' A n bs ac ∧ Chg F wr w' ∧ ∀ b ∈ F', b ∈ F ∨ wr.heap.size ≤ b := by
  obtain ⟨F', h1, h2, h3⟩ := hp
  refine ⟨F', ⟨h.below.trans (h2.below (fun b hb => Nat.le_trans h.lo (h.dev.lt b hb).1) h.below.size), Nat.le_refl _, h1, fun b hb => (h1.lt b hb).2, h.area.chg h2 h.gf, ?_, ?_, h.text.chg h2 (fun b off _ hlt hm => ?_), h.lo, ?_⟩, h2, h3⟩
  · have := h.glt; have := h.size; have := h2.size; omega
  · intro hm
    rcases h3 G hm with h4 | h4
    · exact h.gf h4
    · have := h.glt; have := h.size; omega
  · have := (h.dev.lt b hm).1
    have := h.lo
    omega
  · have := h.bw; have := h.size; have := h2.size; omega
theorem InS.dev1 (h : InS w wr base B1 G g F s A n bs ac) : Dev1 w wr g s := ⟨h.below, F, dev_lower h.dev h.lo⟩
end
theorem plain_read {s : DS} (hok : s.OK) (hp : Plain s) {i : Nat} (hi : i < s.n) : readE s (i : Int) = 0 ∧ readB s (i : Int) = secAt s.now i ∧ (readB s (i : Int)).length = 64 := by
  have h1 := has_plain hi
  have e : readB s (i : Int) = secAt s.now i := by
    unfold readB
    rw [if_neg (by rw [hp.2]; simp), if_pos h1, Int.toNat_natCast]
  refine ⟨?_, e, by rw [e]; exact secAt_length hok.n1 hi⟩
  unfold readE
  rw [if_neg (by rw [hp.2]; simp), if_pos h1]
/-- the first sector, where one would be next, is none -/
theorem last_has {N gen at_ : Nat} {recs : List (List UInt8)} {s : DS} (h : LogS 0 N gen at_ recs s) (h0 : 0 < at_) (h1 : at_ < N) : hasL (putS s at_ (secAt s.now 0)) (areaN 0 N gen) (at_ : Int) recs = true := by
  have hroom := h.room
  have hnb := h.ok.nb
  have hb : (secAt s.now 0).length = 64 := secAt_length h.ok.n1 (by omega)
  have hin : at_ < s.n := by omega
  refine has_of (s := putS s at_ (secAt s.now 0)) ⟨h.plain.1, h.plain.2⟩ (by show 0 + N ≤ s.n; omega) (by show 0 < s.n; omega) h.g1 h.g2 (scan_at h.le (fun sec fuel hs => h.pre sec fuel (fun i hi => ?_)) (fun _ => ?_))
  · rw [hs i hi]
    unfold secsOf
    exact secPut_other h.ok.n1 hin hb (by omega) (by omega)
  · unfold secsOf
    show validB gen at_ (secAt (secPut s.now at_ (secAt s.now 0)) (0 + at_)) = false
    rw [Nat.zero_add, secPut_same h.ok.n1 hin hb]
    obtain ⟨k, p, -, hp, e⟩ := h.old 0 h0
    have e' : secAt s.now 0 = secL gen 0 k p := e
    rw [e']
    cases hv : validB gen at_ (secL gen 0 k p)
    · rfl
    · exact absurd (valid_idx (by omega) (by omega) hv) (by omega)
def arIn : Array Value := #[.int .i64 0, .int .i64 40, .int .i64 9]
theorem arIn_eq : arv (areaN 0 40 9) = .agg #[.int .i64 0, .int .i64 40, .int .i64 9] := rfl
end Go.Proofs.Ytnblikcfbhbndaa
