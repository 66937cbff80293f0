/- One device that a law made, and nothing else changed: the contracts in that form. -/
import Derived.Test.YtiejndkchcljdaaDvLaw
namespace Go.Proofs.Ytiejndkchcljdaa
open Go.RowKit

/-- Since w0 only new blocks have changed; one of them is a device. -/
def Dev1 (w0 w : World) (g : Nat) (s : DS) : Prop := Below w0.heap.size w0 w ∧ ∃ F, DevB w w0.heap.size F g s
theorem row_lower {w : World} {base base' : Nat} {e : TypeId} {size n : Nat} {v : Value} {xs : List Value} (h : w.ownsRow base e size v n xs) (hb : base' ≤ base) : w.ownsRow base' e size v n xs := by
  rcases h with ⟨h1, h2 | ⟨g, cap, cur, hv, hg, r⟩⟩
  · exact ⟨h1, .inl h2⟩
  · exact ⟨h1, .inr ⟨g, cap, cur, hv, by omega, r⟩⟩
section
variable {w0 w w1 : World} {g : Nat} {s : DS}
theorem Dev1.keep (h : Dev1 w0 w g s) (hb : Below w.heap.size w w1) : Dev1 w0 w1 g s :=
  ⟨h.1.trans (hb.mono h.1.size), h.2.imp fun _ k => k.keep hb⟩
theorem Dev1.of (h : Below w0.heap.size w0 w) {F : List Nat} {s' : DS} {v : Value} {e : Ending} {w' : World} (hF : ∀ b ∈ F, w0.heap.size ≤ b) (hp : DevPost w w0.heap.size F g s' v e w') : e = .returned v ∧ Dev1 w0 w' g s' := by
  obtain ⟨he, F', h1, h2, -⟩ := hp
  exact ⟨he, h.trans (h2.below hF h.size), F', h1⟩
theorem Dev1.ok (h : Dev1 w0 w g s) : s.OK := by obtain ⟨_, _, h⟩ := h; exact h.ok
def fuseOK (s : DS) : Prop := (∀ k, s.fuse = some k → k < 9223372036854775808) ∧ s.loose.length ≤ 1000000
theorem d1_new (w0 : World) (n : Nat) (w : World) (hb : Below w0.heap.size w0 w) (h1 : 1 ≤ n) (h2 : n ≤ 65536) : Calls Try.prog 11 #[.int .i64 (n : Int)] w fun e w' => ∃ g, e = .returned (.tuple #[.pointer (some ⟨g, 0, none⟩), .int .i64 0]) ∧ Dev1 w0 w' g (startS n) :=
  (new_calls n w h1 h2).mono fun e w' ⟨g, F, he, hd, hw⟩ => ⟨g, he, hb.trans (hw.mono hb.size), F, by
    obtain ⟨a, m, A, c, q, h, h2, h3, h4⟩ := hd
    have hle := hb.size
    exact ⟨a, m, A, c, q, { hd := h.hd, now := h.now, img := h.img, row := row_lower h.row hle, fz := h.fz, ga := h.ga, gm := h.gm, am := h.am, rs := h.rs, qs := fun f hf => by have := h.qs f hf; exact ⟨this.1, this.2.1, this.2.2.1, Nat.le_trans hle this.2.2.2.1, this.2.2.2.2⟩, hg := Nat.le_trans hle h.hg, ha := Nat.le_trans hle h.ha, hm := Nat.le_trans hle h.hm }, h2, h3, fun b hb => ⟨Nat.le_trans hle (h4 b hb).1, (h4 b hb).2⟩⟩⟩
theorem d1_write (i : Int) (B n c2 : Nat) (A2 : Option Addr) (bs : List UInt8) (h : Dev1 w0 w g s) (hf : fuseOK s) (hb1 : Below w.heap.size w w1) (hs : SB w1 B A2 n bs) (hne : ∀ b off, A2 = some ⟨b, off, none⟩ → b < w0.heap.size ∨ w.heap.size ≤ b) :
    Calls Try.prog 26 #[.pointer (some ⟨g, 0, none⟩), .int .i64 i, .slice A2 n c2] w1 fun e w' => e = .returned (.int .i64 (writeE s i n : Int)) ∧ Dev1 w0 w' g (writeS s i bs) := by
  obtain ⟨hb, F, hd⟩ := h
  have hb' := hb.trans (hb1.mono hb.size)
  exact (dWrite_calls w0.heap.size g F s w1 i B n c2 A2 bs (hd.keep hb1) hb'.size hf.1 hf.2 hs (fun b off e hm => by
    have := hd.lt b hm
    rcases hne b off e with h | h <;> omega)).mono fun e w' hp => Dev1.of hb' (fun b hb => (hd.lt b hb).1) hp
theorem d1_flush (h : Dev1 w0 w g s) (hf : fuseOK s) : Calls Try.prog 20 #[.pointer (some ⟨g, 0, none⟩)] w fun e w' => e = .returned (.int .i64 (flushE s : Int)) ∧ Dev1 w0 w' g (flushD s) := by
  obtain ⟨hb, F, hd⟩ := h
  exact (dFlush_calls w0.heap.size g F s w hd hf.1 hf.2).mono fun e w' hp => Dev1.of hb (fun b hb => (hd.lt b hb).1) hp
theorem d1_fuse (n : Int) (h : Dev1 w0 w g s) : Calls Try.prog 24 #[.pointer (some ⟨g, 0, none⟩), .int .i64 n] w fun e w' => e = .returned (.int .i64 (fuseE s n : Int)) ∧ Dev1 w0 w' g (fuseS s n) := by
  obtain ⟨hb, F, hd⟩ := h
  exact (dFuse_calls w0.heap.size g F s w n hb.size hd).mono fun e w' hp => Dev1.of hb (fun b hb => (hd.lt b hb).1) hp
theorem d1_crash (nk ck : Nat) (Ak : Option Addr) (keep : List Bool) (t : Int) (h : Dev1 w0 w g s) (hf : fuseOK s) (hb1 : Below w.heap.size w w1) (hk : KB w1 Ak nk keep) (hne : 0 < nk → ∀ b off, Ak = some ⟨b, off, none⟩ → b < w0.heap.size ∨ w.heap.size ≤ b) (hnk : nk ≤ 1099511627776) :
    Calls Try.prog 22 #[.pointer (some ⟨g, 0, none⟩), .slice Ak nk ck, .int .i64 t] w1 fun e w' => e = .returned (.int .i64 (crashE t : Int)) ∧ Dev1 w0 w' g (crashD s keep t) := by
  obtain ⟨hb, F, hd⟩ := h
  have hb' := hb.trans (hb1.mono hb.size)
  exact (dCrash_calls w0.heap.size g F s w1 nk ck Ak keep t (hd.keep hb1) hf.2 hk (fun hn b off e hm => by
    have := hd.lt b hm
    rcases hne hn b off e with h | h <;> omega) hnk).mono fun e w' hp => Dev1.of hb' (fun b hb => (hd.lt b hb).1) hp
theorem d1_read (i : Int) (h : Dev1 w0 w g s) : Calls Try.prog 47 #[.pointer (some ⟨g, 0, none⟩), .int .i64 i] w fun e w' => ∃ v, e = .returned (.tuple #[v, .int .i64 (readE s i : Int)]) ∧ Dev1 w0 w' g s := by
  have hh := h
  obtain ⟨hb, F, hd⟩ := h
  exact (dRead_calls w0.heap.size g F s w i hd).mono fun e w' ⟨v, he, _, hp⟩ => ⟨v, he, hh.keep hp⟩
theorem d1_loose (h : Dev1 w0 w g s) : Calls Try.prog 35 #[.pointer (some ⟨g, 0, none⟩)] w fun e w' => e = .returned (.int .i64 (s.loose.length : Int)) ∧ w = w' := by
  obtain ⟨hb, F, hd⟩ := h
  exact dLoose_calls w0.heap.size g F s w hd
theorem d1_out (h : Dev1 w0 w g s) : Calls Try.prog 64 #[.pointer (some ⟨g, 0, none⟩)] w fun e w' => e = .returned (.bool s.out) ∧ w = w' := by
  obtain ⟨hb, F, hd⟩ := h
  exact dOut_calls w0.heap.size g F s w hd
end
def fuseOKb (s : DS) : Bool := (match s.fuse with | none => true | some k => decide (k < 9223372036854775808)) && decide (s.loose.length ≤ 1000000)
theorem fuseOK_of {s : DS} (h : fuseOKb s = true) : fuseOK s := by
  unfold fuseOKb at h
  rw [Bool.and_eq_true] at h
  refine ⟨fun k hk => ?_, of_decide_eq_true h.2⟩
  have h1 := h.1
  rw [hk] at h1
  exact of_decide_eq_true h1
theorem kb_nil (w : World) : KB w none 0 [] := ⟨rfl, fun h => absurd h (by omega)⟩
theorem kb_lit (w : World) (t : TypeId) (bs : List Bool) (cs : Array Value) (n : Nat) (hcs : cs = (bs.map Value.bool).toArray) (hn : bs.length = n) : KB (w.alloc (.cells cs t)) (some ⟨w.heap.size, 0, none⟩) n bs := by
  subst hcs
  exact ⟨hn, fun _ => ⟨w.heap.size, 0, rfl, fun j x hj => (Blk.new w t _).cell _ (by simp [hj])⟩⟩
end Go.Proofs.Ytiejndkchcljdaa
