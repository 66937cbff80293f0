/- One device beside a row of the law's own; numbers in a row; the kit's Pick. -/
import Derived.Test.YtjenafbkalokoaaDvInv
namespace Go.Proofs.Ytjenafbkalokoaa
open Go.RowKit

/-- In the world w the n cells from A on hold the numbers zs. -/
def SI (w : World) (A : Option Addr) (n : Nat) (zs : List Int) : Prop :=
  zs.length = n ∧ (0 < n → ∃ b off, A = some ⟨b, off, none⟩ ∧ ∀ j z, zs[j]? = some z → w.cell? ⟨b, off + j, none⟩ = some (.int .i64 z))
theorem SI.keep {w w' : World} {A : Option Addr} {n : Nat} {zs : List Int} (h : SI w A n zs) (hb : Below w.heap.size w w') : SI w' A n zs :=
  ⟨h.1, fun hn => by
    obtain ⟨b, off, e, hc⟩ := h.2 hn
    exact ⟨b, off, e, fun j x hj => (hb.cell (p := ⟨b, off + j, none⟩) (lt_of_cell (hc j x hj))).trans (hc j x hj)⟩⟩
theorem SI.at_ {w : World} {A : Option Addr} {n : Nat} {zs : List Int} (h : SI w A n zs) {k : Nat} (hk : k < n) : ∃ b off z, A = some ⟨b, off, none⟩ ∧ zs[k]? = some z ∧ w.cell? ⟨b, off + k, none⟩ = some (.int .i64 z) := by
  obtain ⟨b, off, e, hc⟩ := h.2 (by omega)
  have hl : k < zs.length := by have := h.1; omega
  exact ⟨b, off, zs[k], e, List.getElem?_eq_getElem hl, hc k _ (List.getElem?_eq_getElem hl)⟩
theorem tmod_low (x n : Int) (h : 0 < n) (hx : x.tmod n < 0) : x.tmod n + n = x % n := by
  have h1 := Int.tmod_eq_emod (a := x) (b := n)
  have h2 := Int.emod_nonneg x (show n ≠ 0 by omega)
  have h3 := Int.emod_lt_of_pos x h
  rw [h1] at hx ⊢
  split at hx
  · omega
  · have : (n.natAbs : Int) = n := by omega
    rename_i hh
    rw [if_neg hh, this]; omega
theorem tmod_high (x n : Int) (h : 0 < n) (hx : ¬ x.tmod n < 0) : x.tmod n = x % n := by
  have h1 := Int.tmod_eq_emod (a := x) (b := n)
  have h2 := Int.emod_nonneg x (show n ≠ 0 by omega)
  have h3 := Int.emod_lt_of_pos x h
  rw [h1] at hx ⊢
  split at hx
  · rename_i hh; rw [if_pos hh]; omega
  · rename_i hh
    have : (n.natAbs : Int) = n := by omega
    rw [this] at hx; omega

theorem pick_calls (x n : Int) (w : World) (h3 : 0 < n) (h4 : n ≤ 1099511627776) :
    Calls Try.prog 34 #[.int .i64 x, .int .i64 n] w fun e w' => e = .returned (.int .i64 (x % n)) ∧ w = w' := by
  by_cases hx : x.tmod n < 0
  · go_enter Try.func34, Try.ntmps34
    go_wp2_with fail
    go_ret
    refine ⟨ret_int ?_, rfl⟩
    have h2 := Int.emod_nonneg x (show n ≠ 0 by omega)
    have h5 := Int.emod_lt_of_pos x h3
    rw [tmod_low x n h3 hx]
    exact IntWalk.wrap64_in _ (by omega)
  · go_enter Try.func34, Try.ntmps34
    go_wp2_with fail
    go_ret
    exact ⟨ret_int (tmod_high x n h3 (by omega)), rfl⟩

/-- Since w0 only new blocks have changed; some of them are a device, another one is the law's. -/
def DevR (w0 w : World) (g : Nat) (s : DS) (wb : Nat) : Prop := Below w0.heap.size w0 w ∧ ∃ F, DevB w w0.heap.size F g s ∧ wb ∉ F ∧ wb < w.heap.size ∧ w0.heap.size ≤ wb
section
variable {w0 w w1 : World} {g wb : Nat} {s : DS}
theorem DevR.one (h : DevR w0 w g s wb) : Dev1 w0 w g s := ⟨h.1, h.2.imp fun _ k => k.1⟩
theorem DevR.keep (h : DevR w0 w g s wb) (hb : Below w.heap.size w w1) : DevR w0 w1 g s wb := by
  obtain ⟨h1, F, h2, h3, h4, h5⟩ := h
  exact ⟨h1.trans (hb.mono h1.size), F, h2.keep hb, h3, Nat.lt_of_lt_of_le h4 hb.size, h5⟩
theorem Dev1.beside (h : Dev1 w0 w g s) (hb : Below w.heap.size w w1) (h1 : w.heap.size ≤ wb) (h2 : wb < w1.heap.size) : DevR w0 w1 g s wb := by
  obtain ⟨hb0, F, hd⟩ := h
  refine ⟨hb0.trans (hb.mono hb0.size), F, hd.keep hb, fun hm => ?_, h2, Nat.le_trans hb0.size h1⟩
  have := (hd.lt wb hm).2; omega
theorem DevR.of (hb : Below w0.heap.size w0 w) {F : List Nat} (hd : DevB w w0.heap.size F g s) (hn : wb ∉ F) (hl : wb < w.heap.size) (hle : w0.heap.size ≤ wb) {s' : DS} {v : Value} {e : Ending} {w' : World} (hp : DevPost w w0.heap.size F g s' v e w') :
    e = .returned v ∧ DevR w0 w' g s' wb ∧ w'.heap[wb]? = w.heap[wb]? := by
  obtain ⟨he, F', h1, h2, h3⟩ := hp
  refine ⟨he, ⟨hb.trans (h2.below (fun b hb => (hd.lt b hb).1) hb.size), F', h1, fun hm => ?_, Nat.lt_of_lt_of_le hl h2.size, hle⟩, h2.block wb hl hn⟩
  rcases h3 wb hm with h | h
  · exact hn h
  · omega
theorem d2_puts (i : Int) (b : UInt8) (h : DevR w0 w g s wb) (hf : fuseOK s) : Calls Try.prog 30 #[.pointer (some ⟨g, 0, none⟩), .int .i64 i, .int .u8 (b.toNat : Int)] w fun e w' => e = .returned (.bool (okB (writeE s i 64))) ∧ DevR w0 w' g (writeS s i (putB b)) wb ∧ w'.heap[wb]? = w.heap[wb]? := by
  obtain ⟨hb, F, hd, h1, h2, h3⟩ := h
  exact (puts_calls w0.heap.size g F s w i b hd hb.size hf.1 hf.2).mono fun e w' hp => DevR.of hb hd h1 h2 h3 hp
theorem d2_crash (nk ck : Nat) (Ak : Option Addr) (keep : List Bool) (t : Int) (h : DevR w0 w g s wb) (hf : fuseOK s) (hk : KB w Ak nk keep) (hne : 0 < nk → ∀ b off, Ak = some ⟨b, off, none⟩ → b < w0.heap.size) (hnk : nk ≤ 1099511627776) :
    Calls Try.prog 28 #[.pointer (some ⟨g, 0, none⟩), .slice Ak nk ck, .int .i64 t] w fun e w' => e = .returned (.int .i64 (crashE t : Int)) ∧ DevR w0 w' g (crashD s keep t) wb ∧ w'.heap[wb]? = w.heap[wb]? := by
  obtain ⟨hb, F, hd, h1, h2, h3⟩ := h
  exact (dCrash_calls w0.heap.size g F s w nk ck Ak keep t hd hf.2 hk (fun hn b off e hm => by
    have := (hd.lt b hm).1
    have := hne hn b off e
    omega) hnk).mono fun e w' hp => DevR.of hb hd h1 h2 h3 hp
theorem DevR.setw (h : DevR w0 w g s wb) (i : Nat) (u : Value) : DevR w0 (w.setCell ⟨wb, i, none⟩ u) g s wb := by
  obtain ⟨hb, F, hd, h1, h2, h3⟩ := h
  have hc : Chg [wb] w (w.setCell ⟨wb, i, none⟩ u) := chg_set (L := [wb]) (by simp) i u
  exact ⟨hb.trans (hc.below (by simpa using h3) hb.size), F, hd.chg hc (fun b hb hm => h1 (by simp at hm; exact hm ▸ hb)), h1, by simpa using h2, h3⟩
end
theorem Own.of_block {w w' : World} {base n wb c : Nat} {e : TypeId} {bs : List UInt8} (h : Own w base e (.slice (some ⟨wb, 0, none⟩) n c) n bs) (hw : w'.heap[wb]? = w.heap[wb]?) : Own w' base e (.slice (some ⟨wb, 0, none⟩) n c) n bs := by
  rcases h with ⟨h1, ⟨h2, -⟩ | ⟨g', cap, cur, hv, hb, hlt, r⟩⟩
  · cases h2
  · have e1 : g' = wb := by injection hv with h _ _; injection h with h; injection h with h; exact h.symm
    subst e1
    exact ⟨h1, .inr ⟨g', cap, cur, hv, hb, hw.trans hlt, r⟩⟩
theorem d3_reads {w0 w : World} {g : Nat} {s : DS} (i : Int) (f : UInt8) (n : Nat) (t : UInt8) (hn : n ≤ 64) (h : Dev1 w0 w g s) : Calls Try.prog 32 #[.pointer (some ⟨g, 0, none⟩), .int .i64 i, .int .u8 (f.toNat : Int), .int .i64 (n : Int), .int .u8 (t.toNat : Int)] w fun e w' => e = .returned (.bool (okB (readE s i) && (readB s i == twoB f n t))) ∧ Dev1 w0 w' g s ∧ Below w.heap.size w w' := by
  have hh := h
  obtain ⟨hb, F, hd⟩ := h
  exact (reads_calls w0.heap.size g F s w i f n t hn hd).mono fun e w' ⟨he, hp⟩ => ⟨he, hh.keep hp, hp⟩
theorem d3_image {w0 w : World} {g : Nat} {s : DS} (i : Int) (f : UInt8) (n : Nat) (t : UInt8) (hn : n ≤ 64) (h : Dev1 w0 w g s) : Calls Try.prog 31 #[.pointer (some ⟨g, 0, none⟩), .int .i64 i, .int .u8 (f.toNat : Int), .int .i64 (n : Int), .int .u8 (t.toNat : Int)] w fun e w' => e = .returned (.bool (okB (imageE s i) && (imageB s i == twoB f n t))) ∧ Dev1 w0 w' g s ∧ Below w.heap.size w w' := by
  have hh := h
  obtain ⟨hb, F, hd⟩ := h
  exact (image_calls w0.heap.size g F s w i f n t hn hd).mono fun e w' ⟨he, hp⟩ => ⟨he, hh.keep hp, hp⟩
end Go.Proofs.Ytjenafbkalokoaa
