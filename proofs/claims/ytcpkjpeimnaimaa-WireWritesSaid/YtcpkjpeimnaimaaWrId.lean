/- Digests as arrays of 32 bytes; numbers in a row; dots. -/
import Derived.Test.YtcpkjpeimnaimaaWrMem
import Derived.Test.YtcpkjpeimnaimaaNewSet
import Derived.Test.YtcpkjpeimnaimaaKit0
namespace Go.Proofs.Ytcpkjpeimnaimaa
open Go.RowKit

def bcells (l : List UInt8) : Array Value := (l.map bv).toArray
def zeroB (n : Nat) : List UInt8 := List.replicate n 0
theorem bcells_size (l : List UInt8) : (bcells l).size = l.length := by simp [bcells]
theorem bcells_oneCell (l : List UInt8) : (bcells l).toList.all (·.oneCell') = true := by
  rw [List.all_eq_true]
  intro x hx
  simp [bcells] at hx
  obtain ⟨i, _, rfl⟩ := hx
  rfl
theorem info26 : (Try.prog.info? 33).map (fun i => (i.zero, i.size)) = some (some (.agg (bcells (zeroB 32))), 32) := by kernel_rfl
theorem zero_id : (Try.prog.info? 33).map (·.zero) = some (some (.agg (bcells (zeroB 32)))) := by kernel_rfl
theorem size_id {l : List UInt8} (hl : l.length = 32) : (Try.prog.info? 33).map (·.size) = some (bcells l).size := by rw [bcells_size, hl]; kernel_rfl
/-- In the world w the n cells from A on hold the numbers zs. -/
def SI (w : World) (A : Option Addr) (n : Nat) (zs : List Int) : Prop :=
  zs.length = n ∧ (0 < n → ∃ b off, A = some ⟨b, off, none⟩ ∧ ∀ j z, zs[j]? = some z → w.cell? ⟨b, off + j, none⟩ = some (.int .i64 z))
theorem SI.keep {w w' : World} {A : Option Addr} {n : Nat} {zs : List Int} (h : SI w A n zs) (hb : Below w.heap.size w w') : SI w' A n zs :=
  ⟨h.1, fun hn => by
    obtain ⟨b, off, e, hc⟩ := h.2 hn
    exact ⟨b, off, e, fun j x hj => (hb.cell (p := ⟨b, off + j, none⟩) (lt_of_cell (hc j x hj))).trans (hc j x hj)⟩⟩
theorem SI.chg {w w' : World} {L : List Nat} {A : Option Addr} {n : Nat} {zs : List Int} (h : SI w A n zs) (hc : Chg L w w') (hg : 0 < n → ∀ b off, A = some ⟨b, off, none⟩ → b ∉ L) : SI w' A n zs :=
  ⟨h.1, fun hn => by
    obtain ⟨b, off, e, hx⟩ := h.2 hn
    exact ⟨b, off, e, fun j x hj => cell_chg (hx j x hj) hc (hg hn b off e)⟩⟩
theorem SI.lt {w : World} {A : Option Addr} {n : Nat} {zs : List Int} (h : SI w A n zs) (hn : 0 < n) (b off : Nat) (e : A = some ⟨b, off, none⟩) : b < w.heap.size := by
  obtain ⟨b', off', e', hx⟩ := h.2 hn
  rw [e] at e'; cases e'
  have hl : 0 < zs.length := by have := h.1; omega
  exact lt_of_cell (hx 0 _ (List.getElem?_eq_getElem hl))
theorem SI.at_ {w : World} {A : Option Addr} {n : Nat} {zs : List Int} (h : SI w A n zs) {k : Nat} (hk : k < n) : ∃ b off z, A = some ⟨b, off, none⟩ ∧ zs[k]? = some z ∧ w.cell? ⟨b, off + k, none⟩ = some (.int .i64 z) := by
  obtain ⟨b, off, e, hc⟩ := h.2 (by omega)
  have hl : k < zs.length := by have := h.1; omega
  exact ⟨b, off, zs[k], e, List.getElem?_eq_getElem hl, hc k _ (List.getElem?_eq_getElem hl)⟩
theorem take_next {α β : Type} (f : β → α → β) (s : β) (l : List α) (k : Nat) (x : α) (h : l[k]? = some x) : (l.take (k + 1)).foldl f s = f ((l.take k).foldl f s) x := by
  rw [List.take_add_one, h, List.foldl_append]; rfl
end Go.Proofs.Ytcpkjpeimnaimaa
