/- A slice of bytes that came in, as a list of bytes. Plain lemmas over any program. -/
import Derived.Test.YtiejndkchcljdaaMem
import Derived.OpenShut
namespace Go.Proofs.Ytiejndkchcljdaa
open Go.RowKit

/-- What is known of a slice of bytes that came in: it is nil; or it leads to a row of 'cap' cells that hold the numbers 'zs', each a byte. -/
def IsRow (w : World) (a : Option Addr) (len cap : Nat) (zs : List Int) : Prop :=
  (a = none ∧ len = 0 ∧ cap = 0 ∧ zs = []) ∨
  ∃ x, a = some x ∧ len ≤ cap ∧ cap ≤ maxLen ∧ zs.length = cap ∧ (∀ i, i < zs.length → w.cell? (x.add i) = some (.int .u8 (zs.getD i 0))) ∧ ∀ n ∈ zs, (Lit.int .u8 n).wf = true

theorem IsRow.bytes {w : World} {a : Option Addr} {len cap : Nat} {zs : List Int} (h : IsRow w a len cap zs) : ∃ bs, SB w w.heap.size a len bs ∧ len ≤ cap := by
  rcases h with ⟨rfl, rfl, rfl, rfl⟩ | ⟨x, rfl, hl, hm, hz, hc, hw⟩
  · exact ⟨[], SB.nil _ _ _, Nat.le_refl _⟩
  · refine ⟨(zs.take len).map fun n => UInt8.ofNat n.toNat, ⟨by simp; omega, fun hn => ?_⟩, hl⟩
    have h0 := hc 0 (by omega)
    have hspot : x.spot = none := by simpa [Addr.add] using World.cell?_spot h0
    obtain ⟨b, off, spot⟩ := x
    simp only at hspot
    subst hspot
    simp only [Addr.add_lit] at hc
    refine ⟨b, off, rfl, lt_of_cell (hc 0 (by omega)), fun j y hj => ?_⟩
    rw [List.getElem?_map] at hj
    obtain ⟨z, hz', rfl⟩ := Option.map_eq_some_iff.1 hj
    rw [List.getElem?_take] at hz'
    split at hz'
    · have hjl : j < zs.length := by omega
      have hg : zs.getD j 0 = z := by rw [List.getD, hz']; rfl
      rw [hc j hjl, hg]
      have hwf := hw z (List.mem_of_getElem? hz')
      have hb := bounds_u8 hwf
      simp only [bv]
      congr 2
      rw [UInt8.toNat_ofNat']
      omega
    · cases hz'

theorem byte_of {n : Int} (h : 0 ≤ n ∧ n ≤ 255) : n = ((UInt8.ofNat n.toNat).toNat : Int) := by
  rw [UInt8.toNat_ofNat']
  omega
end Go.Proofs.Ytiejndkchcljdaa
