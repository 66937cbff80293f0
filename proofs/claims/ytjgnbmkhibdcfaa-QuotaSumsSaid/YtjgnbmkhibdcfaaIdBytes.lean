/- An api.ID that comes as an argument is an array of 32 bytes. -/
import Derived.OpenShut
import Derived.ChangeMaps5
import Derived.Test.YtjgnbmkhibdcfaaRow
import Derived.Test.YtjgnbmkhibdcfaaShaBytes
namespace Go.Proofs.Ytjgnbmkhibdcfaa
open Go.RowKit Crc Go.ChangeAt Go.WideShapes

theorem bytes_of_cells : ∀ (cs : List Value), (∀ i, i < cs.length → ∃ b : UInt8, cs[i]? = some (bv b)) → ∃ l : List UInt8, cs = l.map bv
  | [], _ => ⟨[], rfl⟩
  | c :: cs, h => by
    obtain ⟨b, hb⟩ := h 0 (by simp)
    obtain ⟨l, hl⟩ := bytes_of_cells cs fun i hi => by
      obtain ⟨b, hb⟩ := h (i + 1) (by simpa using hi)
      exact ⟨b, by simpa using hb⟩
    refine ⟨b :: l, ?_⟩
    simp at hb
    rw [hb, hl]; rfl
set_option maxRecDepth 20000 in
theorem id_bytes {H : Type} {enc : TypeId × Value → H} {W : World} {base b0 : Nat} {sp : Nat → Bool} {held : Bool} {v : Value} {d : DataW H} {p : List MemPlace}
    (hv : Value.okWide Try.prog W .any base 32 v) (h : DataW.Trod enc Try.prog W b0 sp held 32 v d p) :
    ∃ l : List UInt8, l.length = 32 ∧ v = .agg (bcells l) := by
  have hc4 : Try.prog.cellsOf 32 = 32 := by kernel_rfl
  have hc1 : Try.prog.cellsOf 5 = 1 := by kernel_rfl
  obtain ⟨cs, rfl, hsz, _⟩ : ∃ cs, v = .agg cs ∧ cs.size = Try.prog.cellsOf 32 ∧ Row.okWide Try.prog W .any base 32 cs := by
    simpa [Value.okWide, Try.underlying32] using hv
  rw [hc4] at hsz
  obtain ⟨fuel, hf⟩ := h
  have hf' : DataW.trod enc Try.prog W b0 sp held fuel 32 cs.toList = some (d, p) := hf
  obtain ⟨xs, m, rfl, hx1, hlen, hn, hel⟩ := DataW.trod_array Try.underlying32 hf'
  obtain ⟨l, hl⟩ := bytes_of_cells cs.toList fun i hi => by
    have hi32 : i < 32 := by simpa [hsz] using hi
    have h := hel i hi32
    rw [hc1, Nat.mul_one, List.getElem?_eq_getElem (by omega)] at h
    obtain ⟨k, e1, e2, u⟩ := DataW.trod_int Try.underlying5 h
    refine ⟨UInt8.ofNat k.toNat, ?_⟩
    have h4 : ((cs.toList.drop i).take 1)[0]? = some (.int .u8 k) := by rw [e1]; rfl
    rw [List.getElem?_take] at h4
    rw [bv, ← byte_of (bounds_u8 u)]
    simpa using h4
  refine ⟨l, ?_, ?_⟩
  · have := congrArg List.length hl
    simpa [hsz] using this.symm
  · congr 1
    apply Array.ext'
    rw [hl]; simp [bcells]
end Go.Proofs.Ytjgnbmkhibdcfaa
