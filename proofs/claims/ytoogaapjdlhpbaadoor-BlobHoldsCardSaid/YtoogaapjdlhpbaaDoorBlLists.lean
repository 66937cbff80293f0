/- Lists of bytes that come in: in memory, and opened; too long or not. -/
import Derived.Test.YtoogaapjdlhpbaaDoorBlSto
import Derived.Test.YtoogaapjdlhpbaaDoorRow
import Derived.Deep.Slices
import Derived.ChangeOld
import Derived.OpenShut
namespace Go.Proofs.YtoogaapjdlhpbaaDoor
open Go.RowKit

/-- a list of bytes whose blocks are below B -/
def SLB (w : World) (B : Nat) (A : Option Addr) (l : List (List UInt8)) : Prop :=
  ∃ vs : List Value, vs.length = l.length ∧ (0 < l.length → ∃ b off, A = some ⟨b, off, none⟩ ∧ b < B ∧ ∀ j u, vs[j]? = some u → w.cell? ⟨b, off + j, none⟩ = some u) ∧
    ∀ (k : Nat) x u, l[k]? = some x → vs[k]? = some u → ∃ A' c, u = .slice A' x.length c ∧ SB w B A' x.length x ∧ x.length ≤ c ∧ x.length ≤ 9223372036854775807
section
variable {w w' : World} {B : Nat} {A : Option Addr} {l : List (List UInt8)}
theorem SLB.keepB (h : SLB w B A l) (hb : Below B w w') : SLB w' B A l := by
  obtain ⟨vs, h1, h2, h3⟩ := h
  refine ⟨vs, h1, fun hl => ?_, fun k x u hx hu => ?_⟩
  · obtain ⟨b, off, e, hlt, hc⟩ := h2 hl
    exact ⟨b, off, e, hlt, fun j u hj => (World.cell?_of_block (hb.block b hlt)).trans (hc j u hj)⟩
  · obtain ⟨A', c, e, hs, hc⟩ := h3 k x u hx hu
    exact ⟨A', c, e, hs.keepB hb, hc⟩
theorem SLB.at_ (h : SLB w B A l) {k : Nat} (hk : k < l.length) : ∃ b off A' c x, A = some ⟨b, off, none⟩ ∧ b < B ∧ l[k]? = some x ∧ w.cell? ⟨b, off + k, none⟩ = some (.slice A' x.length c) ∧ SB w B A' x.length x ∧ x.length ≤ c ∧ x.length ≤ 9223372036854775807 := by
  obtain ⟨vs, h1, h2, h3⟩ := h
  obtain ⟨b, off, e, hlt, hc⟩ := h2 (by omega)
  obtain ⟨A', c, e2, hs, hle, hm⟩ := h3 k l[k] (vs[k]'(by omega)) (List.getElem?_eq_getElem hk) (List.getElem?_eq_getElem (by omega))
  exact ⟨b, off, A', c, l[k], e, hlt, List.getElem?_eq_getElem hk, by rw [← e2]; exact hc k _ (List.getElem?_eq_getElem (by omega)), hs, hle, hm⟩
end
def longB (l : List (List UInt8)) (many size : Nat) : Bool := !((l.take (many + 1)).all (fun x => decide (x.length ≤ size)) && decide (l.length ≤ many))
theorem longB_at {l : List (List UInt8)} {many size j : Nat} {x : List UInt8} (hj : j ≤ many) (hx : l[j]? = some x) (hs : size < x.length) : longB l many size = true := by
  cases hb : (l.take (many + 1)).all (fun x => decide (x.length ≤ size)) with
  | false => simp [longB, hb]
  | true =>
    have h2 := List.all_eq_true.1 hb x (List.mem_of_getElem? (i := j) (by rw [List.getElem?_take, if_pos (by omega)]; exact hx))
    have h3 := of_decide_eq_true h2
    omega
theorem longB_many {l : List (List UInt8)} {many size : Nat} (h : many < l.length) : longB l many size = true := by
  have : decide (l.length ≤ many) = false := decide_eq_false (by omega)
  simp [longB, this]
theorem longB_no {l : List (List UInt8)} {many size : Nat} (h : l.length ≤ many) (h2 : ∀ x ∈ l, x.length ≤ size) : longB l many size = false := by
  have e1 : decide (l.length ≤ many) = true := decide_eq_true h
  have e2 : (l.take (many + 1)).all (fun x => decide (x.length ≤ size)) = true := List.all_eq_true.2 (fun x hx => decide_eq_true (h2 x (List.mem_of_mem_take hx)))
  unfold longB
  rw [e1, e2]; rfl
theorem longB_ok {l : List (List UInt8)} {many size : Nat} (h : longB l many size = false) : l.length ≤ many ∧ ∀ x ∈ l, x.length ≤ size := by
  unfold longB at h
  have h1 : ((l.take (many + 1)).all (fun x => decide (x.length ≤ size)) && decide (l.length ≤ many)) = true := by
    cases hb : ((l.take (many + 1)).all (fun x => decide (x.length ≤ size)) && decide (l.length ≤ many))
    · rw [hb] at h; cases h
    · rfl
  rw [Bool.and_eq_true] at h1
  have h2 := of_decide_eq_true h1.2
  have h3 := h1.1
  rw [List.take_of_length_le (by omega)] at h3
  exact ⟨h2, fun x hx => of_decide_eq_true (List.all_eq_true.1 h3 x hx)⟩
set_option maxHeartbeats 2000000 in
theorem longLists_calls (A : Option Addr) (c : Nat) (l : List (List UInt8)) (many size : Nat) (B : Nat) (w : World) (h : SLB w B A l) (hn : l.length ≤ 9223372036854775807) (hm : many ≤ 1000) (_hs : size ≤ 100000) :
    Calls Tryd.prog 33 #[.slice A l.length c, .int .i64 (many : Int), .int .i64 (size : Int)] w fun e w' => e = .returned (.bool (longB l many size)) ∧ w = w' := by
  have HH := hid h
  clear h
  go_enter Tryd.func33, Tryd.ntmps33
  go_wp2_with fail
  go_loop [7] (fun i => ∃ k : Nat, k ≤ l.length ∧ k ≤ many + 1 ∧ i = .int .i64 (k : Int) ∧ Hid (∀ j x, j < k → l[j]? = some x → x.length ≤ size)) (fun i => l.length - (intOf i).toNat)
  case atStart => exact ⟨0, Nat.zero_le _, by omega, rfl, hid (fun j x hj => absurd hj (by omega))⟩
  case round =>
    obtain ⟨k, hk, hkm, rfl, HF⟩ := hrel
    by_cases hlt : k < l.length
    · by_cases hkm2 : k ≤ many
      · obtain ⟨b, off, A', c', x, rfl, -, hx, hc, -, -, hxm⟩ := HH.out.at_ hlt
        have HX := hid hx
        clear hx
        have HTR := hid (fun hs => longB_at (l := l) (many := many) (size := size) (j := k) (x := x) hkm2 HX.out hs)
        have HNX := hid (show x.length ≤ size → ∀ j y, j < k + 1 → l[j]? = some y → y.length ≤ size from fun hxs j y hj hy => by
          by_cases e : j = k
          · subst e
            rw [HX.out] at hy; cases hy; exact hxs
          · exact HF.out j y (by omega) hy)
        clear HX HF
        generalize x.length = m at hc hxm HNX HTR
        have q1 : (k : Int) < (l.length : Int) := by omega
        have q2 : (k : Int) ≤ (many : Int) := by omega
        have q3 : decide ((k : Int) < (l.length : Int)) = true := by simp; omega
        by_cases hms : size < m
        · have q4 : (size : Int) < (m : Int) := by omega
          go_wp2_with fail
          go_ret
          exact ⟨by rw [HTR.out hms]; rfl, rfl⟩
        · have q4 : ¬ (size : Int) < (m : Int) := by omega
          go_wp2_with fail
          go_round
          case rel => exact ⟨k + 1, by omega, by omega, by go_num, hid (HNX.out (by omega))⟩
          case measure => simp [intOf]; omega
      · have q1 : (k : Int) < (l.length : Int) := by omega
        have q2 : ¬ (k : Int) ≤ (many : Int) := by omega
        have q3 : decide ((k : Int) < (l.length : Int)) = true := by simp; omega
        have q5 : (many : Int) < (l.length : Int) := by omega
        have HMN := hid (longB_many (l := l) (many := many) (size := size) (by omega))
        go_wp2_with fail
        go_ret
        exact ⟨by rw [HMN.out]; rfl, rfl⟩
    · obtain rfl : k = l.length := by omega
      have q3 : decide ((l.length : Int) < (l.length : Int)) = false := by simp
      by_cases hmm : many < l.length
      · have q5 : (many : Int) < (l.length : Int) := by omega
        have HMN := hid (longB_many (l := l) (many := many) (size := size) hmm)
        go_wp2_with fail
        go_ret
        exact ⟨by rw [HMN.out]; rfl, rfl⟩
      · have q5 : ¬ (many : Int) < (l.length : Int) := by omega
        have HMN := hid (longB_no (l := l) (many := many) (size := size) (by omega) (fun x hx => by
          obtain ⟨j, hj, rfl⟩ := List.mem_iff_getElem.1 hx
          exact HF.out j _ hj (List.getElem?_eq_getElem hj)))
        go_wp2_with fail
        go_ret
        exact ⟨by rw [HMN.out]; rfl, rfl⟩
end Go.Proofs.YtoogaapjdlhpbaaDoor
/- A slice of slices of bytes that came in. -/
namespace Go.Proofs.YtoogaapjdlhpbaaDoor
open Go.ChangeShapes Go.WideShapes Go.ChangeAt Go.RowKit Go.Deep

theorem row_open {H : Type} {enc : TypeId × Value → H} {W : World} {fuel : Nat} {cs : List Value} {y : DataW H × List MemPlace} (h : DataW.trod enc Tryd.prog W 0 (fun _ => true) true fuel 33 cs = some y) :
    ∃ (bs : List UInt8) (A : Option Addr) (c : Nat), cs = [.slice A bs.length c] ∧ SB W W.heap.size A bs.length bs ∧ bs.length ≤ c ∧ bs.length ≤ 9223372036854775807 := by
  rcases open_ints Tryd.underlying33 Tryd.underlying5 (by kernel_rfl) h with ⟨hcs, _⟩ | ⟨x, l, c, zs, hcs, _, hl, hm, hz, _, hcell, hwz⟩
  · exact ⟨[], none, 0, hcs, SB.nil _ _ _, Nat.le_refl _, Nat.zero_le _⟩
  · obtain ⟨bs, hs, hlc⟩ := IsRow.bytes (w := W) (a := some x) (len := l) (cap := c) (zs := zs) (.inr ⟨_, rfl, hl, hm, by simpa using hz, hcell, hwz⟩)
    have hm' : c ≤ 2 ^ 63 - 1 := hm
    have hlen := hs.1
    subst hlen
    exact ⟨bs, _, _, hcs, hs, hlc, by omega⟩
set_option maxRecDepth 20000 in
theorem lists_open {H : Type} {enc : TypeId × Value → H} {W : World} {n c : Nat} {A : Option Addr} {d : DataW H} {p : List MemPlace}
    (h : DataW.Trod enc Tryd.prog W 0 (fun _ => true) true 63 (.slice A n c) d p) : ∃ l : List (List UInt8), l.length = n ∧ SLB W W.heap.size A l ∧ n ≤ 9223372036854775807 := by
  have cT : Tryd.prog.cellsOf 33 = 1 := by kernel_rfl
  obtain ⟨fuel, hf⟩ := h
  rcases open_slice Tryd.underlying63 hf with ⟨hcs, _⟩ | ⟨a, len, cap, m, nn, D, Pl, hcs, _, hle, hmax, hm, _, hx⟩
  · simp [Value.cells] at hcs
    obtain ⟨rfl, rfl, rfl⟩ := hcs
    exact ⟨[], rfl, ⟨[], rfl, fun h => absurd h (by simp), fun k x u h => by simp at h⟩, Nat.zero_le _⟩
  · simp [Value.cells] at hcs
    obtain ⟨rfl, rfl, rfl⟩ := hcs
    rw [cT] at hx
    have hmc : m = c := by simpa using hm
    obtain ⟨f, hfs⟩ := choose_lt (α := List UInt8 × Option Addr × Nat) (n := n) (p := fun i t => W.cell? (a.add i) = some (.slice t.2.1 t.1.length t.2.2) ∧ SB W W.heap.size t.2.1 t.1.length t.1 ∧ t.1.length ≤ t.2.2 ∧ t.1.length ≤ 9223372036854775807) (fun i hi => by
      obtain ⟨cs', h1, h2⟩ := hx i (by omega)
      obtain ⟨_, hlen, hcell⟩ := World.cells?_some h1
      obtain ⟨bs, A', c', rfl, hs, hlc, hlm⟩ := row_open h2
      refine ⟨(bs, A', c'), ?_, hs, hlc, hlm⟩
      have := hcell 0 (by omega)
      rw [add_add] at this
      simpa using this)
    have hm' : c ≤ 2 ^ 63 - 1 := hmax
    refine ⟨(List.range n).map fun i => (f i).1, by simp, ⟨(List.range n).map fun i => .slice (f i).2.1 (f i).1.length (f i).2.2, by simp, fun hn => ?_, fun k x u hx hu => ?_⟩, by omega⟩
    · have hn0 : 0 < n := by simpa using hn
      have h0 := (hfs 0 hn0).1
      have hspot : a.spot = none := by simpa [Addr.add] using World.cell?_spot h0
      obtain ⟨b, off, spot⟩ := a
      simp only at hspot
      subst hspot
      have hlt : b < W.heap.size := by
        have := lt_of_cell h0
        simpa [Addr.add] using this
      refine ⟨b, off, rfl, hlt, fun j u hj => ?_⟩
      rw [List.getElem?_map] at hj
      obtain ⟨i, hi, rfl⟩ := Option.map_eq_some_iff.1 hj
      obtain ⟨hlt2, rfl⟩ := List.getElem?_eq_some_iff.1 hi
      have hjn : j < n := by simpa using hlt2
      have := (hfs j hjn).1
      rw [Addr.add_lit] at this
      simpa using this
    · rw [List.getElem?_map] at hx hu
      obtain ⟨i, hi, rfl⟩ := Option.map_eq_some_iff.1 hx
      rw [hi] at hu
      obtain rfl : Value.slice (f i).2.1 (f i).1.length (f i).2.2 = u := by simpa using hu
      obtain ⟨hlt2, hii⟩ := List.getElem?_eq_some_iff.1 hi
      have hkn : k < n := by simpa using hlt2
      have hik : i = k := by simpa using hii.symm
      subst hik
      obtain ⟨-, q2, q3, q4⟩ := hfs i hkn
      exact ⟨_, _, rfl, q2, q3, q4⟩
end Go.Proofs.YtoogaapjdlhpbaaDoor
