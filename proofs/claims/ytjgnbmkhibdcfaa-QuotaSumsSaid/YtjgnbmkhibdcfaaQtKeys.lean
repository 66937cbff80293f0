/- The keys of quota's maps: links, and names; their elements: sizes, and pointers. -/
import Derived.Test.YtjgnbmkhibdcfaaMapG
import Derived.Test.YtjgnbmkhibdcfaaShaBytes
import Derived.DataBytes
namespace Go.Proofs.Ytjgnbmkhibdcfaa
open Go.RowKit Go.WideElems Go.WideMaps

theorem mapM_each {α β : Type} {f : α → Option β} : ∀ {l : List α} {r : List β}, l.mapM f = some r → ∀ x ∈ l, ∃ y, f x = some y
  | [], _, _, x, hx => by cases hx
  | a :: l, r, h, x, hx => by
    rw [List.mapM_cons] at h
    simp only [bind, Option.bind_eq_some_iff, pure, Option.some.injEq] at h
    obtain ⟨y, hy, ys, hys, -⟩ := h
    rcases List.mem_cons.1 hx with rfl | hx
    · exact ⟨y, hy⟩
    · exact mapM_each hys x hx
def bvOf : Value → UInt8
  | .int _ n => UInt8.ofNat n.toNat
  | _ => 0
theorem qt_laid : laidOutB Try.prog = true := by kernel_rfl
theorem qt_law : WideMaps.KeyLaw Try.prog 71 := deep_law_laid qt_laid (m := 3) (by omega) (of_decide_eq_true (by kernel_rfl)) (by kernel_rfl) (by rw [Try.underlying71])
theorem qt_cells : Try.prog.cellsOf 32 = 32 := by kernel_rfl
theorem qt_cells8 : Try.prog.cellsOf 5 = 1 := by kernel_rfl
theorem qt_cellsS : Try.prog.cellsOf 9 = 1 := by kernel_rfl
theorem qt_cellsL : Try.prog.cellsOf 71 = 33 := by kernel_rfl
theorem qt_types : ∃ m, Try.prog.types.size = m + 2 := ⟨Try.prog.types.size - 2, by have : 1 < Try.prog.types.size := of_decide_eq_true (by kernel_rfl); omega⟩
theorem bv_wf (x : UInt8) : (Lit.int .u8 (x.toNat : Int)).wf = true := by
  have := x.toNat_lt
  have e1 : IntKind.u8.min = 0 := rfl
  have e2 : IntKind.u8.max = 255 := rfl
  simp [Lit.wf, e1, e2]
  omega
theorem bcells_inj {l l' : List UInt8} (h : bcells l = bcells l') : l = l' := by
  have h2 : l.map bv = l'.map bv := by simpa [bcells] using h
  refine (List.map_inj_right (fun x y hxy => ?_)).1 h2
  unfold bv at hxy
  simp only [Value.int.injEq, true_and] at hxy
  exact UInt8.toNat_inj.1 (by omega)
set_option maxRecDepth 20000 in
theorem id_lits (m : Nat) {l : List UInt8} (hl : l.length = 32) : ∃ r, Try.prog.keyLits (m + 2) 32 (l.map bv) = some r := by
  rw [← Option.isSome_iff_exists]
  unfold Program.keyLits
  rw [Try.underlying32]
  simp only [List.length_map, hl, qt_cells, if_true, Option.isSome_map, qt_cells8, Nat.mul_one]
  have : ∀ i ∈ List.range 32, (Try.prog.keyLits (m + 1) 5 (((l.map bv).drop i).take 1)) = some ([.int .u8 (((l.getD i 0).toNat : Nat) : Int)]) := fun i hi => by
    have hi' : i < l.length := by rw [hl]; exact List.mem_range.1 hi
    have e : ((l.map bv).drop i).take 1 = [bv (l.getD i 0)] := by
      rw [List.drop_eq_getElem_cons (by simpa using hi')]
      simp [List.getD, hi']
    rw [e]
    unfold Program.keyLits bv
    rw [Try.underlying5]
    simp [bv_wf]
  rw [mapM_some_of_forall _ this]
  rfl
set_option maxRecDepth 20000 in
theorem id_lits_inv (m : Nat) {cs : List Value} {r : List Lit} (h : Try.prog.keyLits (m + 2) 32 cs = some r) : ∃ l : List UInt8, l.length = 32 ∧ cs = l.map bv := by
  unfold Program.keyLits at h
  rw [Try.underlying32] at h
  simp only [qt_cells, qt_cells8, Nat.mul_one] at h
  by_cases hl : cs.length = 32
  · simp only [hl, if_true, Option.map_eq_some_iff] at h
    obtain ⟨r, hr, -⟩ := h
    have hall := mapM_each hr
    refine ⟨cs.map bvOf, by simpa using hl, ?_⟩
    rw [List.map_map]
    refine ((List.map_congr_left (g := fun x => x) (fun x hx => ?_)).trans (List.map_id' _)).symm
    obtain ⟨i, hi, rfl⟩ := List.mem_iff_getElem.1 hx
    obtain ⟨y, hy⟩ := hall i (List.mem_range.2 (by omega))
    have e : (cs.drop i).take 1 = [cs[i]] := by
      rw [List.drop_eq_getElem_cons hi]
      rfl
    rw [e] at hy
    unfold Program.keyLits at hy
    rw [Try.underlying5] at hy
    generalize cs[i] = z at hy ⊢
    cases z <;> simp at hy
    rename_i q n
    obtain ⟨⟨rfl, hw⟩, -⟩ := hy
    have e1 : IntKind.u8.min = 0 := rfl
    have e2 : IntKind.u8.max = 255 := rfl
    simp [Lit.wf, e1, e2] at hw
    show bv (UInt8.ofNat n.toNat) = _
    unfold bv
    have : (UInt8.ofNat n.toNat).toNat = n.toNat := by
      rw [UInt8.toNat_ofNat']
      omega
    rw [this]
    congr 1
    omega
  · rw [if_neg hl] at h
    cases h
/-- a link's key: a name and a digest -/
abbrev LKey := List UInt8 × List UInt8
def kcells (k : LKey) : Array Value := ⟨.string (strB k.1) :: k.2.map bv⟩
def kval (k : LKey) : Value := .agg (kcells k)
def kok (k : LKey) : Prop := k.1.length ≤ maxLen ∧ k.2.length = 32
theorem strB_size (l : List UInt8) : (strB l).size = l.length := by simp [strB, ByteArray.size]
theorem strB_inj {l l' : List UInt8} (h : strB l = strB l') : l = l' := by simpa [strB] using h
theorem kcells_size {k : LKey} (h : k.2.length = 32) : (kcells k).size = 33 := by simp [kcells, h]
theorem bcells_list (l : List UInt8) : (bcells l).toList = l.map bv := by simp [bcells]
set_option maxRecDepth 20000 in
theorem kval_some {k : LKey} (h : kok k) : (keyOf Try.prog 71 (kval k)).isSome = true := by
  obtain ⟨m, hm⟩ := qt_types
  unfold keyOf
  rw [Try.underlying71]
  have hkt : Try.prog.keyType 71 = true := by kernel_rfl
  have hf : (kval k).formed Try.prog 71 = true := by simp [kval, Value.formed, Try.underlying71, qt_cellsL, kcells_size h.2]
  simp only [hkt, hf, Bool.and_self, if_true, Option.isSome_map]
  unfold Program.keyLits
  rw [Try.underlying71, hm]
  have hc : (kval k).cells.toList = .string (strB k.1) :: k.2.map bv := rfl
  have h33 : (Value.string (strB k.1) :: k.2.map bv).length = Try.prog.cellsOf 71 := by simp [qt_cellsL, h.2]
  obtain ⟨r, hr⟩ := id_lits m h.2
  have hs : Try.prog.keyLits (m + 2) 9 [Value.string (strB k.1)] = some [.string (strB k.1).data.toList] := by
    unfold Program.keyLits
    rw [Try.underlying9]
    simp [strB_size, h.1]
  have ht : (k.2.map bv).take 32 = k.2.map bv := List.take_of_length_le (by simp [h.2])
  rw [hc]
  simp only [h33, true_and]
  simp [qt_cells, qt_cellsS, hs, ht, hr]
theorem kval_inj {k k' : LKey} (h : kval k = kval k') : k = k' := by
  have h1 : Value.string (strB k.1) = .string (strB k'.1) ∧ k.2.map bv = k'.2.map bv := by simpa [kval, kcells] using h
  have e1 : k.1 = k'.1 := strB_inj (by simpa using h1.1)
  have e2 : k.2 = k'.2 := bcells_inj (by unfold bcells; rw [h1.2])
  exact Prod.ext e1 e2
set_option maxRecDepth 20000 in
theorem kval_back {v : Value} {kl : Lit} (h : keyOf Try.prog 71 v = some kl) : ∃ k, kok k ∧ v = kval k := by
  obtain ⟨m, hm⟩ := qt_types
  unfold keyOf at h
  rw [Try.underlying71] at h
  simp only at h
  by_cases hc : (Try.prog.keyType 71 && v.formed Try.prog 71) = true
  · rw [if_pos hc] at h
    have hf : v.formed Try.prog 71 = true := by simp at hc; exact hc.2
    unfold Value.formed at hf
    rw [Try.underlying71] at hf
    cases v with
    | agg cs =>
      have hs : cs.size = 33 := by simpa [qt_cellsL] using hf
      rw [hm] at h
      simp only [Value.cells, Option.map_eq_some_iff] at h
      obtain ⟨ls, h, -⟩ := h
      obtain ⟨cl⟩ := cs
      obtain ⟨c0, rest, rfl⟩ : ∃ c0 rest, cl = c0 :: rest := by
        cases cl with
        | nil => simp at hs
        | cons a b => exact ⟨a, b, rfl⟩
      have hr : rest.length = 32 := by simpa using hs
      unfold Program.keyLits at h
      rw [Try.underlying71] at h
      have h33 : (c0 :: rest).length = Try.prog.cellsOf 71 := by simp [qt_cellsL, hr]
      have ht : rest.take 32 = rest := List.take_of_length_le (by omega)
      simp only [h33, true_and] at h
      cases hx : Try.prog.keyLits (m + 2) 9 [c0] with
      | none => simp [qt_cellsS, hx] at h
      | some x =>
      cases hz : Try.prog.keyLits (m + 2) 32 rest with
      | none => simp [qt_cellsS, qt_cells, hx, hz, ht] at h
      | some z =>
      obtain ⟨l, hl, rfl⟩ := id_lits_inv m hz
      unfold Program.keyLits at hx
      rw [Try.underlying9] at hx
      cases c0 <;> simp at hx
      rename_i s
      exact ⟨(s.data.toList, l), ⟨hx.1, hl⟩, rfl⟩
    | _ => simp at hf
  · rw [if_neg hc] at h
    cases h
/-- links as keys -/
def lkK : KeyK Try.prog 71 LKey where
  keyed := Maps.Keyed.of_law qt_law
  val := kval
  ok := kok
  isk := kval_some
  inj := fun _ _ h => kval_inj h
  inv := kval_back
/-- names as keys -/
def stK : KeyK Try.prog 9 (List UInt8) where
  keyed := Maps.string_keyed Try.underlying9
  val := fun l => .string (strB l)
  ok := fun l => l.length ≤ maxLen
  isk := fun h => by rw [keyOf_string_mk Try.underlying9 (by rw [strB_size]; exact h)]; rfl
  inj := fun _ _ h => strB_inj (by simpa using h)
  inv := fun h => by
    obtain ⟨s, rfl, -, hs⟩ := string_of_keyOf Try.underlying9 h
    exact ⟨s.data.toList, hs, rfl⟩
/-- a size -/
def szRd : Value → Option (DataW Unit × List MemPlace)
  | .agg ⟨[.int .i64 n]⟩ => some (.lit (.int .i64 n), [])
  | _ => none
def szK : ElemK Try.prog 81 Int where
  val := fun n => .agg #[.int .i64 n]
  zero := .agg #[.int .i64 0]
  hz := fun w => by kernel_rfl
  rd := szRd
  enc := fun n => .lit (.int .i64 n)
  made := fun _ => rfl
  inv := fun h => by
    unfold szRd at h
    split at h
    · cases h; exact ⟨_, rfl, rfl⟩
    · cases h
  inj := fun h => by simpa using h
  nn := fun _ h => by cases h
/-- a pointer to the front of a block -/
def ptRd : Value → Option (DataW Unit × List MemPlace)
  | .pointer (some ⟨b, 0, none⟩) => some (.lit (.int .i64 (b : Int)), [])
  | _ => none
def ptK : ElemK Try.prog 89 Nat where
  val := fun b => .pointer (some ⟨b, 0, none⟩)
  zero := .pointer none
  hz := fun w => by kernel_rfl
  rd := ptRd
  enc := fun b => .lit (.int .i64 (b : Int))
  made := fun _ => rfl
  inv := fun h => by
    unfold ptRd at h
    split at h
    · cases h; exact ⟨_, rfl, rfl⟩
    · cases h
  inj := fun h => by
    simp at h
    omega
  nn := fun _ h => by cases h
end Go.Proofs.Ytjgnbmkhibdcfaa
