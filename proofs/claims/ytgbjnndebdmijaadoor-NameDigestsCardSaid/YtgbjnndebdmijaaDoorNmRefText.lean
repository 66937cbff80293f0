/- Contract: the reference's Text: the head and the digits. -/
import Derived.Test.YtgbjnndebdmijaaDoorNmText
import Derived.Test.YtgbjnndebdmijaaDoorShaBytes
import Derived.Deep.RegionLawGrows
namespace Go.Proofs.YtgbjnndebdmijaaDoor
open Go.RowKit Crc
attribute [local go_sem] n_lo4
theorem bcells_at {l : List UInt8} {i : Nat} {x : UInt8} (h : l[i]? = some x) : (bcells l)[i]? = some (.int .u8 (x.toNat : Int)) := by simp [bcells, h, bv]
theorem n_div4 (b : UInt8) : (b.toNat : Int) / (16 : Int) = ((hi4 b : Nat) : Int) := by unfold hi4; omega
theorem n_mod4 (b : UInt8) : (b.toNat : Int) % (16 : Int) = ((lo4 b : Nat) : Int) := by unfold lo4; omega
theorem n_tdiv4 (b : UInt8) : (b.toNat : Int).tdiv (16 : Int) = ((hi4 b : Nat) : Int) := by rw [Int.tdiv_eq_ediv_of_nonneg (by omega), n_div4]
theorem n_tmod4 (b : UInt8) : (b.toNat : Int).tmod (16 : Int) = ((lo4 b : Nat) : Int) := by rw [Int.tmod_eq_emod_of_nonneg (by omega), n_mod4]
attribute [local go_sem] n_div4 n_mod4 n_tdiv4 n_tmod4

/-- how the text stands behind j bytes: at first it is the literal, which has no room -/
def RText (base : Nat) (l : List UInt8) (wr : World) (j c : Nat) (A : Option Addr) : Prop :=
  (j = 0 ∧ c = 7 ∧ SB wr wr.heap.size A 7 headL) ∨ Own wr base 5 (.slice A (7 + 2 * j) c) (7 + 2 * j) (textH (l.take j))
set_option maxHeartbeats 4000000 in
set_option maxRecDepth 100000 in
theorem refText_calls (l : List UInt8) (hl : l.length = 32) (w : World) :
    Calls Tryd.prog 8 #[.agg (bcells l)] w fun e w' => e = .returned (.string (strB (textH l))) ∧ Below w.heap.size w w' := by
  have K1 := hid (Blk.new w 23 (bcells l))
  have B1 := hid (below_new w (.cells (bcells l) 23))
  have HL := hid hl; clear hl
  go_enter Tryd.func8, Tryd.ntmps8
  go_wp2_with fail
  rw [show w.heap.size + 1 = (w.alloc (.cells (bcells l) 23)).heap.size from (size_new _ _).symm]
  generalize w.alloc (.cells (bcells l) 23) = w1 at K1 B1 ⊢
  refine upon_text w1 42 5 Tryd.underlying42 Tryd.underlying5 _ headL rfl 7 rfl ?_
  intro w2 s2 b2
  have HR := hid (show RText w.heap.size.succ l w2 0 7 (some ⟨w1.heap.size, 0, none⟩) from .inl ⟨rfl, rfl, s2.fit⟩)
  have B2 := hid (B1.out.trans (b2.mono B1.out.size))
  have K2 := hid (K1.out.keep b2)
  have hbs0 : w.heap.size < w2.heap.size := K2.out.lt
  clear b2 s2 K1 B1
  generalize w1.heap.size = g1 at HR ⊢
  go_wp2_with fail
  go_loopw [3, 4] (fun v i wr => ∃ (j : Nat) (A' : Option Addr) (c' : Nat), j ≤ 32 ∧ i = .int .i64 (j : Int) ∧ v = .slice A' (7 + 2 * j) c' ∧ Hid (RText w.heap.size.succ l wr j c' A') ∧ Hid (Below w.heap.size w wr) ∧ Hid (Blk wr w.heap.size 23 (bcells l)) ∧ w.heap.size < wr.heap.size) (fun _ i _ => 32 - (intOf i).toNat)
  case atStart => exact ⟨0, _, _, by omega, rfl, rfl, HR, B2, K2, hbs0⟩
  case round =>
    clear HR B2 K2 hbs0
    obtain ⟨j, A', c', hj, rfl, rfl, HR, HB, K, hbs⟩ := hrel
    by_cases hlt : j < 32
    · have hjl : j < l.length := by rw [HL.out]; exact hlt
      have hx : l[j]? = some l[j] := List.getElem?_eq_getElem hjl
      have htk := textH_take l j _ hx
      have c0 := K.out.cell j (bcells_at hx)
      generalize l[j] = x at htk hx c0
      clear hx hjl
      have r1 := run_hex (hi4 x) (hi4_lt x)
      have r2 := run_hex (lo4 x) (lo4_lt x)
      have u1 : IntKind.u8.wrap ((hi4 x : Nat) : Int) = ((hi4 x : Nat) : Int) := by
        have h : ((hi4 x : Nat) : Int) % 256 = ((hi4 x : Nat) : Int) := by have := hi4_lt x; omega
        exact h
      have u2 : IntKind.u8.wrap ((lo4 x : Nat) : Int) = ((lo4 x : Nat) : Int) := by
        have h : ((lo4 x : Nat) : Int) % 256 = ((lo4 x : Nat) : Int) := by have := lo4_lt x; omega
        exact h
      have HT := hid htk; clear htk
      have q0 : (j : Int) < 32 := by omega
      have p0 : (0 : Int) ≤ (j : Int) := by omega
      have S3 := hid (lit_sb wr 5 (two x) #[.int .u8 ((dgs (hi4 x)).toNat : Int), .int .u8 ((dgs (lo4 x)).toNat : Int)] 2 rfl rfl)
      have B3 := hid (below_new wr (.cells #[.int .u8 ((dgs (hi4 x)).toNat : Int), .int .u8 ((dgs (lo4 x)).toNat : Int)] 5))
      have HBs := hid (Nat.le_trans hbs B3.out.size)
      rcases HR.out with ⟨hj0, hc7, hsb⟩ | ho
      · obtain ⟨b, off, rfl, hbl, hcell⟩ := hsb.2 (by omega)
        have HC := hid hcell
        obtain ⟨b3, o3, e3, _, hc3⟩ := (S3.out.drew).2 (by omega)
        injection e3 with e3
        injection e3 with e3 e4 _
        subst e3 e4
        have HC3 := hid hc3
        have hbl2 : b < wr.heap.size := hbl
        have HCX := hid (show ∀ j u, (headL.map bv)[j]? = some u → ((wr.alloc (.cells #[.int .u8 ((dgs (hi4 x)).toNat : Int), .int .u8 ((dgs (lo4 x)).toNat : Int)] 5)).drew).cell? ((⟨b, off, none⟩ : Addr).add j) = some u from fun j u hu => by
          rw [List.getElem?_map] at hu
          obtain ⟨y, hy, rfl⟩ := Option.map_eq_some_iff.1 hu
          rw [Addr.add_lit]
          exact (B3.out.cell (p := ⟨b, off + j, none⟩) hbl2).trans (hcell j y hy))
        have HC3X := hid (show ∀ j u, ((two x).map bv)[j]? = some u → ((wr.alloc (.cells #[.int .u8 ((dgs (hi4 x)).toNat : Int), .int .u8 ((dgs (lo4 x)).toNat : Int)] 5)).drew).cell? ((⟨wr.heap.size, 0, none⟩ : Addr).add j) = some u from fun j u hu => by
          rw [List.getElem?_map] at hu
          obtain ⟨y, hy, rfl⟩ := Option.map_eq_some_iff.1 hu
          rw [Addr.add_lit]
          exact hc3 j y hy)
        obtain ⟨i5, hi5, hz5, hs5, hb5⟩ := info_parts (info5' : (Tryd.prog.info? 5).map (fun i => (i.zero, i.size, i.bytes)) = some (some (.int .u8 0), 1, 1))
        have HI5 := hid hi5; have HZ5 := hid hz5; have HSZ5 := hid hs5; have HB5 := hid hb5
        subst hj0 hc7
        clear hsb hcell hj hlt q0 p0 hbs HR hc3 HC hi5 hz5 hs5 hb5
        go_wp2_with fail
        go_region_law ((refine step_append_grows rfl (.tmp 11) (.tmp 22) 42 rfl 5 i5 (.int .u8 0) 1 1 Tryd.underlying42 HI5.out HZ5.out HSZ5.out HB5.out rfl (by omega) (some ⟨b, off, none⟩) 7 7 (headL.map bv) (by simp [Act.eval]) (fun h => by cases h) rfl (fun b' e => by cases e; exact HCX.out) ⟨wr.heap.size, 0, none⟩ 2 2 ((two x).map bv) (by simp [Act.eval]) rfl HC3X.out (oneCell_bytes _) (by omega) (by simp [maxLen]) (by omega) ?_); intro v4 w4 h4 g4)
        all_goals
          (skip
           have HB4 := hid (HB.out.trans ((B3.out.mono HB.out.size).drew.trans (below_of_grown g4 (Nat.le_trans HB.out.size B3.out.size) (fun g' e => by cases e))))
           have K4 := hid (((K.out.keep B3.out).drew).grown g4 (by simp))
           have hs4 : w.heap.size < w4.heap.size := Nat.lt_of_lt_of_le HBs.out g4.size
           have h5 : Own w4 w.heap.size.succ 5 v4 (7 + 2 * (0 + 1)) (textH (l.take (0 + 1))) := by rw [HT.out]; rw [← List.map_append] at h4; exact Own.lower h4 HBs.out
           obtain ⟨A4, c4, e4, _, _, _⟩ := h5.sb
           subst e4
           have H4 := hid (show RText w.heap.size.succ l w4 (0 + 1) c4 A4 from .inr h5)
           clear h4 h5 g4
           go_wp2_with fail
           go_roundw
           case rel => exact ⟨0 + 1, A4, c4, by omega, by go_num, rfl, H4, HB4, K4, hs4⟩
           case measure => simp [intOf])
      · have HO := hid ho
        have O3 := hid (ho.keep B3.out).drew
        clear ho HR hbs
        go_wp2_with fail
        go_region_law ((refine step_append_bytes _ rfl (.tmp 11) (.tmp 22) 42 rfl 5 Tryd.underlying42 info5' w.heap.size.succ (.slice A' (7 + 2 * j) c') (7 + 2 * j) (textH (l.take j)) (by simp [Act.eval]) O3.out (wr.heap.size + 1) (some ⟨wr.heap.size, 0, none⟩) 2 2 (two x) (by simp [Act.eval]) S3.out.drew (by omega) HBs.out ?_); intro v4 w4 h4 g4 t4)
        all_goals
          (clear t4
           have HB4 := hid (HB.out.trans ((B3.out.mono HB.out.size).drew.trans (below_of_grown g4 (Nat.le_trans HB.out.size B3.out.size) (fun g' e => by have := (O3.out.block g' e).1; omega))))
           have K4 := hid (((K.out.keep B3.out).drew).grown g4 (fun e => by have := (O3.out.block _ e).1; omega))
           have hs4 : w.heap.size < w4.heap.size := Nat.lt_of_lt_of_le HBs.out g4.size
           have h5 : Own w4 w.heap.size.succ 5 v4 (7 + 2 * (j + 1)) (textH (l.take (j + 1))) := by rw [HT.out]; rw [show 7 + 2 * (j + 1) = 7 + 2 * j + 2 by omega]; exact h4
           obtain ⟨A4, c4, e4, _, _, _⟩ := h5.sb
           subst e4
           have H4 := hid (show RText w.heap.size.succ l w4 (j + 1) c4 A4 from .inr h5)
           clear h4 h5 g4
           go_wp2_with fail
           go_roundw
           case rel => exact ⟨j + 1, A4, c4, by omega, by go_num, rfl, H4, HB4, K4, hs4⟩
           case measure => simp [intOf]; omega)
    · obtain rfl : j = 32 := by omega
      have q0 : ¬ ((32 : Nat) : Int) < 32 := by omega
      rcases HR.out with ⟨hj0, _⟩ | ho
      · omega
      · obtain ⟨A4, c4, e4, _, sb4, _⟩ := ho.sb
        cases e4
        have hst := run_str (P := Tryd.prog) sb4 c' 42 9 5 Tryd.underlying42 Tryd.underlying5 Tryd.underlying9
        rw [List.take_of_length_le (by rw [HL.out]; exact Nat.le_refl _)] at hst
        clear sb4 ho
        go_wp2_with fail
        go_ret
        exact ⟨rfl, HB.out⟩
end Go.Proofs.YtgbjnndebdmijaaDoor
