/- Contract: the project's Text: the head and the digits. -/
import Derived.Test.YtgbjnndebdmijaaDoorHex
import Derived.Test.YtgbjnndebdmijaaDoorNmIdMath
import Derived.Deep.AppendSrc
import Derived.Test.YtgbjnndebdmijaaDoorBlk
import Derived.Test.YtgbjnndebdmijaaDoorStr
import Derived.StillTailTactics
import Derived.BigQuiet
import Derived.Deep.QuietTactic
import Derived.Deep.RegionLaw
namespace Go.Proofs.YtgbjnndebdmijaaDoor
open Go.RowKit Crc
attribute [local go_sem] n_hi4 n_lo4

def hexS : ByteArray := strB hexL
theorem hex_at : ∀ k : Fin 16, (ByteArray.mk #[48, 49, 50, 51, 52, 53, 54, 55, 56, 57, 97, 98, 99, 100, 101, 102])[k.val]? = some (dgs k.val) := by decide +kernel
theorem run_hex (n : Nat) (h : n < 16) (w : World) : (Instr.index 9 (.string { data := #[48, 49, 50, 51, 52, 53, 54, 55, 56, 57, 97, 98, 99, 100, 101, 102] }) (.int .u8 (n : Int))).run Tryd.prog w = .ok (.int .u8 ((dgs n).toNat : Int)) w := by
  have hx := hex_at ⟨n, h⟩
  simp only at hx
  simp [Instr.index, run_underlying Tryd.underlying9, asIntOf, hx]

/-- a text behind an empty row that has room for it -/
theorem append_str {P : Program} (w : World) (t u ty e : TypeId) (ht : P.underlying t = some (.slice e)) (hu : P.underlying u = some .string) (he : (P.info? e).map (fun i => (i.zero, i.size, i.bytes)) = some (some (.int .u8 0), 1, 1))
    (base g cap : Nat) (ho : Own w base e (.slice (some ⟨g, 0, none⟩) 0 cap) 0 []) (s : ByteArray) (hs : s.size ≤ cap) (_hp : 0 < cap) :
    ∃ w', (Builtin.append_ #[t, u] ty #[.slice (some ⟨g, 0, none⟩) 0 cap, .string s]).run P w = .ok (.slice (some ⟨g, 0, none⟩) s.size cap) w' ∧ Own w' base e (.slice (some ⟨g, 0, none⟩) s.size cap) s.size s.data.toList ∧ w.grownBy w' (some g) := by
  obtain ⟨i, hi, hz, hsz, hby⟩ := info_parts he
  rcases ho.2 with ⟨h1, _⟩ | ⟨g', cap', cur, h1, hb, hh, hc, hm, hcs, _⟩
  · cases h1
  · injection h1 with h1 _ h2
    injection h1 with h1
    injection h1 with h1 _ _
    subst h1 h2
    have hl : (byteCells s).length = s.size := byteCells_length s
    have hst := run_storeCells_at P g 0 e (byteCells s) 0 cur w hh (by rw [hcs, hl]; omega) (fun v hv => by
      obtain ⟨_, _, rfl⟩ := List.mem_map.1 hv; rfl)
    simp only [Nat.zero_add, List.take_zero, List.nil_append] at hst
    have hS : Src P 1 u (.string s) s.size (byteCells s) w := Src.ofString w hu s
    refine ⟨w.setRow g (byteCells s ++ cur.toList.drop (byteCells s).length).toArray, ?_, ⟨?_, .inr ⟨g, cap, (byteCells s ++ cur.toList.drop (byteCells s).length).toArray, rfl, hb, setRow_heap w g cur _ e (0, 0) hh, hs, hm, ?_, ?_⟩⟩, grown_setRow _ _ _⟩
    · simp [Builtin.append_, run_underlying ht, run_underlying hu, sizeOf, typeInfo, hi, hsz, hS.len, hs, hS.cells, Addr.add_lit, hst]
    · simp
    · simp [hl, hcs]; omega
    · rw [Nat.mul_one, ← hl]
      simp [byteCells]
      intro a _
      rfl
theorem wpList_append_str {P : Program} {w : World} {ops : Array Oper} {rest : List Oper} {o : Oper} {a : Act} {Q : Exit → Act → World → Prop} (hgd : o.guard = none) (sl x : Operand) (t u : TypeId)
    (ho : o.op = .call { callee := .builtin .append, args := #[sl, x], argTypes := #[t, u] }) (e : TypeId) (ht : P.underlying t = some (.slice e)) (hu : P.underlying u = some .string) (he : (P.info? e).map (fun i => (i.zero, i.size, i.bytes)) = some (some (.int .u8 0), 1, 1))
    (base g cap : Nat) (hv : a.eval sl = .slice (some ⟨g, 0, none⟩) 0 cap) (hown : Own w base e (.slice (some ⟨g, 0, none⟩) 0 cap) 0 []) (s : ByteArray) (hx : a.eval x = .string s) (hs : s.size ≤ cap) (hp : 0 < cap)
    (h : ∀ w', Own w' base e (.slice (some ⟨g, 0, none⟩) s.size cap) s.size s.data.toList → w.grownBy w' (some g) → wpList P ops Q rest (a.put o.dst (.slice (some ⟨g, 0, none⟩) s.size cap)) w') :
    wpList P ops Q (o :: rest) a w := by
  refine wpList_plain hgd fun K hK => ?_
  obtain ⟨w', hr, h2, h3⟩ := append_str (P := P) w t u o.type e ht hu he base g cap hown s hs hp
  unfold Oper.wp execOp
  simp only [ho, resolve, invoke, builtin, Sem.run_bind, Sem.run_pure, Result.andThen_ok, List.map_toArray, List.map_cons, List.map_nil, hv, hx, hr]
  exact hK _ _ (h w' h2 h3)

def textH (l : List UInt8) : List UInt8 := headL ++ textB l
theorem textH_take (l : List UInt8) (i : Nat) (x : UInt8) (h : l[i]? = some x) : textH (l.take (i + 1)) = textH (l.take i) ++ two x := by
  unfold textH; rw [textB_take l i x h, List.append_assoc]
set_option maxHeartbeats 2000000 in
set_option maxRecDepth 100000 in
theorem text_calls (l : List UInt8) (hl : l.length = 32) (w : World) :
    Calls Tryd.prog 7 #[.agg (bcells l)] w fun e w' => e = .returned (.string (strB (textH l))) ∧ Below w.heap.size w w' := by
  have K1 := hid (Blk.new w 23 (bcells l))
  have B1 := hid (below_new w (.cells (bcells l) 23))
  have EC : Hid ((Tryd.prog.info? 23).map (·.size) = some (bcells l).size) := by rw [Hid, bcells_size, hl]; exact (zero_of_info info26).2
  have HL := hid hl; clear hl
  go_enter Tryd.func7, Tryd.ntmps7
  go_wp2_with (at_make; refine Held.go ?_)
  generalize w.alloc (.cells (bcells l) 23) = w1 at K1 B1 ⊢
  refine wpList_make_bytes _ rfl _ _ _ rfl _ Tryd.underlying42 info5' 71 71 rfl rfl rfl (by omega) ?_
  intro w2 o2 b2
  have K2 := hid (K1.out.keep b2)
  have B2 := hid (B1.out.trans (b2.mono B1.out.size))
  have O2 := hid (o2.lower K1.out.lt)
  clear b2 o2 K1 B1
  go_wp2_with (at_builtin; refine Held.go ?_)
  refine wpList_append_str rfl _ _ 42 9 rfl 5 Tryd.underlying42 Tryd.underlying9 info5' _ _ 71 rfl O2.out _ rfl (by decide) (by omega) ?_
  intro w3 o3 g3
  have ht0 : textH (l.take 0) = headL := by rw [List.take_zero]; rfl
  have O2b := hid o3
  have l1 : w.heap.size.succ ≤ w1.heap.size := (O2.out.block _ rfl).1
  have lO := hid l1
  have K2 := hid (K2.out.grown g3 (by simp only [ne_eq, Option.some.injEq]; omega))
  have B2 := hid (B2.out.trans (below_of_grown g3 B2.out.size (fun g' e => by cases e; omega)))
  have O2 := O2b
  clear o3 g3 l1
  go_wp2_with (refine wpList_load_blk rfl 23 _ rfl w.heap.size rfl 23 _ K2.out _ _ Tryd.underlying23 EC.out ?_)
  generalize w1.heap.size = g1 at O2 lO ⊢
  go_loopw [3, 10] (fun v i wr => ∃ (j : Nat) (A' : Option Addr) (c' : Nat), j ≤ 32 ∧ i = .int .i64 (j : Int) ∧ v = .slice A' (7 + 2 * j) c' ∧ Hid (Own wr w.heap.size.succ 5 (.slice A' (7 + 2 * j) c') (7 + 2 * j) (textH (l.take j))) ∧ Hid (Below w.heap.size w wr) ∧ w.heap.size < wr.heap.size) (fun _ i _ => 32 - (intOf i).toNat)
  case atStart => exact ⟨0, _, _, by omega, rfl, rfl, O2, B2, K2.out.lt⟩
  case round =>
    clear O2 B2 K2
    obtain ⟨j, A', c', hj, rfl, rfl, HO, HB, hbs⟩ := hrel
    by_cases hlt : j < 32
    · have hjl : j < l.length := by rw [HL.out]; exact hlt
      have hx : l[j]? = some l[j] := List.getElem?_eq_getElem hjl
      have htk := textH_take l j _ hx
      have hi := fun W => run_index_arr (P := Tryd.prog) 23 5 32 j .u8 (bcells l) (.int .u8 (l[j].toNat : Int)) Tryd.underlying23 Tryd.underlying5 (by kernel_rfl) hlt (by simp [bcells, hx, bv]) W
      generalize l[j] = x at hi htk hx
      clear hx hjl
      have r1 := run_hex (hi4 x) (hi4_lt x)
      have r2 := run_hex (lo4 x) (lo4_lt x)
      have HT := hid htk; clear htk
      have q0 : (j : Int) < 32 := by omega
      have p0 : (0 : Int) ≤ (j : Int) := by omega
      go_wp2_with fail
      clear hi
      have S3 := hid (lit_sb wr 5 (two x) #[.int .u8 ((dgs (hi4 x)).toNat : Int), .int .u8 ((dgs (lo4 x)).toNat : Int)] 2 rfl rfl)
      have B3 := hid (below_new wr (.cells #[.int .u8 ((dgs (hi4 x)).toNat : Int), .int .u8 ((dgs (lo4 x)).toNat : Int)] 5))
      have hsz3 := B3.out.size
      have O3 := hid (HO.out.keep B3.out).drew
      have HBs := hid (Nat.le_trans hbs hsz3)
      clear hsz3 hbs
      go_region_law ((refine step_append_bytes _ rfl (.tmp 13) (.tmp 20) 42 rfl 5 Tryd.underlying42 info5' w.heap.size.succ (.slice A' (7 + 2 * j) c') (7 + 2 * j) (textH (l.take j)) (by simp [Act.eval]) O3.out (wr.heap.size + 1) (some ⟨wr.heap.size, 0, none⟩) 2 2 (two x) (by simp [Act.eval]) S3.out.drew (by omega) HBs.out ?_); intro v4 w4 h4 k4 t4)
      all_goals
        (rw [← HT.out] at h4
         have H4 := hid h4
         have HB4 := hid (HB.out.trans ((B3.out.mono HB.out.size).drew.trans (below_of_grown k4 (Nat.le_trans HB.out.size B3.out.size) (fun g' e => by have := (HO.out.block g' e).1; omega))))
         have hs4 : w.heap.size < w4.heap.size := Nat.lt_of_lt_of_le HBs.out k4.size
         obtain ⟨A4, c4, e4, _, _, _⟩ := h4.sb
         subst e4
         clear h4 k4 t4
         go_wp2_with fail
         go_roundw
         case rel => exact ⟨j + 1, A4, c4, by omega, by go_num, rfl, H4, HB4, hs4⟩
         case measure => simp [intOf]; omega)
    · obtain rfl : j = 32 := by omega
      have q0 : ¬ ((32 : Nat) : Int) < 32 := by omega
      obtain ⟨A4, c4, e4, _, sb4, _⟩ := HO.out.sb
      cases e4
      have hst := run_str (P := Tryd.prog) sb4 c' 42 9 5 Tryd.underlying42 Tryd.underlying5 Tryd.underlying9
      rw [List.take_of_length_le (by rw [HL.out]; exact Nat.le_refl _)] at hst
      clear sb4
      go_wp2_with fail
      go_ret
      exact ⟨rfl, HB.out⟩
end Go.Proofs.YtgbjnndebdmijaaDoor
