/- Texts as records: rows of slices that a law made; a variadic list of texts. -/
import Derived.Test.YtgldhmmfofnmiaaVtApp
import Derived.Test.YtgldhmmfofnmiaaLgHas
import Derived.Lib.ConvBytes
import Derived.Test.YtgldhmmfofnmiaaDvNo
import Derived.Test.YtgldhmmfofnmiaaLgHelp
namespace Go.Proofs.Ytgldhmmfofnmiaa
open Go.RowKit

/-- a row of the call's own, of slices that are new -/
structure Txt (w : World) (base : Nat) (v : Value) (l : List (List UInt8)) (us : List Value) : Prop where
  row : w.ownsRow base 38 1 v l.length us
  each : ∀ (k : Nat) x u, l[k]? = some x → us[k]? = some u → ∃ b off c, u = .slice (some ⟨b, off, none⟩) x.length c ∧ base ≤ b ∧ SB w w.heap.size (some ⟨b, off, none⟩) x.length x ∧ x.length ≤ c ∧ v.ownBlock ≠ some b
section
variable {w w' : World} {base : Nat} {v : Value} {l : List (List UInt8)} {us : List Value}
theorem Txt.len (h : Txt w base v l us) : us.length = l.length := by have := h.row.1; omega
theorem Txt.nil (w : World) (base : Nat) : Txt w base (.slice none 0 0) [] [] := ⟨World.ownsRow_nil _ _ _ _, fun k x u h => by simp at h⟩
theorem SB.far {w w' : World} {b off n : Nat} {bs : List UInt8} {row : Option Nat} (h : SB w w.heap.size (some ⟨b, off, none⟩) n bs) (hg : w.grownBy w' row) (hne : row ≠ some b) : SB w' w'.heap.size (some ⟨b, off, none⟩) n bs :=
  ⟨h.1, fun hn => by
    obtain ⟨b', off', e, hlt, hc⟩ := h.2 hn
    cases e
    exact ⟨b, off, rfl, Nat.lt_of_lt_of_le hlt hg.size, fun j x hj => hg.cell (hc j x hj) (fun e => hne e.symm)⟩⟩
theorem Txt.keep (h : Txt w base v l us) (hb : Below w.heap.size w w') : Txt w' base v l us where
  row := World.ownsRow.kept h.row (grown_of_below hb none) (by
    rcases hv : v.ownBlock with _ | b
    · exact .inl rfl
    · exact .inr (fun e => by cases e))
  each := fun k x u hx hu => by
    obtain ⟨b, off, c, e, hbs, hs, hc, hv⟩ := h.each k x u hx hu
    exact ⟨b, off, c, e, hbs, hs.far (grown_of_below hb none) (fun e => by cases e), hc, hv⟩
/-- one more -/
theorem Txt.push {v' : Value} {x : List UInt8} {b off c : Nat} (h : Txt w base v l us) (hb : base ≤ b) (hs : SB w w.heap.size (some ⟨b, off, none⟩) x.length x) (hc : x.length ≤ c) (hf : v.ownBlock ≠ some b) (hlt : b < w.heap.size)
    (hr : w'.ownsRow base 38 1 v' (l.length + 1) (us ++ [.slice (some ⟨b, off, none⟩) x.length c])) (hg : w.grownBy w' v.ownBlock) (hm : v'.ownBlock = v.ownBlock ∨ v'.ownBlock = some w.heap.size)
    (hlt2 : ∀ u ∈ us, ∀ b, u.ownBlock = some b → b < w.heap.size) : Txt w' base v' (l ++ [x]) (us ++ [.slice (some ⟨b, off, none⟩) x.length c]) where
  row := by simpa using hr
  each := fun k y z hy hz => by
    rw [List.getElem?_append] at hy hz
    have hlen := h.len
    by_cases hk : k < l.length
    · rw [if_pos hk] at hy
      rw [if_pos (by omega)] at hz
      obtain ⟨b', off', c', e, hbs, hs', hc', hv⟩ := h.each k y z hy hz
      refine ⟨b', off', c', e, hbs, hs'.far hg hv, hc', fun e2 => ?_⟩
      rcases hm with hm | hm
      · exact hv (hm ▸ e2)
      · have := hlt2 z (List.mem_of_getElem? hz) b' (by rw [e]; rfl)
        rw [hm] at e2
        cases e2
        omega
    · rw [if_neg hk] at hy
      rw [if_neg (by omega)] at hz
      have e1 : k - l.length = 0 := by
        have := (List.getElem?_eq_some_iff.1 hy).1
        simp at this; omega
      have e2 : k - us.length = 0 := by omega
      rw [e1] at hy
      rw [e2] at hz
      cases hy; cases hz
      refine ⟨b, off, c, rfl, hb, hs.far hg hf, hc, fun e2 => ?_⟩
      rcases hm with hm | hm
      · exact hf (hm ▸ e2)
      · rw [hm] at e2
        cases e2
        omega
theorem Txt.sl (h : Txt w base v l us) : ∃ A c, v = .slice A l.length c ∧ SL w A l ∧ l.length ≤ c := by
  have hrow := h.row
  rcases h.row.2 with ⟨rfl, h0⟩ | ⟨g, cap, cur, rfl, _, _, hle, _⟩
  · have : l = [] := List.eq_nil_of_length_eq_zero h0
    subst this
    exact ⟨none, 0, rfl, SL.nil _ _, Nat.le_refl _⟩
  · exact ⟨some ⟨g, 0, none⟩, cap, rfl, ⟨us, h.len, fun _ => ⟨g, 0, rfl, fun j u hj => by
      have := World.ownsRow.cells hrow (g := g) rfl j u hj
      rwa [Addr.add_lit] at this⟩, fun k x u hx hu => by
        obtain ⟨b, off, c, e, -, hs, hc, -⟩ := h.each k x u hx hu
        exact ⟨_, _, c, e, hs, hc⟩⟩, hle⟩
theorem Txt.lst (h : Txt w base v l us) (F : List Nat) (hF : ∀ b ∈ F, b < base) : ∃ A c, v = .slice A l.length c ∧ LstB w F A l := by
  have hrow := h.row
  have hlt := World.ownsRow.lt h.row
  rcases h.row.2 with ⟨rfl, h0⟩ | ⟨g, cap, cur, rfl, _, _, hle, _⟩
  · have : l = [] := List.eq_nil_of_length_eq_zero h0
    subst this
    exact ⟨none, 0, rfl, LstB.nil _ _ _⟩
  · refine ⟨some ⟨g, 0, none⟩, cap, rfl, us, h.len, fun _ => ⟨g, 0, rfl, (hlt g rfl).2, fun hm => ?_, fun j u hj => ?_⟩, fun k x u hx hu => ?_⟩
    · have h1 := hF g hm
      have h2 := (hlt g rfl).1
      omega
    · have := World.ownsRow.cells hrow (g := g) rfl j u hj
      rwa [Addr.add_lit] at this
    · obtain ⟨b, off, c, e, hb, hs, hc, -⟩ := h.each k x u hx hu
      exact ⟨_, c, e, hs, hc, fun b' off' _ e2 hm => by
        cases e2
        have := hF b hm
        omega⟩
end
/-- a text as bytes: a new row -/
theorem wpList_text_bytes {P : Program} {w : World} {ops : Array Oper} {rest : List Oper} {o : Oper} {a : Act} {Q : Exit → Act → World → Prop} (hgd : o.guard = none) (src dst e : TypeId) (x : Operand) (ho : o.op = .convert src dst x)
    (hs : P.underlying src = some .string) (hd : P.underlying dst = some (.slice e)) (he : P.underlying e = some (.int .u8)) (cs : List UInt8) (hx : a.eval x = .string (strB cs))
    (h : ∀ w' c, Below w.heap.size w w' → w'.heap.size = w.heap.size + 1 → SB w' w'.heap.size (some ⟨w.heap.size, 0, none⟩) cs.length cs → cs.length ≤ c → wpList P ops Q rest (a.put o.dst (.slice (some ⟨w.heap.size, 0, none⟩) cs.length c)) w') : wpList P ops Q (o :: rest) a w := by
  refine wpList_plain hgd fun K hK => ?_
  have hr := Lib.run_convert_string_bytes (P := P) w src dst e (strB cs) hs hd he
  have hsz := Lib.bytesWorld_size w e (strB cs)
  unfold Oper.wp execOp
  simp only [ho, hx, Sem.run_bind, Sem.run_pure, Result.andThen_ok, hr]
  refine hK _ _ (h _ _ ⟨rfl, rfl, rfl, by omega, fun k hk => Lib.bytesWorld_at_old w e (strB cs) k hk⟩ hsz ⟨rfl, fun _ => ⟨w.heap.size, 0, rfl, by omega, fun j y hj => ?_⟩⟩ (grownCap_ge w cs.length 0 e))
  have hlt : j < cs.length := (List.getElem?_eq_some_iff.1 hj).1
  have := Lib.bytesWorld_cell w e (strB cs) j hlt
  rw [Nat.zero_add, this]
  simp [strB, List.getD, hj, bv]
/-- texts that are handed in -/
def StrS (w : World) (A : Option Addr) (l : List (List UInt8)) : Prop := 0 < l.length → ∃ b off, A = some ⟨b, off, none⟩ ∧ ∀ j x, l[j]? = some x → w.cell? ⟨b, off + j, none⟩ = some (.string (strB x))
theorem StrS.keep {w w' : World} {A : Option Addr} {l : List (List UInt8)} (h : StrS w A l) (hb : Below w.heap.size w w') : StrS w' A l := fun hl => by
  obtain ⟨b, off, e, hc⟩ := h hl
  exact ⟨b, off, e, fun j x hj => (hb.cell (p := ⟨b, off + j, none⟩) (lt_of_cell (hc j x hj))).trans (hc j x hj)⟩
theorem StrS.nil (w : World) (A : Option Addr) : StrS w A [] := fun h => absurd h (by simp)
theorem strs_new (w : World) (t : TypeId) (cs : Array Value) (l : List (List UInt8)) (hc : cs = (l.map fun x => Value.string (strB x)).toArray) : StrS (w.alloc (.cells cs t)) (some ⟨w.heap.size, 0, none⟩) l := fun _ => by
  subst hc
  exact ⟨w.heap.size, 0, rfl, fun j x hj => by
    rw [Nat.zero_add]
    exact (Blk.new w t _).cell j (by simp [hj])⟩
set_option maxHeartbeats 2000000 in
theorem texts_calls (A : Option Addr) (c : Nat) (l : List (List UInt8)) (w : World) (hl : StrS w A l) (hm : l.length ≤ 1000) :
    Calls Try.prog 9 #[.slice A l.length c] w fun e w' => ∃ v us, e = .returned v ∧ Txt w' w.heap.size v l us ∧ Below w.heap.size w w' := by
  have HL := hid hl
  clear hl
  go_enter Try.func9, Try.ntmps9
  go_wp2_with fail
  go_loopw [3, 4] (fun v3 i wr => ∃ (k : Nat) (us : List Value), i = .int .i64 (k : Int) ∧ k ≤ l.length ∧ Hid (Txt wr w.heap.size v3 (l.take k) us) ∧ Hid (Below w.heap.size w wr) ∧ Hid (∀ u ∈ us, ∀ b, u.ownBlock = some b → b < wr.heap.size)) (fun _ i _ => l.length - (intOf i).toNat)
  case atStart => exact ⟨0, [], rfl, Nat.zero_le _, hid (Txt.nil _ _), hid (Below.refl _ _), hid (fun u hu => by cases hu)⟩
  case round =>
    obtain ⟨k, us, rfl, hk, HT, HB, HU⟩ := hrel
    by_cases hlt : k < l.length
    · have hlt' : (k : Int) < (l.length : Int) := by omega
      obtain ⟨b, off, hA, hcs⟩ := (HL.out.keep HB.out) (by omega)
      subst hA
      obtain ⟨x, hxk⟩ : ∃ x, l[k]? = some x := ⟨l[k], List.getElem?_eq_getElem hlt⟩
      have hcx := hcs k x hxk
      have HTK := hid (show l.take (k + 1) = l.take k ++ [x] from by rw [List.take_add_one, hxk]; rfl)
      have hlen : (l.take k).length = k := by simp; omega
      clear hcs hxk
      go_wp2_with ((refine wpList_text_bytes rfl 9 38 5 _ rfl Try.underlying9 Try.underlying38 Try.underlying5 x rfl ?_); refine Held.go ?_)
      unfold Held
      intro w1 c1 hb1 hz1 hs1 hle1
      have HT1 := hid (HT.out.keep hb1); have HB1 := hid (HB.out.trans (hb1.mono HB.out.size)); have HS1 := hid hs1
      have HWR := hid (show w.heap.size ≤ wr.heap.size from HB.out.size)
      have HZ1 := hid hz1
      have HF1 := hid (show (u3 : Value).ownBlock ≠ some wr.heap.size from fun e => by have := (World.ownsRow.lt HT.out.row _ e).2; omega)
      have HU1 := hid (show ∀ u ∈ us, ∀ b, u.ownBlock = some b → b < w1.heap.size from fun u hu b e => Nat.lt_of_lt_of_le (HU.out u hu b e) hb1.size)
      clear hb1 hz1 hs1 HT HB HU hcx
      go_wp2_with (at_builtin; refine Held.go ?_)
      have hbn := below_new w1 (.cells #[Value.slice (some ⟨wr.heap.size, 0, none⟩) x.length c1] 38)
      have hone := cell_one_new w1 (Value.slice (some ⟨wr.heap.size, 0, none⟩) x.length c1) 38
      generalize w1.alloc (.cells #[Value.slice (some ⟨wr.heap.size, 0, none⟩) x.length c1] 38) = w2 at hbn hone ⊢
      have HT2 := hid (HT1.out.keep hbn); have HB2 := hid (HB1.out.trans (hbn.mono HB1.out.size))
      have HS2 := hid (show SB w2 w2.heap.size (some ⟨wr.heap.size, 0, none⟩) x.length x from HS1.out.far (grown_of_below hbn none) (fun e => by cases e))
      have HU2 := hid (show ∀ u ∈ us, ∀ b, u.ownBlock = some b → b < w2.heap.size from fun u hu b e => Nat.lt_of_lt_of_le (HU1.out u hu b e) hbn.size)
      have HLT := hid (show wr.heap.size < w2.heap.size from by have := HZ1.out; have := hbn.size; omega)
      obtain ⟨i0, hi, hz0, hz1, hz2⟩ := info_parts info_row
      refine wpList_append_own_at w2 rfl _ _ 31 rfl w.heap.size 38 i0 _ 1 24 Try.underlying31 hi hz0 hz1 hz2 rfl (by omega) u3 (l.take k).length us rfl HT2.out.row ⟨w1.heap.size, 0, none⟩ 1 1 [Value.slice (some ⟨wr.heap.size, 0, none⟩) x.length c1] rfl rfl hone (by simp [Value.oneCell']) (by simp [maxLen]; omega) (by omega) HB2.out.size ?_
      intro v8 w8 h8 hg8 _ hm8
      have HT8 := hid (HT2.out.push HWR.out HS2.out hle1 HF1.out HLT.out h8 hg8 (hm8.imp id (fun h => by rw [h])) HU2.out)
      have HB8 := hid (HB2.out.trans (below_of_grown hg8 HB2.out.size (fun b e => (World.ownsRow.lt HT2.out.row b e).1)))
      have HU8 := hid (show ∀ u ∈ us ++ [Value.slice (some ⟨wr.heap.size, 0, none⟩) x.length c1], ∀ b, u.ownBlock = some b → b < w8.heap.size from fun u hu b e => by
        rcases List.mem_append.1 hu with hu | hu
        · exact Nat.lt_of_lt_of_le (HU2.out u hu b e) hg8.size
        · obtain rfl := List.mem_singleton.1 hu
          cases e
          exact Nat.lt_of_lt_of_le HLT.out hg8.size)
      rw [← HTK.out] at HT8
      clear h8 hg8 hm8 hone hbn hi hz0 hz1 hz2 HT1 HB1 HS1 HT2 HB2 HS2 HU1 HU2 HF1
      go_wp2_with fail
      go_roundw
      case rel => exact ⟨k + 1, _, by go_num, by omega, HT8, HB8, HU8⟩
      case measure => simp [intOf]; omega
    · obtain rfl : k = l.length := by omega
      have HT2 := hid (show Txt wr w.heap.size u3 l us from by have h := HT.out; rw [List.take_length] at h; exact h)
      go_wp2_with fail
      go_ret
      exact ⟨_, us, rfl, HT2.out, HB.out⟩
end Go.Proofs.Ytgldhmmfofnmiaa
/- A vault that is nil, or that nobody made. -/
namespace Go.Proofs.Ytgldhmmfofnmiaa
open Go.RowKit

theorem vnone_valid (h : Value) (w : World) (hn : NoObj w h) : Calls Try.prog 33 #[h] w fun e w' => e = .returned (.bool false) ∧ w = w' := by
  rcases hn with rfl | ⟨g, rfl, hc⟩
  · go_enter Try.func33, Try.ntmps33
    go_wp2_with fail
    go_ret
    exact ⟨rfl, rfl⟩
  · have he := fun W => eql_none_ptr (P := Try.prog) W 23 42 (some ⟨g, 0, none⟩) Try.underlying23
    go_enter Try.func33, Try.ntmps33
    go_wp2_with fail
    go_ret
    exact ⟨rfl, rfl⟩
theorem vnone_state (h : Value) (w : World) (hn : NoObj w h) : Calls Try.prog 26 #[h] w fun e w' => e = .returned (.int .i64 1) ∧ w = w' := by
  have HV := hid (vnone_valid h w hn)
  clear hn
  go_enter Try.func26, Try.ntmps26
  go_wp2_with fail
  refine HV.out.mono ?_
  rintro _ _ ⟨rfl, rfl⟩
  go_wp2_with fail
  go_ret
  exact ⟨rfl, rfl⟩
theorem vnone_append (h : Value) (A : Option Addr) (n c : Nat) (w : World) (hn : NoObj w h) : Calls Try.prog 10 #[h, .slice A n c] w fun e w' => e = .returned (.int .i64 1) ∧ w = w' := by
  have HV := hid (vnone_state h w hn)
  clear hn
  go_enter Try.func10, Try.ntmps10
  go_wp2_with fail
  refine HV.out.mono ?_
  rintro _ _ ⟨rfl, rfl⟩
  go_wp2_with fail
  go_ret
  exact ⟨rfl, rfl⟩
theorem vnone_replace (h : Value) (A : Option Addr) (n c : Nat) (w : World) (hn : NoObj w h) : Calls Try.prog 8 #[h, .slice A n c] w fun e w' => e = .returned (.int .i64 1) ∧ w = w' := by
  have HV := hid (vnone_state h w hn)
  clear hn
  go_enter Try.func8, Try.ntmps8
  go_wp2_with fail
  refine HV.out.mono ?_
  rintro _ _ ⟨rfl, rfl⟩
  go_wp2_with fail
  go_ret
  exact ⟨rfl, rfl⟩
theorem vnone_records (h : Value) (w : World) (hn : NoObj w h) : Calls Try.prog 15 #[h] w fun e w' => e = .returned (.slice none 0 0) ∧ w = w' := by
  have HV := hid (vnone_valid h w hn)
  clear hn
  go_enter Try.func15, Try.ntmps15
  go_wp2_with fail
  refine HV.out.mono ?_
  rintro _ _ ⟨rfl, rfl⟩
  go_wp2_with fail
  go_ret
  exact ⟨rfl, rfl⟩
theorem vnone_gen (h : Value) (w : World) (hn : NoObj w h) : Calls Try.prog 11 #[h] w fun e w' => e = .returned (.int .i64 0) ∧ w = w' := by
  have HV := hid (vnone_valid h w hn)
  clear hn
  go_enter Try.func11, Try.ntmps11
  go_wp2_with fail
  refine HV.out.mono ?_
  rintro _ _ ⟨rfl, rfl⟩
  go_wp2_with fail
  go_ret
  exact ⟨rfl, rfl⟩
theorem vnone_free (h : Value) (w : World) (hn : NoObj w h) : Calls Try.prog 16 #[h] w fun e w' => e = .returned (.int .i64 0) ∧ w = w' := by
  have HV := hid (vnone_valid h w hn)
  clear hn
  go_enter Try.func16, Try.ntmps16
  go_wp2_with fail
  refine HV.out.mono ?_
  rintro _ _ ⟨rfl, rfl⟩
  go_wp2_with fail
  go_ret
  exact ⟨rfl, rfl⟩
theorem vnone_check0 (h : Value) (a : AR) (w : World) (hn : NoObj w h) : Calls Try.prog 49 #[h, arv a] w fun e w' => e = .returned (.int .i64 1) ∧ Below w.heap.size w w' := by
  obtain ⟨a0, a1, a2⟩ := a
  unfold arv
  dsimp only
  have HK := hid (below_new w (.cells #[.int .i64 a0, .int .i64 a1, .int .i64 a2] 40))
  have HS := hid (fun W (hW : Below w.heap.size w W) => nSize h W (hn.keep hW))
  clear hn
  go_enter Try.func49, Try.ntmps49
  go_wp2_with fail
  refine (HS.out _ HK.out).mono ?_
  rintro _ _ ⟨rfl, rfl⟩
  go_wp2_with fail
  go_ret
  exact ⟨rfl, HK.out⟩
theorem vnone_check (h : Value) (w : World) (hn : NoObj w h) : Calls Try.prog 19 #[h] w fun e w' => e = .returned (.int .i64 1) ∧ Below w.heap.size w w' := by
  have HC := hid (vnone_check0 h ⟨0, 8, 1⟩ w hn)
  unfold arv at HC
  dsimp only at HC
  clear hn
  go_enter Try.func19, Try.ntmps19
  go_wp2_with fail
  refine HC.out.mono ?_
  rintro _ w1 ⟨rfl, hb⟩
  have HB := hid hb
  clear hb HC
  go_wp2_with fail
  go_ret
  exact ⟨rfl, HB.out⟩
theorem vnone_open (h : Value) (w : World) (hn : NoObj w h) : Calls Try.prog 6 #[h] w fun e w' => e = .returned (.tuple #[.pointer none, .int .i64 1]) ∧ Below w.heap.size w w' := by
  have HC := hid (vnone_check h w hn)
  clear hn
  go_enter Try.func6, Try.ntmps6
  go_wp2_with fail
  refine HC.out.mono ?_
  rintro _ w1 ⟨rfl, hb1⟩
  have HB1 := hid hb1
  clear hb1 HC
  go_wp2_with fail
  go_ret2
  exact ⟨rfl, HB1.out⟩
theorem vnone_format (h : Value) (w : World) (hn : NoObj w h) : Calls Try.prog 17 #[h] w fun e w' => e = .returned (.int .i64 1) ∧ Below w.heap.size w w' := by
  obtain ⟨q, rfl⟩ : ∃ q, h = .pointer q := by rcases hn with rfl | ⟨g, rfl, _⟩ <;> exact ⟨_, rfl⟩
  have kb := Blk.new w 22 #[.pointer q]
  have bb := below_new w (.cells #[.pointer q] 22)
  have HC := hid (vnone_check (.pointer q) _ (hn.keep bb))
  have c0 : (w.alloc (.cells #[.pointer q] 22)).cell? ⟨w.heap.size, 0, none⟩ = some (.pointer q) := kb.cell 0 rfl
  have BB0 := hid bb
  clear hn kb bb
  go_enter Try.func17, Try.ntmps17
  go_wp2_with fail
  refine HC.out.mono ?_
  rintro _ w1 ⟨rfl, hb1⟩
  have HB1 := hid (BB0.out.trans (hb1.mono BB0.out.size))
  clear c0 hb1 HC BB0
  go_wp2_with fail
  go_ret
  exact ⟨rfl, HB1.out⟩
end Go.Proofs.Ytgldhmmfofnmiaa
/- The law's has. -/
namespace Go.Proofs.Ytgldhmmfofnmiaa
open Go.RowKit

/-- has a vault just these records, under that generation, with so many sectors left? -/
def hasV (s : DS) (vs : VS) (gen free : Int) (l : List (List UInt8)) : Bool := (vs.recs == l) && ((areaV s.n vs.gen).g == gen) && ((areaV s.n vs.gen).b - (areaV s.n vs.gen).a - vs.fin == free)
set_option maxHeartbeats 4000000 in
theorem vtHas_calls {base g v : Nat} {F : List Nat} {s : DS} {vs : VS} {rv : Value} {us : List Value} {w : World} (gen free : Int) (A : Option Addr) (c : Nat) (l : List (List UInt8)) (h : VauIn w base F g v s vs (ptrV v) rv us)
    (h1 : IntKind.i64.wrap ((areaV s.n vs.gen).b - (areaV s.n vs.gen).a) = (areaV s.n vs.gen).b - (areaV s.n vs.gen).a) (h2 : IntKind.i64.wrap ((areaV s.n vs.gen).b - (areaV s.n vs.gen).a - vs.fin) = (areaV s.n vs.gen).b - (areaV s.n vs.gen).a - vs.fin)
    (hm : vs.recs.length ≤ 1000000) (hx : ∀ x ∈ vs.recs, x.length ≤ 1048576) (hl : StrS w A l) (hll : l.length ≤ 1000) :
    Calls Try.prog 7 #[.pointer (some ⟨v, 0, none⟩), .int .i64 gen, .int .i64 free, .slice A l.length c] w fun e w' => e = .returned (.bool (hasV s vs gen free l)) ∧ Below w.heap.size w w' := by
  have HH := hid (show hasV s vs gen free l = ((vs.recs == l) && ((areaV s.n vs.gen).g == gen) && ((areaV s.n vs.gen).b - (areaV s.n vs.gen).a - vs.fin == free)) from rfl)
  rw [HH.out]
  have HR := hid (records_calls (h := h) (hm := hm) (hx := hx))
  have HT := hid (fun W (hW : Below w.heap.size w W) => texts_calls A c l W (hl.keep hW) hll)
  have hd := h.hd
  have HG := hid (fun W (hW : Below w.heap.size w W) => vGen_calls (h := hd.keep hW))
  have HF := hid (fun W (hW : Below w.heap.size w W) => vFree_calls (h := hd.keep hW) (h1 := h1) (h2 := h2))
  have HM := hid hm
  clear h h1 h2 hx hl hd hm HH
  generalize (areaV s.n vs.gen).b - (areaV s.n vs.gen).a - vs.fin = fr at HF ⊢
  generalize (areaV s.n vs.gen).g = ge at HG ⊢
  generalize vs.recs = R at HR HM ⊢
  go_enter Try.func7, Try.ntmps7
  go_wp2_with fail
  refine HR.out.mono ?_
  rintro _ w1 ⟨u1, us1, rfl, hr, hb1⟩
  obtain ⟨A1, q1, rfl, hsl1, -⟩ := hr.sl
  have HS1 := hid hsl1; have HB1 := hid hb1
  clear hr hsl1 hb1 HR
  go_wp2_with fail
  refine (HT.out _ HB1.out).mono ?_
  rintro _ w2 ⟨u2, us2, rfl, ht, hb2⟩
  obtain ⟨A2, q2, rfl, hsl2, -⟩ := ht.sl
  have HB2 := hid (HB1.out.trans (hb2.mono HB1.out.size))
  have HSL := hid (sameLists_calls A1 A2 R l q1 q2 w2 (HS1.out.keep hb2) hsl2 (by have := HM.out; omega))
  clear ht hsl2 hb2 HT HS1 HB1
  go_wp2_with fail
  refine HSL.out.mono ?_
  rintro _ w3 ⟨rfl, hb3⟩
  have HB3 := hid (HB2.out.trans (hb3.mono HB2.out.size))
  clear hb3 HSL HB2
  by_cases hE : R = l
  · have HE := hid (show (R == l) = true from by rw [hE]; simp)
    rw [HE.out]
    go_wp2_with fail
    refine (HG.out w3 HB3.out).mono ?_
    rintro _ _ ⟨rfl, rfl⟩
    by_cases hN : ge = gen
    · go_wp2_with fail
      refine (HF.out _ HB3.out).mono ?_
      rintro _ w4 ⟨rfl, hb4⟩
      have HB4 := hid (HB3.out.trans (hb4.mono HB3.out.size))
      clear hb4
      by_cases hK : fr = free
      · go_wp2_with fail
        go_ret
        exact ⟨by rw [hN, hK, hE]; simp, HB4.out⟩
      · go_wp2_with fail
        go_ret
        exact ⟨by simp [hE, hN], HB4.out⟩
    · go_wp2_with fail
      go_ret
      exact ⟨by simp [hE, hN], HB3.out⟩
  · have HE := hid (show (R == l) = false from by simpa using hE)
    rw [HE.out]
    go_wp2_with fail
    go_ret
    exact ⟨by simp [hE], HB3.out⟩
end Go.Proofs.Ytgldhmmfofnmiaa
/- The chapter's examples in the mathematics of a vault. -/
namespace Go.Proofs.Ytgldhmmfofnmiaa

def va0 : DS := startS 8
def va1 : DS := (formatR va0).1
def va2 : DS × VS × Nat := openR va1
def va3 : DS × VS × Nat := appendR va2.1 va2.2.1 [97, 98, 99]
theorem exv1 : (openR va0).2.2 = 23 := by decide +kernel
theorem exv2 : (formatR va0).2 = 0 := by decide +kernel
theorem exv3 : va2.2.2 = 0 := by decide +kernel
theorem exv4 : hasV va2.1 va2.2.1 2 3 [] = true := by decide +kernel
theorem exv5 : va3.2.2 = 0 := by decide +kernel
theorem exv6 : (appendR va3.1 va3.2.1 (List.replicate 100 0)).2.2 = 10 := by decide +kernel
theorem exv7 : hasV va3.1 va3.2.1 2 2 [[97, 98, 99]] = true := by decide +kernel
theorem exv8 : (openR va3.1).2.2 = 0 := by decide +kernel
theorem exv9 : hasV (openR va3.1).1 (openR va3.1).2.1 3 2 [[97, 98, 99]] = true := by decide +kernel
/-- VaultKnown's own steps behind one() -/
def vxyz : List (List UInt8) := [[120], [121], [122]]
def va4 : DS × VS × Nat := openR va3.1
def va5 : DS × VS × Nat := replaceR va4.1 va4.2.1 vxyz
def va6 : DS := fuseS va5.1 4
def va7 : DS × VS × Nat := replaceR va6 va5.2.1 []
def va8 : DS := crashD va7.1 [] 0
def va9 : DS × VS × Nat := openR va8
theorem exv10 : va5.2.2 = 0 := by decide +kernel
theorem exv11 : hasV va5.1 va5.2.1 4 0 vxyz = true := by decide +kernel
theorem exv12 : (appendR va5.1 va5.2.1 []).2.2 = 10 := by decide +kernel
theorem exv13 : (replaceR va5.1 va5.2.1 [[120], [121], [122], [117]]).2.2 = 10 := by decide +kernel
theorem exv14 : fuseE va5.1 4 = 0 := by decide +kernel
theorem exv15 : va7.2.2 = 22 := by decide +kernel
theorem exv16 : hasV va7.1 va7.2.1 4 0 vxyz = true := by decide +kernel
theorem exv17 : (appendR va7.1 va7.2.1 []).2.2 = 23 := by decide +kernel
theorem exv18 : va9.2.2 = 0 := by decide +kernel
theorem exv19 : hasV va9.1 va9.2.1 5 0 vxyz = true := by decide +kernel
end Go.Proofs.Ytgldhmmfofnmiaa
/- One vault and its device that a law made, and nothing else changed: the contracts in that form. -/
namespace Go.Proofs.Ytgldhmmfofnmiaa
open Go.RowKit

/-- Since w0 only new blocks have changed; some of them are a device and its vault. -/
def Vau1 (w0 w : World) (g v : Nat) (s : DS) (vs : VS) : Prop := Below w0.heap.size w0 w ∧ ∃ F rv us, VauIn w w0.heap.size F g v s vs (ptrV v) rv us
def fusedb (s : DS) : Bool := match s.fuse with | none => true | some k => decide (k < 9223372036854775808)
theorem fused_of {s : DS} (h : fusedb s = true) : Fused s := by
  intro k hk
  unfold fusedb at h
  rw [hk] at h
  exact of_decide_eq_true h
/-- what Open asks of a device -/
def openB (s : DS) : Bool := fusedb s && decide (s.loose.length ≤ 400000) && decide ((countR s).1 ≤ 2147483647)
/-- what Append and Replace ask of a vault -/
def vauB (s : DS) (vs : VS) : Bool := fusedb s && decide (s.loose.length ≤ 400000) && decide (vs.recs.length ≤ 1000000) && decide (0 ≤ vs.fin ∧ vs.fin ≤ 65536) && decide (vs.gen ≤ 2147483647) && decide (8 ≤ s.n) && (vs.recs.all fun x => decide (x.length ≤ 1048576))
theorem vauB_parts {s : DS} {vs : VS} (h : vauB s vs = true) : Fused s ∧ s.loose.length ≤ 400000 ∧ vs.recs.length ≤ 1000000 ∧ (0 ≤ vs.fin ∧ vs.fin ≤ 65536) ∧ vs.gen ≤ 2147483647 ∧ 8 ≤ s.n ∧ ∀ x ∈ vs.recs, x.length ≤ 1048576 := by
  unfold vauB at h
  simp only [Bool.and_eq_true, decide_eq_true_eq, List.all_eq_true] at h
  obtain ⟨⟨⟨⟨⟨⟨h1, h2⟩, h3⟩, h4⟩, h5⟩, h6⟩, h7⟩ := h
  exact ⟨fused_of h1, h2, h3, h4, h5, h6, h7⟩
section
variable {w0 w w1 : World} {g v : Nat} {s : DS} {vs : VS}
theorem Vau1.keep (h : Vau1 w0 w g v s vs) (hb : Below w.heap.size w w1) : Vau1 w0 w1 g v s vs := by
  obtain ⟨h0, F, rv, us, h1⟩ := h
  exact ⟨h0.trans (hb.mono h0.size), F, rv, us, h1.after (Chg.of_below hb) (h1.dev.keep hb) (fun _ hm => .inl hm) rfl⟩
theorem Vau1.dev (h : Vau1 w0 w g v s vs) : Dev1 w0 w g s := by
  obtain ⟨h0, F, rv, us, h1⟩ := h
  exact ⟨h0, F, h1.dev⟩
theorem v1_open_bad (h : Dev1 w0 w g s) (ho : openB s = true) (E : Nat) (he : (openR s).2.2 = E) (hE : E ≠ 0) :
    Calls Try.prog 6 #[.pointer (some ⟨g, 0, none⟩)] w fun e w' => e = .returned (.tuple #[.pointer none, .int .i64 (E : Int)]) ∧ Dev1 w0 w' g (openR s).1 := by
  unfold openB at ho
  simp only [Bool.and_eq_true, decide_eq_true_eq] at ho
  obtain ⟨hb, F, hd⟩ := h
  refine (open_calls w0.heap.size g F s w hd hb.size (fused_of ho.1.1) ho.1.2 ho.2 (fun a => Nat.le_trans (scanR_len s a hd.ok.nb) (by omega))).mono ?_
  rintro e w' ⟨pv, rfl, hat, hbad, -⟩
  rw [hbad (by omega), he]
  exact ⟨rfl, Dev1.of_at hb (fun b hb => (hd.lt b hb).1) hat⟩
theorem v1_open (h : Dev1 w0 w g s) (ho : openB s = true) (he : (openR s).2.2 = 0) :
    Calls Try.prog 6 #[.pointer (some ⟨g, 0, none⟩)] w fun e w' => ∃ v, e = .returned (.tuple #[.pointer (some ⟨v, 0, none⟩), .int .i64 0]) ∧ Vau1 w0 w' g v (openR s).1 (openR s).2.1 := by
  unfold openB at ho
  simp only [Bool.and_eq_true, decide_eq_true_eq] at ho
  obtain ⟨hb, F, hd⟩ := h
  refine (open_calls w0.heap.size g F s w hd hb.size (fused_of ho.1.1) ho.1.2 ho.2 (fun a => Nat.le_trans (scanR_len s a hd.ok.nb) (by omega))).mono ?_
  rintro e w' ⟨pv, rfl, -, -, hok⟩
  obtain ⟨v, rv, us, F', rfl, hle, hv, hch, -⟩ := hok he
  rw [he]
  exact ⟨v, rfl, hb.trans (hch.below (fun b hb => (hd.lt b hb).1) hb.size), F', rv, us, hv⟩
theorem v1_format (h : Dev1 w0 w g s) (hf : Fused s) (hl : s.loose.length ≤ 500000) :
    Calls Try.prog 17 #[.pointer (some ⟨g, 0, none⟩)] w fun e w' => e = .returned (.int .i64 ((formatR s).2 : Int)) ∧ Dev1 w0 w' g (formatR s).1 := by
  obtain ⟨hb, F, hd⟩ := h
  exact (format_calls w0.heap.size g F s w hd hb.size hf hl).mono fun e w' ⟨he, hat⟩ => ⟨he, Dev1.of_at hb (fun b hb => (hd.lt b hb).1) hat⟩
theorem v1_has (gen free : Int) (A : Option Addr) (c : Nat) (l : List (List UInt8)) (h : Vau1 w0 w g v s vs) (hv : vauB s vs = true) (hw : decide (IntKind.i64.wrap ((areaV s.n vs.gen).b - (areaV s.n vs.gen).a) = (areaV s.n vs.gen).b - (areaV s.n vs.gen).a ∧ IntKind.i64.wrap ((areaV s.n vs.gen).b - (areaV s.n vs.gen).a - vs.fin) = (areaV s.n vs.gen).b - (areaV s.n vs.gen).a - vs.fin) = true) (hl : StrS w A l) (hll : l.length ≤ 1000) :
    Calls Try.prog 7 #[.pointer (some ⟨v, 0, none⟩), .int .i64 gen, .int .i64 free, .slice A l.length c] w fun e w' => e = .returned (.bool (hasV s vs gen free l)) ∧ Vau1 w0 w' g v s vs := by
  have hk := h
  obtain ⟨hb, F, rv, us, h1⟩ := h
  obtain ⟨p1, p2, p3, p4, p5, p6, p7⟩ := vauB_parts hv
  have hw := of_decide_eq_true hw
  exact (vtHas_calls gen free A c l h1 hw.1 hw.2 p3 p7 hl hll).mono fun e w' ⟨he, hb'⟩ => ⟨he, hk.keep hb'⟩
theorem v1_append (A : Option Addr) (c : Nat) (rec : List UInt8) (h : Vau1 w0 w g v s vs) (hv : vauB s vs = true) (hb1 : Below w.heap.size w w1) (hs : SB w1 w1.heap.size A rec.length rec) (hc : rec.length ≤ c) (hne : 0 < rec.length → ∀ b off, A = some ⟨b, off, none⟩ → w.heap.size ≤ b) (hlen : rec.length ≤ 1000000) :
    Calls Try.prog 10 #[.pointer (some ⟨v, 0, none⟩), .slice A rec.length c] w1 fun e w' => e = .returned (.int .i64 ((appendR s vs rec).2.2 : Int)) ∧ Vau1 w0 w' g v (appendR s vs rec).1 (appendR s vs rec).2.1 := by
  have hlt : v < w.heap.size := by obtain ⟨_, F, rv, us, h1⟩ := h; exact h1.hd.lt
  have hF : ∃ F rv us, VauIn w w0.heap.size F g v s vs (ptrV v) rv us := h.2
  have hk := h.keep hb1
  obtain ⟨p1, p2, p3, p4, p5, p6, p7⟩ := vauB_parts hv
  obtain ⟨h0, F, rv, us, h1⟩ := h
  have h1' := h1.after (Chg.of_below hb1) (h1.dev.keep hb1) (fun _ hm => .inl hm) rfl
  have hb' := h0.trans (hb1.mono h0.size)
  refine (append_calls w0.heap.size g v F s vs rv us w1 A c rec h1' hb'.size hs hc (fun b off hp e hm => ?_) p1 p2 p3 p4 (by omega)).mono fun e w' ⟨he, F', rv', us', hv', hch, hF'⟩ => ⟨he, hb'.trans (hch.below (fun b hm => ?_) hb'.size), F', rv', us', hv'⟩
  · have := hne hp b off e
    rcases List.mem_cons.1 hm with rfl | hm
    · omega
    · have := (h1.dev.lt b hm).2; omega
  · rcases List.mem_cons.1 hm with rfl | hm
    · exact h1.hv
    rcases List.mem_append.1 hm with hm | hm
    · exact (World.ownsRow.lt h1.recs.row b (by simpa using hm)).1
    · exact (h1.dev.lt b hm).1
theorem v1_replace (A : Option Addr) (c : Nat) (l : List (List UInt8)) (h : Vau1 w0 w g v s vs) (hv : vauB s vs = true) (hb1 : Below w.heap.size w w1) (hl : ∀ F : List Nat, (∀ b ∈ F, b < w.heap.size) → LstB w1 F A l) (hm : l.length ≤ 1000000) :
    Calls Try.prog 8 #[.pointer (some ⟨v, 0, none⟩), .slice A l.length c] w1 fun e w' => e = .returned (.int .i64 ((replaceR s vs l).2.2 : Int)) ∧ Vau1 w0 w' g v (replaceR s vs l).1 (replaceR s vs l).2.1 := by
  obtain ⟨p1, p2, p3, p4, p5, p6, p7⟩ := vauB_parts hv
  obtain ⟨h0, F, rv, us, h1⟩ := h
  have h1' := h1.after (Chg.of_below hb1) (h1.dev.keep hb1) (fun _ hm => .inl hm) rfl
  have hb' := h0.trans (hb1.mono h0.size)
  refine (replace_calls w0.heap.size g v F s vs rv us w1 A c l h1' hb'.size (hl _ (fun b hm => ?_)) hm p1 p2 p6 p5).mono fun e w' ⟨he, F', rv', us', hv', hch, hF'⟩ => ⟨he, hb'.trans (hch.below (fun b hm => ?_) hb'.size), F', rv', us', hv'⟩
  · rcases List.mem_cons.1 hm with rfl | hm
    · exact h1.hd.lt
    · exact (h1.dev.lt b hm).2
  · rcases List.mem_cons.1 hm with rfl | hm
    · exact h1.hv
    · exact (h1.dev.lt b hm).1
theorem v1_fuse (n : Int) (h : Vau1 w0 w g v s vs) (hn : (fuseS s n).n = s.n) : Calls Try.prog 12 #[.pointer (some ⟨g, 0, none⟩), .int .i64 n] w fun e w' => e = .returned (.int .i64 (fuseE s n : Int)) ∧ Vau1 w0 w' g v (fuseS s n) vs := by
  obtain ⟨h0, F, rv, us, h1⟩ := h
  refine (dFuse_calls w0.heap.size g F s w n h0.size h1.dev).mono fun e w' hp => ?_
  obtain ⟨he, F', k1, k2, k3⟩ := hp
  exact ⟨he, h0.trans (k2.below (fun b hb => (h1.dev.lt b hb).1) h0.size), F', rv, us, h1.after k2 k1 k3 hn⟩
theorem v1_gen (h : Vau1 w0 w g v s vs) : Calls Try.prog 11 #[.pointer (some ⟨v, 0, none⟩)] w fun e w' => e = .returned (.int .i64 (areaV s.n vs.gen).g) ∧ w = w' := by
  obtain ⟨h0, F, rv, us, h1⟩ := h
  exact vGen_calls (h := h1.hd)
end
end Go.Proofs.Ytgldhmmfofnmiaa
/- The chapter's examples of a vault, walked: one, awake, VaultKnown. -/
namespace Go.Proofs.Ytgldhmmfofnmiaa
open Go.RowKit

theorem open0 : (openR va0).1 = va0 := by
  unfold openR
  rw [if_pos (by decide +kernel), if_neg (by decide +kernel)]
theorem append_full {s : DS} {vs : VS} {rec : List UInt8} (h1 : vs.broken = false) (h2 : ¬ 1048576 < rec.length) (h3 : freeV s.n vs < (needN rec.length : Int)) : appendR s vs rec = (s, vs, 10) := by
  unfold appendR
  rw [if_neg (by rw [h1]; exact Bool.false_ne_true), if_neg h2, if_pos h3]
theorem append_broken {s : DS} {vs : VS} {rec : List UInt8} (h1 : vs.broken = true) : appendR s vs rec = (s, vs, 23) := by
  unfold appendR
  rw [if_pos h1]
theorem full3 : appendR va3.1 va3.2.1 (List.replicate 100 0) = (va3.1, va3.2.1, 10) := append_full (by decide +kernel) (by simp) (by rw [List.length_replicate]; decide +kernel)
theorem ov0 : openB va0 = true := by decide +kernel
theorem ov1 : openB va1 = true := by decide +kernel
theorem ov3 : openB va3.1 = true := by decide +kernel
theorem vv2 : vauB va2.1 va2.2.1 = true := by decide +kernel
theorem vv3 : vauB va3.1 va3.2.1 = true := by decide +kernel
def wrapB (s : DS) (vs : VS) : Bool := decide (IntKind.i64.wrap ((areaV s.n vs.gen).b - (areaV s.n vs.gen).a) = (areaV s.n vs.gen).b - (areaV s.n vs.gen).a ∧ IntKind.i64.wrap ((areaV s.n vs.gen).b - (areaV s.n vs.gen).a - vs.fin) = (areaV s.n vs.gen).b - (areaV s.n vs.gen).a - vs.fin)
theorem wv2 : wrapB va2.1 va2.2.1 = true := by decide +kernel
theorem wv3 : wrapB va3.1 va3.2.1 = true := by decide +kernel
def abcV : List UInt8 := [97, 98, 99]
theorem str_one (w : World) (t : TypeId) : StrS (w.alloc (.cells #[.string (strB abcV)] t)) (some ⟨w.heap.size, 0, none⟩) [abcV] := strs_new w t _ [abcV] rfl

/-- make([]byte, n) under a guard that holds: noughts -/
theorem wpList_zeros_bytes_g {P : Program} (w : World) {ops : Array Oper} {rest : List Oper} {o : Oper} {a : Act} {Q : Exit → Act → World → Prop} (hgd : Region.wanted o (yielded ops a.tmps) = true) (l c : Operand) (t : TypeId) (ho : o.op = Op.makeSlice t l c)
    (e : TypeId) (ht : P.underlying t = some (.slice e)) (he : (P.info? e).map (fun i => (i.zero, i.size, i.bytes)) = some (some (.int .u8 0), 1, 1))
    (N : Int) (n : Nat) (hl : a.eval l = .int .i64 N) (hc : a.eval c = .int .i64 N) (hN : N = (n : Int)) (hn : n ≤ 1099511627776)
    (h : ∀ w', Own w' w.heap.size e (.slice (some ⟨w.heap.size, 0, none⟩) n n) n (List.replicate n 0) → Below w.heap.size w w' → wpList P ops Q rest (a.put o.dst (.slice (some ⟨w.heap.size, 0, none⟩) n n)) w') :
    wpList P ops Q (o :: rest) a w := by
  obtain ⟨i, hi, hz, hsz, hby⟩ := info_parts he
  refine wpList_step fun K hK => ?_
  rw [if_pos hgd]
  obtain ⟨w', hrun, r1, r2⟩ := run_make_full (P := P) w w.heap.size t e i _ 1 ht hi hz hsz .i64 .i64 n (by rw [hby]; omega) (by simp [maxLen]; omega) (Nat.le_refl _)
  subst hN
  unfold Oper.wp
  simp [execOp, ho, hl, hc, hrun, Result.andThen]
  refine hK _ _ (h w' ?_ (below_of_grown r2 (Nat.le_refl _) (fun g e => by cases e)))
  rw [show Value.cells (.int .u8 0) = #[Value.int .u8 0] from rfl, toList_madeCells_one, Nat.mul_one] at r1
  rw [Own, List.map_replicate]
  exact r1

set_option maxHeartbeats 4000000 in
set_option maxRecDepth 20000 in
theorem vone_calls (w0 w : World) (hb : Below w0.heap.size w0 w) : Calls Try.prog 5 #[] w fun e w' => ∃ g v, e = .returned (.tuple #[.pointer (some ⟨g, 0, none⟩), .pointer (some ⟨v, 0, none⟩)]) ∧ Vau1 w0 w' g v va3.1 va3.2.1 := by
  have HB := hid hb
  clear hb
  go_enter Try.func5, Try.ntmps5
  go_wp2_with fail
  refine (d1_new w0 8 w HB.out (by omega) (by omega)).mono ?_
  rintro _ w1 ⟨g, rfl, h⟩
  have H := hid (show Dev1 w0 w1 g va0 from h)
  clear h HB
  go_wp2_with fail
  refine (v1_open_bad H.out ov0 23 exv1 (by decide)).mono ?_
  rintro _ w2 ⟨rfl, h⟩
  rw [open0] at h
  have H := hid h
  clear h
  go_wp2_with fail
  refine (v1_format H.out (fused_of (by decide +kernel)) (by decide +kernel)).mono ?_
  rintro _ w3 ⟨rfl, h⟩
  rw [show (((formatR va0).2 : Int)) = 0 from by rw [exv2]; rfl]
  have H := hid (show Dev1 w0 w3 g va1 from h)
  clear h
  go_wp2_with fail
  refine (v1_open H.out ov1 exv3).mono ?_
  rintro _ w4 ⟨v, rfl, h⟩
  have H := hid (show Vau1 w0 w4 g v va2.1 va2.2.1 from h)
  clear h
  go_wp2_with fail
  refine (v1_has 2 3 none 0 [] H.out vv2 wv2 (StrS.nil _ _) (by simp)).mono ?_
  rintro _ w5 ⟨rfl, h⟩
  rw [exv4]
  have H := hid h
  clear h
  go_wp2_with fail
  refine upon_text _ 38 5 Try.underlying38 Try.underlying5 _ abcV rfl 3 rfl ?_
  intro w6 hs hb
  have hlt6 : w5.heap.size + 1 ≤ w6.heap.size := by
    obtain ⟨b, off, e, _, hc⟩ := hs.2 (by decide)
    cases e
    exact lt_of_cell (hc 0 97 rfl)
  have HW := hid (v1_append _ 3 abcV H.out vv2 hb (hs.grow hlt6) (by decide) (fun _ b off e => by cases e; exact Nat.le_refl _) (by decide))
  clear hlt6
  clear hs hb H
  try dsimp only
  go_wp2_with fail
  refine HW.out.mono ?_
  rintro _ w7 ⟨rfl, h⟩
  rw [show (((appendR va2.1 va2.2.1 abcV).2.2 : Int)) = 0 from by rw [show (appendR va2.1 va2.2.1 abcV).2.2 = 0 from exv5]; rfl]
  have H := hid (show Vau1 w0 w7 g v va3.1 va3.2.1 from h)
  clear h HW
  go_wp2_with (at_make; refine Held.go ?_)
  refine wpList_zeros_bytes_g _ rfl _ _ 38 rfl 5 Try.underlying38 info5' (100 : Int) 100 rfl rfl rfl (by omega) ?_
  intro w8 h1 b1
  have HW := hid (v1_append (some ⟨w7.heap.size, 0, none⟩) 100 (List.replicate 100 0) H.out vv3 b1 (by
    obtain ⟨A, c, e, hc, hs, hblk⟩ := h1.sb
    cases e
    exact hs) (by simp) (fun _ b off e => by cases e; exact Nat.le_refl _) (by simp))
  rw [full3] at HW
  simp only [List.length_replicate] at HW
  clear h1 b1 H
  go_wp2_with fail
  refine HW.out.mono ?_
  rintro _ w9 ⟨rfl, h⟩
  have H := hid (show Vau1 w0 w9 g v va3.1 va3.2.1 from h)
  clear h HW
  rw [show (((10 : Nat) : Int)) = 10 from rfl]
  go_wp2_with fail
  have HS := hid (str_one w9 9)
  have H := hid (H.out.keep (below_new w9 (.cells #[.string (strB abcV)] 9)))
  refine (v1_has 2 2 _ 1 [abcV] H.out vv3 wv3 HS.out (by simp)).mono ?_
  rintro _ w10 ⟨rfl, h⟩
  rw [show hasV va3.1 va3.2.1 2 2 [abcV] = true from exv7]
  have H := hid h
  clear h HS
  go_wp2_with fail
  go_ret2
  exact ⟨g, v, rfl, H.out⟩
theorem replace_full {s : DS} {vs : VS} {l : List (List UInt8)} (h1 : vs.broken = false) (E : Nat) (h2 : movesE s.n vs.gen l = E) (h3 : E ≠ 0) : replaceR s vs l = (s, vs, E) := by
  unfold replaceR moveR
  rw [if_neg (by rw [h1]; exact Bool.false_ne_true), h2, if_neg h3]
def xyzu : List (List UInt8) := [[120], [121], [122], [117]]
theorem str_three (w : World) (t : TypeId) : StrS (w.alloc (.cells #[.string (strB [120]), .string (strB [121]), .string (strB [122])] t)) (some ⟨w.heap.size, 0, none⟩) vxyz := strs_new w t _ vxyz rfl
theorem str_four (w : World) (t : TypeId) : StrS (w.alloc (.cells #[.string (strB [120]), .string (strB [121]), .string (strB [122]), .string (strB [117])] t)) (some ⟨w.heap.size, 0, none⟩) xyzu := strs_new w t _ xyzu rfl
theorem vv4 : vauB va4.1 va4.2.1 = true := by decide +kernel
theorem wv4 : wrapB va4.1 va4.2.1 = true := by decide +kernel
theorem vv5 : vauB va5.1 va5.2.1 = true := by decide +kernel
theorem wv5 : wrapB va5.1 va5.2.1 = true := by decide +kernel
theorem vv6 : vauB va6 va5.2.1 = true := by decide +kernel
theorem vv7 : vauB va7.1 va7.2.1 = true := by decide +kernel
theorem wv7 : wrapB va7.1 va7.2.1 = true := by decide +kernel
theorem vv9 : vauB va9.1 va9.2.1 = true := by decide +kernel
theorem wv9 : wrapB va9.1 va9.2.1 = true := by decide +kernel
theorem ov8 : openB va8 = true := by decide +kernel
theorem full5 : appendR va5.1 va5.2.1 [] = (va5.1, va5.2.1, 10) := append_full (by decide +kernel) (by simp) (by decide +kernel)
theorem full5r : replaceR va5.1 va5.2.1 xyzu = (va5.1, va5.2.1, 10) := replace_full (by decide +kernel) 10 (by decide +kernel) (by decide)
theorem full7 : appendR va7.1 va7.2.1 [] = (va7.1, va7.2.1, 23) := append_broken (by decide +kernel)
theorem gen5 : (areaV va5.1.n va5.2.1.gen).g = 4 := by decide +kernel
theorem fuse5 : (fuseS va5.1 4).n = va5.1.n := by decide +kernel
theorem lst_texts {w W : World} {base : Nat} {v : Value} {l : List (List UInt8)} {us : List Value} (h : Txt W base v l us) (hb : w.heap.size ≤ base) : ∃ A c, v = .slice A l.length c ∧ ∀ F : List Nat, (∀ b ∈ F, b < w.heap.size) → LstB W F A l := by
  obtain ⟨A, c, hv, -⟩ := h.lst [] (fun b hm => by cases hm)
  refine ⟨A, c, hv, fun F hF => ?_⟩
  obtain ⟨A2, c2, hv2, hl⟩ := h.lst F (fun b hm => Nat.lt_of_lt_of_le (hF b hm) hb)
  rw [hv] at hv2
  cases hv2
  exact hl

set_option maxHeartbeats 4000000 in
set_option maxRecDepth 20000 in
theorem vawake_calls (w : World) : Calls Try.prog 14 #[] w fun e w' => e = .returned (.bool true) ∧ Below w.heap.size w w' := by
  go_enter Try.func14, Try.ntmps14
  go_wp2_with fail
  refine (vone_calls w w (Below.refl _ _)).mono ?_
  rintro _ w1 ⟨g, v, rfl, h⟩
  have H := hid h
  clear h
  go_wp2_with fail
  refine (v1_open H.out.dev ov3 exv8).mono ?_
  rintro _ w2 ⟨v2, rfl, h⟩
  have H := hid (show Vau1 w w2 g v2 va4.1 va4.2.1 from h)
  clear h
  go_wp2_with fail
  have HS := hid (str_one w2 9)
  have H := hid (H.out.keep (below_new w2 (.cells #[.string (strB abcV)] 9)))
  refine (v1_has 3 2 _ 1 [abcV] H.out vv4 wv4 HS.out (by simp)).mono ?_
  rintro _ w3 ⟨rfl, h⟩
  rw [show hasV va4.1 va4.2.1 3 2 [abcV] = true from exv9]
  have H := hid h
  clear h HS
  go_wp2_with fail
  go_ret
  exact ⟨rfl, H.out.1⟩

set_option maxHeartbeats 16000000 in
set_option maxRecDepth 20000 in
theorem vknown_calls (w : World) : Calls Try.prog 3 #[] w fun e w' => e = .returned (.bool true) ∧ Below w.heap.size w w' := by
  go_enter Try.func3, Try.ntmps3
  go_wp2_with fail
  refine (vone_calls w w (Below.refl _ _)).mono ?_
  rintro _ w1 ⟨g, v0, rfl, h⟩
  have H := hid h
  clear h
  go_wp2_with fail
  refine (v1_open H.out.dev ov3 exv8).mono ?_
  rintro _ w2 ⟨v, rfl, h⟩
  have H := hid (show Vau1 w w2 g v va4.1 va4.2.1 from h)
  clear h
  go_wp2_with fail
  have HS := hid (str_one w2 9)
  have H := hid (H.out.keep (below_new w2 (.cells #[.string (strB abcV)] 9)))
  refine (v1_has 3 2 _ 1 [abcV] H.out vv4 wv4 HS.out (by simp)).mono ?_
  rintro _ w3 ⟨rfl, h⟩
  rw [show hasV va4.1 va4.2.1 3 2 [abcV] = true from exv9]
  have H := hid h
  clear h HS
  go_wp2_with fail
  have hb4 := below_new w3 (.cells #[.string (strB [120]), .string (strB [121]), .string (strB [122])] 9)
  have HS := hid (str_three w3 9)
  refine (texts_calls _ 3 vxyz _ HS.out (by decide)).mono ?_
  rintro _ w4 ⟨u, us, rfl, ht, hb5⟩
  obtain ⟨A, c, rfl, hl⟩ := lst_texts (w := w3) ht hb4.size
  have HR := hid (v1_replace A c vxyz H.out vv4 (hb4.trans (hb5.mono hb4.size)) hl (by decide))
  clear hb4 HS ht hb5 hl H
  go_wp2_with fail
  refine HR.out.mono ?_
  rintro _ w5 ⟨rfl, h⟩
  rw [show (((replaceR va4.1 va4.2.1 vxyz).2.2 : Int)) = 0 from by rw [show (replaceR va4.1 va4.2.1 vxyz).2.2 = 0 from exv10]; rfl]
  have H := hid (show Vau1 w w5 g v va5.1 va5.2.1 from h)
  clear h HR
  go_wp2_with fail
  have HS := hid (str_three w5 9)
  have H := hid (H.out.keep (below_new w5 (.cells #[.string (strB [120]), .string (strB [121]), .string (strB [122])] 9)))
  refine (v1_has 4 0 _ 3 vxyz H.out vv5 wv5 HS.out (by decide)).mono ?_
  rintro _ w6 ⟨rfl, h⟩
  rw [exv11]
  have H := hid h
  clear h HS
  go_wp2_with fail
  have HW := hid (v1_append none 0 [] H.out vv5 (Below.refl _ _) (SB.nil _ _ _) (by decide) (fun h => absurd h (by decide)) (by decide))
  rw [full5] at HW
  refine HW.out.mono ?_
  rintro _ w7 ⟨rfl, h⟩
  have H := hid (show Vau1 w w7 g v va5.1 va5.2.1 from h)
  clear h HW
  rw [show (((10 : Nat) : Int)) = 10 from rfl]
  go_wp2_with fail
  have hb4 := below_new w7 (.cells #[.string (strB [120]), .string (strB [121]), .string (strB [122]), .string (strB [117])] 9)
  have HS := hid (str_four w7 9)
  refine (texts_calls _ 4 xyzu _ HS.out (by decide)).mono ?_
  rintro _ w8 ⟨u, us, rfl, ht, hb5⟩
  obtain ⟨A, c, rfl, hl⟩ := lst_texts (w := w7) ht hb4.size
  have HR := hid (v1_replace A c xyzu H.out vv5 (hb4.trans (hb5.mono hb4.size)) hl (by decide))
  rw [full5r] at HR
  clear hb4 HS ht hb5 hl H
  go_wp2_with fail
  refine HR.out.mono ?_
  rintro _ w9 ⟨rfl, h⟩
  have H := hid (show Vau1 w w9 g v va5.1 va5.2.1 from h)
  clear h HR
  rw [show (((10 : Nat) : Int)) = 10 from rfl]
  go_wp2_with fail
  refine (v1_gen H.out).mono ?_
  rintro _ _ ⟨rfl, rfl⟩
  rw [gen5]
  go_wp2_with fail
  refine (v1_fuse 4 H.out fuse5).mono ?_
  rintro _ w10 ⟨rfl, h⟩
  rw [show ((fuseE va5.1 4 : Int)) = 0 from by rw [exv14]; rfl]
  have H := hid (show Vau1 w w10 g v va6 va5.2.1 from h)
  clear h
  go_wp2_with fail
  refine (v1_replace none 0 [] H.out vv6 (Below.refl _ _) (fun F _ => LstB.nil _ _ _) (by decide)).mono ?_
  rintro _ w11 ⟨rfl, h⟩
  rw [show (((replaceR va6 va5.2.1 []).2.2 : Int)) = 22 from by rw [show (replaceR va6 va5.2.1 []).2.2 = 22 from exv15]; rfl]
  have H := hid (show Vau1 w w11 g v va7.1 va7.2.1 from h)
  clear h
  go_wp2_with fail
  have HS := hid (str_three w11 9)
  have H := hid (H.out.keep (below_new w11 (.cells #[.string (strB [120]), .string (strB [121]), .string (strB [122])] 9)))
  refine (v1_has 4 0 _ 3 vxyz H.out vv7 wv7 HS.out (by decide)).mono ?_
  rintro _ w12 ⟨rfl, h⟩
  rw [exv16]
  have H := hid h
  clear h HS
  go_wp2_with fail
  have HW := hid (v1_append none 0 [] H.out vv7 (Below.refl _ _) (SB.nil _ _ _) (by decide) (fun h => absurd h (by decide)) (by decide))
  rw [full7] at HW
  refine HW.out.mono ?_
  rintro _ w13 ⟨rfl, h⟩
  have H := hid (show Dev1 w w13 g va7.1 from h.dev)
  clear h HW
  rw [show (((23 : Nat) : Int)) = 23 from rfl]
  go_wp2_with fail
  refine (d1_crash 0 0 none [] 0 H.out (fuseOK_of (by decide +kernel)) (Below.refl _ _) (kb_nil _) (fun h => absurd h (by omega)) (by omega)).mono ?_
  rintro _ w14 ⟨rfl, h⟩
  rw [show ((crashE 0 : Int)) = 0 from by decide +kernel]
  have H := hid (show Dev1 w w14 g va8 from h)
  clear h
  go_wp2_with fail
  refine (v1_open H.out ov8 exv18).mono ?_
  rintro _ w15 ⟨v2, rfl, h⟩
  have H := hid (show Vau1 w w15 g v2 va9.1 va9.2.1 from h)
  clear h
  go_wp2_with fail
  refine (vawake_calls w15).mono ?_
  rintro _ w16 ⟨rfl, h⟩
  have H := hid (H.out.keep h)
  clear h
  go_wp2_with fail
  have HS := hid (str_three w16 9)
  have H := hid (H.out.keep (below_new w16 (.cells #[.string (strB [120]), .string (strB [121]), .string (strB [122])] 9)))
  refine (v1_has 5 0 _ 3 vxyz H.out vv9 wv9 HS.out (by decide)).mono ?_
  rintro _ w17 ⟨rfl, h⟩
  rw [exv19]
  have H := hid h
  clear h HS
  go_wp2_with fail
  go_ret
  exact ⟨rfl, H.out.1⟩
end Go.Proofs.Ytgldhmmfofnmiaa
