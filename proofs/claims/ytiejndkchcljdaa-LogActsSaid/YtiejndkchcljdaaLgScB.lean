/- Contracts: LentBytes, whose row is the call's own; KeptBytes, OverBytes, OverLists; a law's sector. -/
import Derived.Test.YtiejndkchcljdaaLgRfN
import Derived.Test.YtiejndkchcljdaaKept2
import Derived.Test.YtiejndkchcljdaaLgKnown
import Derived.Laws.CopyOwn
namespace Go.Proofs.Ytiejndkchcljdaa
open Go.RowKit

theorem own_front {w : World} {base : Nat} {e : TypeId} {A : Option Addr} {n m c : Nat} {bs cs : List UInt8} (h : Own w base e (.slice A (n + m) c) (n + m) (bs ++ cs)) (hn : bs.length = n) (hp : 0 < n + m) : Own w base e (.slice A n c) n bs := by
  rcases h with ⟨h1, ⟨h2, h3⟩ | ⟨g, cap, cur, hv, hb, hg, hle, hcm, hs, hc⟩⟩
  · omega
  · injection hv with e1 _ e3
    subst e1 e3
    have h2 : cur.toList.take (n * 1) = (cur.toList.take ((n + m) * 1)).take n := by rw [List.take_take]; congr 1; omega
    refine ⟨by simpa using hn, .inr ⟨g, c, cur, rfl, hb, hg, by omega, hcm, hs, ?_⟩⟩
    rw [h2, hc, List.map_append, List.take_left' (by simpa using hn)]
theorem lentOwn_calls (B n c : Nat) (A : Option Addr) (bs : List UInt8) (w : World) (hs : SB w B A n bs) (hn : n ≤ 549755813888) :
    Calls Try.prog 14 #[.slice A n c] w
      fun e w' => ∃ A' c', e = .returned (.slice A' n c') ∧ n + 4 ≤ c' ∧ SB w' w'.heap.size A' (n + 4) (bs ++ [201, 202, 203, 204]) ∧ Own w' w.heap.size 5 (.slice A' n c') n bs ∧ Below w.heap.size w w' := by
  go_enter Try.func14, Try.ntmps14
  go_wp2_with (at_builtin; refine Held.go ?_)
  have ho := Own.lit w 5 w.heap.size [] #[] 0 rfl rfl (Nat.le_refl _) (by omega)
  have hb := below_new w (.cells #[] 5)
  generalize w.alloc (.cells #[] 5) = w1 at ho hb ⊢
  refine wpList_append_bytes _ rfl _ _ _ rfl _ Try.underlying34 info5' w.heap.size _ 0 [] rfl ho B A n c bs rfl (hs.keep hb) (by omega) hb.size ?_
  intro v2 w2 h1 h2 h3
  have hb2 := hb.trans (below_of_grown h2 hb.size (fun g e => (ho.block g e).1))
  clear h2 h3 ho hb
  rw [Nat.zero_add, List.nil_append] at h1
  go_wp2_with (at_builtin; refine Held.go ?_)
  have ho3 := Own.lit w2 5 w2.heap.size [201, 202, 203, 204] #[.int .u8 201, .int .u8 202, .int .u8 203, .int .u8 204] 4 rfl rfl (Nat.le_refl _) (by omega)
  have hb3 := below_new w2 (.cells #[.int .u8 201, .int .u8 202, .int .u8 203, .int .u8 204] 5)
  generalize w2.alloc (.cells #[.int .u8 201, .int .u8 202, .int .u8 203, .int .u8 204] 5) = w3 at ho3 hb3 ⊢
  obtain ⟨A3, c3, e3, _, hs3, _⟩ := ho3.sb
  rw [e3]
  have h1' := h1.keep hb3
  refine wpList_append_bytes _ rfl _ _ _ rfl _ Try.underlying34 info5' w.heap.size _ n bs rfl h1' _ A3 4 c3 [201, 202, 203, 204] rfl hs3 (by omega) (Nat.le_trans hb2.size hb3.size) ?_
  intro v4 w4 h4 g4 t4
  have hb4 := (hb2.trans (hb3.mono hb2.size)).trans (below_of_grown g4 (Nat.le_trans hb2.size hb3.size) (fun g e => (h1'.block g e).1))
  obtain ⟨A4, c4, rfl, hc4, hs4, _⟩ := h4.sb
  have ho4 := own_front h4 hs.1 (by omega)
  clear h1 h1' ho3 hb3 e3 hs3 g4 t4 h4 hb2
  go_wp2_with fail
  go_ret
  exact ⟨A4, c4, rfl, hc4, hs4, ho4, hb4⟩
set_option maxHeartbeats 2000000 in
theorem overLists_calls (A : Option Addr) (c base : Nat) (l : List (List UInt8)) (vs : List Value) (w : World) (h : Recs w base (.slice A l.length c) l vs) (hx : ∀ x ∈ l, x.length ≤ 1099511627776) (hl : l.length ≤ 1000000) :
    Calls Try.prog 37 #[.slice A l.length c] w fun e w' => e = .returned (.tuple #[]) ∧ Chg (recBlocks (.slice A l.length c) vs) w w' := by
  have HH := hid h
  have HX := hid hx
  clear h hx
  go_enter Try.func37, Try.ntmps37
  go_wp2_with fail
  go_loopw [2] (fun i wr => ∃ k : Nat, k ≤ l.length ∧ i = .int .i64 (k : Int) ∧ Hid (Chg (recBlocks (.slice A l.length c) vs) w wr) ∧ Hid (∃ us, wr.ownsRow base 34 1 (.slice A l.length c) l.length us ∧ ∀ j, k ≤ j → us[j]? = vs[j]?) ∧ Hid (∀ j x u, k ≤ j → l[j]? = some x → vs[j]? = some u → Own wr base 5 u x.length x)) (fun i _ => l.length - (intOf i).toNat)
  case atStart => exact ⟨0, Nat.zero_le _, rfl, hid (Chg.refl _ _), hid ⟨vs, HH.out.row, fun _ _ => rfl⟩, hid (fun j x u _ h1 h2 => HH.out.each j x u h1 h2)⟩
  case round =>
    obtain ⟨k, hk, rfl, HC, HR, HE⟩ := hrel
    by_cases hlt : k < l.length
    · have q0 : (k : Int) < (l.length : Int) := by omega
      obtain ⟨us, hrow, hsame⟩ := HR.out
      obtain ⟨q, cq, e⟩ := Go.Joins.ownsRow_form hrow (by omega)
      cases e
      obtain ⟨u, hu⟩ : ∃ u, vs[k]? = some u := ⟨_, List.getElem?_eq_getElem (by rw [HH.out.len]; exact hlt)⟩
      obtain ⟨x, hx⟩ : ∃ x, l[k]? = some x := ⟨_, List.getElem?_eq_getElem hlt⟩
      have ho := HE.out k x u (Nat.le_refl _) hx hu
      obtain ⟨A1, c1, rfl, -⟩ := ho.sb
      have hxl := HX.out x (List.mem_of_getElem? hx)
      have hcell := (World.ownsRow.cellAt hrow k (by omega)).trans ((hsame k (Nat.le_refl _)).trans hu)
      have hix := fun W => ix_row q l.length c k hlt W
      have HOV := hid (overBytes_calls base x.length c1 A1 x wr ho hxl)
      have HFAR := hid (fun b (hb : (Value.slice A1 x.length c1).ownBlock = some b) => (show b ≠ q from fun e => HH.out.far _ (List.mem_of_getElem? hu) b hb (by rw [e]; rfl)))
      have HAP := hid (fun (j : Nat) u' (hj : vs[j]? = some u') (hne : k ≠ j) b (hb : (Value.slice A1 x.length c1).ownBlock = some b) => HH.out.apart k j _ u' hu hj hne b hb)
      have HMEM := hid (fun b (hb : (Value.slice A1 x.length c1).ownBlock = some b) => (mem_recBlocks.2 (.inr ⟨_, List.mem_of_getElem? hu, hb⟩) : b ∈ recBlocks (.slice (some ⟨q, 0, none⟩) l.length c) vs))
      have HQM := hid (mem_recBlocks.2 (.inl rfl) : q ∈ recBlocks (.slice (some ⟨q, 0, none⟩) l.length c) vs)
      have HRW := hid hrow
      have HSM := hid hsame
      clear hrow hsame hu hx ho hxl HR
      generalize x.length = xl at *
      go_wp2_with fail
      refine HOV.out.mono ?_
      rintro _ w2 ⟨rfl, hg⟩
      have HC2 := hid (HC.out.trans (Chg.of_grown (L := (Value.slice A1 xl c1).ownBlock.toList) hg (fun b e => by rw [e]; simp)) (fun b hb => .inl (HMEM.out b (by simpa using hb))))
      have HRW2 := hid (ownsRow_chg HRW.out (Chg.of_grown (L := (Value.slice A1 xl c1).ownBlock.toList) hg (fun b e => by rw [e]; simp)) (fun b hb hm => HFAR.out b (by simpa using hm) (by cases hb; rfl)))
      have HE2 := hid (show ∀ j x' u', k + 1 ≤ j → l[j]? = some x' → vs[j]? = some u' → Own w2 base 5 u' x'.length x' from fun j x' u' hj h1 h2 => (HE.out j x' u' (by omega) h1 h2).kept hg (by
        rcases h7 : u'.ownBlock with _ | b
        · exact .inl rfl
        · exact .inr (fun e => HAP.out j u' h2 (by omega) b e.symm h7)))
      have c2 : ∃ v0, w2.cell? ⟨q, k, none⟩ = some v0 := by
        obtain ⟨v0, hv0⟩ : ∃ v0, us[k]? = some v0 := ⟨_, List.getElem?_eq_getElem (by have := HRW2.out.1; omega)⟩
        exact ⟨v0, (World.ownsRow.cellAt HRW2.out k (by omega)).trans hv0⟩
      obtain ⟨v0, c2⟩ := c2
      have f2 := World.ownsRow.frozenAt HRW2.out k
      have hst := World.ownsRow.stored HRW2.out k (.slice none 0 0)
      have HST := hid hst
      clear hst hcell hg HOV HC HRW HE
      go_wp2_with fail
      go_roundw
      case rel =>
        refine ⟨k + 1, by omega, by go_num, hid (HC2.out.trans (Chg.of_grown (L := [q]) HST.out.2 (fun b e => by cases e; simp)) (fun b hb => .inl (by rw [List.mem_singleton.1 hb]; exact HQM.out))), hid ⟨us.set k (.slice none 0 0), HST.out.1, fun j hj => ?_⟩, hid (fun j x' u' hj h1 h2 => (HE2.out j x' u' hj h1 h2).kept HST.out.2 ?_)⟩
        · rw [List.getElem?_set_ne (by omega)]
          exact HSM.out j (by omega)
        · rcases h7 : u'.ownBlock with _ | b
          · exact .inl rfl
          · exact .inr (fun e => by cases e; exact HH.out.far u' (List.mem_of_getElem? h2) q h7 rfl)
      case measure => simp [intOf]; omega
    · obtain rfl : k = l.length := by omega
      have q0 : ¬ (l.length : Int) < (l.length : Int) := by omega
      go_wp2_with fail
      go_end0
      exact ⟨rfl, HC.out⟩
end Go.Proofs.Ytiejndkchcljdaa
/- A law's sector; acts that came in; contract: long. -/
namespace Go.Proofs.Ytiejndkchcljdaa
open Go.RowKit

/-- bytes as a sector -/
def padS (bs : List UInt8) : List UInt8 := bs.take 64 ++ List.replicate (64 - (bs.take 64).length) 0
theorem padS_len (bs : List UInt8) : (padS bs).length = 64 := by
  unfold padS
  rw [List.length_append, List.length_replicate, List.length_take]; omega
set_option maxRecDepth 20000 in
theorem sector_calls (B n c : Nat) (A : Option Addr) (bs : List UInt8) (w : World) (hs : SB w B A n bs) :
    Calls Try.prog 27 #[.slice A n c] w fun e w' => ∃ v, e = .returned v ∧ Own w' w.heap.size 5 v 64 (padS bs) ∧ Below w.heap.size w w' := by
  have HS := hid hs.fit
  have hl := hs.1
  clear hs
  go_enter Try.func27, Try.ntmps27
  go_wp2_with (at_make; refine Held.go ?_)
  refine wpList_zeros_bytes _ rfl _ _ 34 rfl 5 Try.underlying34 info5' 64 64 rfl rfl rfl (by omega) ?_
  intro w1 ho hb
  obtain ⟨cur, hg, hcur⟩ : ∃ cur : Array Value, w1.heap[w.heap.size]? = some (.cells cur 5 (0, 0)) ∧ cur.toList = z64.map bv := by
    rcases ho with ⟨h1, ⟨h2, h3⟩ | ⟨g, cap, cur, hv, hb2, hg, hle, hcm, hs, hc⟩⟩
    · omega
    · injection hv with e1 _ e3
      injection e1 with e1
      injection e1 with e1
      subst e1 e3
      refine ⟨cur, hg, ?_⟩
      rw [List.take_of_length_le (by rw [Array.length_toList]; omega)] at hc
      exact hc
  have HG := hid (show w1.heap[w.heap.size]? = some (.cells (z64.map bv).toArray 5 (0, 0)) from by rw [hg, ← hcur])
  have HB := hid hb
  have HS1 := hid (HS.out.keep hb)
  obtain ⟨X1, hX1⟩ : ∃ X1, X1 = (bs.take 64).map bv := ⟨_, rfl⟩
  have HXE := hid hX1
  have HXL := hid (show X1.length = Nat.min n 64 from by rw [hX1, List.length_map, List.length_take, hl]; show min 64 n = min n 64; omega)
  have HX64 := hid (show 0 + X1.length ≤ (z64.map bv).length from by rw [HXL.out, List.length_map]; show 0 + min n 64 ≤ 64; omega)
  have HPOS := hid (show 0 < X1.length → (some (⟨w.heap.size, 0, none⟩ : Addr)) = some ⟨w.heap.size, 0, none⟩ ∧ ∃ ad, A = some ad ∧ ∀ j v, X1[j]? = some v → w1.cell? (ad.add j) = some v from fun h0 => by
    refine ⟨rfl, ?_⟩
    have hn : 0 < n := by
      rw [HXL.out] at h0
      have : min n 64 ≤ n := Nat.min_le_left _ _
      have h0 : 0 < min n 64 := h0
      omega
    obtain ⟨b, off, rfl, -, hc⟩ := HS1.out.2 hn
    refine ⟨_, rfl, fun j v hv => ?_⟩
    rw [Addr.add_lit]
    rw [hX1, List.getElem?_map] at hv
    obtain ⟨y, hy, rfl⟩ := Option.map_eq_some_iff.1 hv
    rw [List.getElem?_take] at hy
    split at hy
    · exact hc j y hy
    · cases hy)
  have HONE := hid (show ∀ v ∈ X1, v.oneCell' = true from by rw [hX1]; exact oneCell_bytes _)
  clear ho hb hg hcur hX1 HS HS1
  go_wp2_with (refine wpList_copy_splice rfl (.tmp 5) (.tmp 6) 34 34 rfl 5 Try.underlying34 info_u8 (some ⟨w.heap.size, 0, none⟩) A 64 64 n c rfl rfl w.heap.size 0 (z64.map bv) 5 HG.out X1 HXL.out HPOS.out HX64.out HONE.out w.heap.size w HB.out (Nat.le_refl _) ?_; intro w2 hw2 hb2; refine Held.go ?_)
  have HO2 := hid (show Own w2 w.heap.size 5 (.slice (some ⟨w.heap.size, 0, none⟩) 64 64) 64 (padS bs) from by
    have e : splice (z64.map bv) 0 X1 = (padS bs).map bv := by
      rw [HXE.out]
      unfold splice padS z64
      rw [List.take_zero, List.nil_append, List.map_append, Nat.zero_add, List.length_map, List.map_replicate, List.drop_replicate, List.map_replicate]
    have h := hw2.out
    rw [e] at h
    exact ⟨by rw [List.length_map, padS_len], .inr ⟨w.heap.size, 64, _, rfl, Nat.le_refl _, h, Nat.le_refl _, by simp [maxLen], by rw [List.size_toArray, List.length_map, padS_len], by rw [List.take_of_length_le (by rw [List.length_map, padS_len]; exact Nat.le_refl _)]⟩⟩)
  have HB2 := hid hb2
  clear hw2 hb2 HG HB HXE HXL HX64 HPOS HONE
  unfold Held
  go_wp2_with fail
  go_ret
  exact ⟨_, rfl, HO2.out, HB2.out⟩
/-- an act -/
structure LAct where
  k : Int
  a : AR
  n : Int
  A1 : Option Addr
  c1 : Nat
  bs : List UInt8
  A2 : Option Addr
  c2 : Nat
  keep : List Bool
def LV (x : LAct) : Array Value := #[.int .i64 x.k, .int .i64 x.a.a, .int .i64 x.a.b, .int .i64 x.a.g, .int .i64 x.n, .slice x.A1 x.bs.length x.c1, .slice x.A2 x.keep.length x.c2]
structure LOK (w : World) (x : LAct) : Prop where
  sb : SB w w.heap.size x.A1 x.bs.length x.bs
  kb : KB w x.A2 x.keep.length x.keep
  nn : -9223372036854775808 ≤ x.n ∧ x.n ≤ 9223372036854775807
  bl : x.bs.length ≤ 9223372036854775807
  kl : x.keep.length ≤ 9223372036854775807
  bc : x.bs.length ≤ x.c1
theorem LOK.keep {w w' : World} {x : LAct} (h : LOK w x) (hb : Below w.heap.size w w') : LOK w' x := ⟨(h.sb.keep hb).more hb.size, h.kb.keep hb, h.nn, h.bl, h.kl, h.bc⟩
/-- acts that came in -/
structure LATS (w : World) (A : Option Addr) (n : Nat) (ts : List LAct) : Prop where
  len : ts.length = n
  at_ : 0 < n → ∃ b off, A = some ⟨b, off, none⟩ ∧ ∀ (k : Nat) a, ts[k]? = some a → ∀ (j : Nat) v, (LV a)[j]? = some v → w.cell? ⟨b, off + k * 7 + j, none⟩ = some v
  ok : ∀ a ∈ ts, LOK w a
theorem LATS.keep {w w' : World} {A : Option Addr} {n : Nat} {ts : List LAct} (h : LATS w A n ts) (hb : Below w.heap.size w w') : LATS w' A n ts :=
  ⟨h.len, fun hn => by
    obtain ⟨b, off, e, hc⟩ := h.at_ hn
    exact ⟨b, off, e, fun k a ha j v hv => (hb.cell (lt_of_cell (hc k a ha j v hv))).trans (hc k a ha j v hv)⟩, fun a ha => (h.ok a ha).keep hb⟩
def longX (x : LAct) : Bool := decide (400 < x.bs.length) || decide (40 < x.keep.length)
/-- what long tells -/
def longL (ts : List LAct) : Bool := (ts.take 26).any longX || decide (25 < ts.length)
theorem longL_true {ts : List LAct} {k : Nat} {a : LAct} (ha : ts[k]? = some a) (hk : k < 26) (h : longX a = true) : longL ts = true := by
  unfold longL
  have hm : a ∈ ts.take 26 := List.mem_of_getElem? (i := k) (by rw [List.getElem?_take, if_pos hk]; exact ha)
  rw [Bool.or_eq_true]
  exact .inl (List.any_eq_true.2 ⟨a, hm, h⟩)
theorem longL_end {ts : List LAct} {k : Nat} (hk : k = 26 ∨ (k = ts.length ∧ k ≤ 26)) (h : (ts.take k).any longX = false) : longL ts = decide (25 < ts.length) := by
  unfold longL
  rcases hk with rfl | ⟨rfl, hk⟩
  · rw [h, Bool.false_or]
  · rw [List.take_length] at h
    rw [List.take_of_length_le hk, h, Bool.false_or]
theorem longL_no {ts : List LAct} (h : longL ts = false) : ts.length ≤ 25 ∧ ∀ a ∈ ts, a.bs.length ≤ 400 ∧ a.keep.length ≤ 40 := by
  unfold longL at h
  rw [Bool.or_eq_false_iff] at h
  have h1 : ts.length ≤ 25 := by simpa using h.2
  refine ⟨h1, fun a ha => ?_⟩
  have := h.1
  rw [List.take_of_length_le (by omega)] at this
  have := (List.any_eq_false.1 this) a ha
  unfold longX at this
  simp at this
  omega
theorem ix_lact (b off n c k : Nat) (h : k < n) (W : World) : (Instr.indexAt 22 (.slice (some ⟨b, off, none⟩) n c) (.int .i64 (k : Int))).run Try.prog W = .ok (.pointer (some ⟨b, off + k * 7, none⟩)) W := by
  have hi : (Try.prog.info? 37).map (·.size) = some 7 := by kernel_rfl
  obtain ⟨i, hi, hs⟩ := Option.map_eq_some_iff.1 hi
  rw [run_indexAt_slice W _ _ _ _ _ _ (by kernel_rfl), if_pos ⟨by omega, by omega⟩]
  rw [show Try.prog.elem 22 = 37 from by kernel_rfl]
  simp [sizeOf, typeInfo, hi, hs, Addr.add_lit]
set_option maxHeartbeats 2000000 in
theorem longL_calls (n c : Nat) (A : Option Addr) (ts : List LAct) (w : World) (h : LATS w A n ts) (hn : n ≤ 9223372036854775807) :
    Calls Try.prog 13 #[.slice A n c] w fun e w' => e = .returned (.bool (longL ts)) ∧ w = w' := by
  have HH := hid h
  clear h
  go_enter Try.func13, Try.ntmps13
  go_wp2_with fail
  go_loop [3] (fun i => ∃ k : Nat, k ≤ n ∧ k ≤ 26 ∧ i = .int .i64 (k : Int) ∧ Hid ((ts.take k).any longX = false)) (fun i => n - (intOf i).toNat)
  case atStart => exact ⟨0, Nat.zero_le _, by omega, rfl, (rfl : (ts.take 0).any _ = false)⟩
  case round =>
    obtain ⟨k, hk, hk31, rfl, HF⟩ := hrel
    by_cases hlt : k < n ∧ k < 26
    · obtain ⟨h1, h2⟩ := hlt
      obtain ⟨b, off, rfl, hc⟩ := HH.out.at_ (by omega)
      have hkl : k < ts.length := by have := HH.out.len; omega
      obtain ⟨t, ht⟩ : ∃ t, ts[k]? = some t := ⟨ts[k], List.getElem?_eq_getElem hkl⟩
      have hok := HH.out.ok t (List.mem_of_getElem? ht)
      have c5 : w.cell? ⟨b, off + k * 7 + 5, none⟩ = some (.slice t.A1 t.bs.length t.c1) := hc k t ht 5 _ rfl
      have c6 : w.cell? ⟨b, off + k * 7 + 6, none⟩ = some (.slice t.A2 t.keep.length t.c2) := hc k t ht 6 _ rfl
      have HN := hid (show (ts.take (k + 1)).any longX = (decide (400 < t.bs.length) || decide (40 < t.keep.length)) from by
        rw [List.take_add_one, ht, List.any_append, HF.out]; simp [longX])
      have HT := hid ht
      have l1 : t.bs.length ≤ 9223372036854775807 := hok.bl
      have l2 : t.keep.length ≤ 9223372036854775807 := hok.kl
      have hix := fun W => ix_lact b off n c k h1 W
      clear hc ht hok
      have q0 : (k : Int) < (n : Int) := by omega
      have q1 : (k : Int) < 26 := by omega
      have HTR := hid (fun (hq : (decide (400 < t.bs.length) || decide (40 < t.keep.length)) = true) => longL_true HT.out h2 hq)
      generalize t.bs.length = m1 at c5 HN l1 HTR
      generalize t.keep.length = m2 at c6 HN l2 HTR
      by_cases hm1 : 400 < m1
      · have n1 : (400 : Int) < (m1 : Int) := by omega
        have HK := hid (HTR.out (by simp [hm1]))
        go_wp2_with fail
        go_ret
        exact ⟨by rw [HK.out]; rfl, rfl⟩
      · have n1 : ¬ (400 : Int) < (m1 : Int) := by omega
        have n1d : decide ((400 : Int) < (m1 : Int)) = false := by simp; omega
        by_cases hm2 : 40 < m2
        · have n2 : (40 : Int) < (m2 : Int) := by omega
          have HK := hid (HTR.out (by simp [hm2]))
          go_wp2_with fail
          go_ret
          exact ⟨by rw [HK.out]; rfl, rfl⟩
        · have n2 : ¬ (40 : Int) < (m2 : Int) := by omega
          have HN2 := hid (show (ts.take (k + 1)).any longX = false from by rw [HN.out]; simp [hm1, hm2])
          go_wp2_with fail
          go_round
          case rel => exact ⟨k + 1, by omega, by omega, by go_num, HN2⟩
          case measure => simp [intOf]; omega
    · have HK := hid (longL_end (ts := ts) (k := k) (by have := HH.out.len; omega) HF.out)
      have HL := hid HH.out.len
      have HK2 := hid (show longL ts = decide ((25 : Int) < (n : Int)) from by rw [HK.out, HL.out, decide_eq_decide]; omega)
      by_cases hkn : k < n
      · obtain rfl : k = 26 := by omega
        have q0 : (((26 : Nat) : Int)) < (n : Int) := by omega
        have q3 : (25 : Int) < (n : Int) := by omega
        clear hlt hk hk31
        go_wp2_with fail
        go_ret
        exact ⟨by rw [HK2.out]; simp [q3], rfl⟩
      · obtain rfl : n = k := by omega
        have q0 : ¬ (n : Int) < (n : Int) := by omega
        clear hlt hk
        go_wp2_with fail
        go_ret
        exact ⟨by rw [HK2.out]; rfl, rfl⟩
end Go.Proofs.Ytiejndkchcljdaa
/- What keeps a device's few loose writes and its fuse; two calls in a drawn region, one device's and the other's. -/
namespace Go.Proofs.Ytiejndkchcljdaa
open Go.RowKit

/-- few loose writes, a fuse that ends, sectors -/
def BndL (k n : Nat) (s : DS) : Prop := s.loose.length ≤ k ∧ (∀ j, s.fuse = some j → j < 9223372036854775808) ∧ s.n = n
theorem BndL.up {k k' n : Nat} {s : DS} (h : BndL k n s) (hk : k ≤ k') : BndL k' n s := ⟨Nat.le_trans h.1 hk, h.2⟩
theorem burn_bndL {k n : Nat} {s : DS} (h : BndL k n s) : BndL k n (burn s) := ⟨h.1, fun j hj => by
  cases hf : s.fuse with
  | none => simp [burn, hf] at hj
  | some i =>
    have := h.2.1 i hf
    simp [burn, hf] at hj
    omega, h.2.2⟩
theorem write_bndL {k n : Nat} {s : DS} (h : BndL k n s) (i : Int) (bs : List UInt8) : BndL (k + 1) n (writeS s i bs) := by
  have h1 := h.up (show k ≤ k + 1 by omega)
  have h2 := burn_bndL h
  unfold writeS
  repeat' split
  · exact h1
  · exact h1
  · exact h1
  · exact h2.up (by omega)
  · exact ⟨by simp only [putS, List.length_append, List.length_singleton]; have := h2.1; omega, h2.2⟩
theorem flush_bndL {k n : Nat} {s : DS} (h : BndL k n s) : BndL k n (flushD s) := by
  have h2 := burn_bndL h
  unfold flushD
  repeat' split
  · exact h
  · exact h2
  · exact ⟨by simp [flushS], h2.2⟩
theorem writes_bndL {n : Nat} : ∀ (l : List (List UInt8)) (k : Nat) (s : DS) (i : Int), BndL k n s → BndL (k + l.length) n (writesS s i l).1
  | [], k, s, i, h => h
  | b :: l, k, s, i, h => by
    have h1 := write_bndL h i b
    unfold writesS
    split
    · exact (writes_bndL l (k + 1) _ _ h1).up (by simp only [List.length_cons]; omega)
    · exact h1.up (by simp only [List.length_cons]; omega)
theorem blank_bndL {k n : Nat} {s : DS} (h : BndL k n s) (a : AR) : BndL (k + n) n (blankR s a).1 := by
  unfold blankR
  split
  · rename_i hc
    obtain ⟨h0, h1, h2, -⟩ := check_ok hc
    have h3 := writes_bndL (List.replicate (a.b - a.a).toNat zeros64) k s a.a h
    rw [List.length_replicate] at h3
    have h4 := h3.up (show k + (a.b - a.a).toNat ≤ k + n by have := h.2.2; omega)
    split
    · exact flush_bndL h4
    · exact h4
  · exact h.up (by omega)
theorem logW_bndL {k n : Nat} {s : DS} (h : BndL k n s) (a : AR) (p : Int) (rec : List UInt8) : BndL (k + n) n (logWR s a p rec).1 := by
  have h0 := h.up (show k ≤ k + n by omega)
  unfold logWR
  split
  · rename_i hc
    obtain ⟨h0a, h1, h2, -⟩ := check_ok hc
    split
    · exact h0
    split
    · exact h0
    split
    · exact h0
    rename_i hp hl hf
    have h3 := writes_bndL (recSecs a.g.toNat p.toNat rec) k s (a.a + p) h
    have h4 := h3.up (show k + (recSecs a.g.toNat p.toNat rec).length ≤ k + n by
      have e : (recSecs a.g.toNat p.toNat rec).length = needN rec.length := by simp [recSecs]
      have := h.2.2
      omega)
    split
    · exact h4
    · exact h4
  · exact h0
theorem fuse_bndL {k n : Nat} {s : DS} (h : BndL k n s) (z : Int) (hz : z ≤ 9223372036854775807) : BndL k n (fuseS s z) := by
  unfold fuseS
  split
  · exact ⟨h.1, fun j hj => by injection hj with hj; omega, h.2.2⟩
  · exact h
theorem crash_bndL {k n : Nat} {s : DS} (h : BndL k n s) (keep : List Bool) (t : Int) : BndL k n (crashD s keep t) := by
  unfold crashD
  split
  · exact ⟨by simp [brokeS, backS], fun j hj => (by cases hj), h.2.2⟩
  · exact h
theorem BndL.fuseOK {k n : Nat} {s : DS} (h : BndL k n s) (hk : k ≤ 1000000) : fuseOK s := ⟨h.2.1, by have := h.1; omega⟩
/-- two calls in a drawn region, one device's and the other's -/
structure TwS (w : World) (base bx g gx m m2 : Nat) (H : List Nat) (PP : World → Prop) (s SN : DS) (i1 i2 : Nat) (fd : Nat → Bool) (_gh : Nat → Unit) (W : World) : Prop where
  st : ∀ W W', HeldW H W W' → PP W → PP W'
  wx : DX w base bx g gx (if fd i2 = true then m2 else m) H (if fd i1 = true then SN else s) (if fd i2 = true then SN else s) W
  pp : PP W
section
variable {w W W' : World} {base bx g gx m m2 : Nat} {H : List Nat} {PP : World → Prop} {s SN : DS} {i1 i2 : Nat} {fd : Nat → Bool} {gh gh' : Nat → Unit}
theorem TwS.start {n : Nat} (hst : ∀ W W', HeldW H W W' → PP W → PP W') (hx : DX w base bx g gx m H s s W) (hp : PP W) (h1 : i1 < n) (h2 : i2 < n) : TwS w base bx g gx m m2 H PP s SN i1 i2 (fun j => decide (n ≤ j)) gh W.drew := by
  have e1 : decide (n ≤ i1) = false := by simp; omega
  have e2 : decide (n ≤ i2) = false := by simp; omega
  refine ⟨hst, ?_, hst _ _ (held_below (Below.refl _ _).drew) hp⟩
  simp only [e1, e2, Bool.false_eq_true, if_false]
  exact hx.keep (Below.refl _ _).drew
theorem TwS.step (h : TwS w base bx g gx m m2 H PP s SN i1 i2 fd gh W) (i : Nat) (h1 : i1 ≠ i) (h2 : i2 ≠ i) : TwS w base bx g gx m m2 H PP s SN i1 i2 (upd fd i) gh' W :=
  ⟨h.st, by rw [ap_ne h1, ap_ne h2]; exact h.wx, h.pp⟩
theorem TwS.pre1 (h : TwS w base bx g gx m m2 H PP s SN i1 i2 fd gh W) (h1 : fd i1 = false) : DX w base bx g gx (if fd i2 = true then m2 else m) H s (if fd i2 = true then SN else s) W := by
  have := h.wx
  rwa [if_neg (c := fd i1 = true) (by rw [h1]; decide)] at this
theorem TwS.pre2 (h : TwS w base bx g gx m m2 H PP s SN i1 i2 fd gh W) (h2 : fd i2 = false) : DX w base bx g gx m H (if fd i1 = true then SN else s) s W := by
  have := h.wx
  rwa [if_neg (c := fd i2 = true) (by rw [h2]; decide), if_neg (c := fd i2 = true) (by rw [h2]; decide)] at this
theorem TwS.s1 (h : TwS w base bx g gx m m2 H PP s SN i1 i2 fd gh W) (hp : DX w base bx g gx (if fd i2 = true then m2 else m) H SN (if fd i2 = true then SN else s) W') (hh : HeldW H W W') (hne : i2 ≠ i1) : TwS w base bx g gx m m2 H PP s SN i1 i2 (upd fd i1) gh' W' :=
  ⟨h.st, by rw [ap_eq, ap_ne hne, if_pos rfl]; exact hp, h.st _ _ hh h.pp⟩
theorem TwS.s2 (h : TwS w base bx g gx m m2 H PP s SN i1 i2 fd gh W) (hp : DX w base bx g gx m2 H (if fd i1 = true then SN else s) SN W') (hh : HeldW H W W') (hne : i1 ≠ i2) : TwS w base bx g gx m m2 H PP s SN i1 i2 (upd fd i2) gh' W' :=
  ⟨h.st, by rw [ap_eq, ap_ne hne, if_pos rfl, if_pos rfl]; exact hp, h.st _ _ hh h.pp⟩
theorem TwS.fin (h : TwS w base bx g gx m m2 H PP s SN i1 i2 fd gh W) (h1 : fd i1 = true) (h2 : fd i2 = true) : DX w base bx g gx m2 H SN SN W := by
  have := h.wx
  rwa [if_pos h1, if_pos h2, if_pos h2] at this
end
/-- bytes are made for the one and for the other -/
structure D2S (w : World) (base bx g gx m m2 : Nat) (H0 : List Nat) (PP : World → Prop) (s SN : DS) (bs : List UInt8) (i5 i6 i12 i13 : Nat) (f : Nat → Bool) (gh : Nat → Value) (W : World) : Prop where
  st : ∀ W W', HeldW H0 W W' → PP W → PP W'
  wx : DX w base bx g gx (if f i13 = true then m2 else m) (H0 ++ ((if f i5 = true ∧ f i6 = false then (gh i5).ownBlock.toList else []) ++ (if f i12 = true ∧ f i13 = false then (gh i12).ownBlock.toList else []))) (if f i6 = true then SN else s) (if f i13 = true then SN else s) W
  pp : PP W
  o5 : i5 < 20 → f i5 = true → f i6 = false → Own W w.heap.size 5 (gh i5) bs.length bs
  o12 : f i12 = true → f i13 = false → Own W w.heap.size 5 (gh i12) bs.length bs
section
variable {w W W' : World} {base bx g gx m m2 : Nat} {H0 : List Nat} {PP : World → Prop} {s SN : DS} {bs : List UInt8} {i5 i6 i12 i13 : Nat} {f : Nat → Bool} {gh : Nat → Value}
theorem D2S.step (h : D2S w base bx g gx m m2 H0 PP s SN bs i5 i6 i12 i13 f gh W) (j : Nat) (v : Value) (n5 : i5 ≠ j) (n6 : i6 ≠ j) (n12 : i12 ≠ j) (n13 : i13 ≠ j) : D2S w base bx g gx m m2 H0 PP s SN bs i5 i6 i12 i13 (upd f j) (updN gh j v) W := by
  obtain ⟨st, wx, pp, o5, o12⟩ := h
  refine ⟨st, ?_, pp, ?_, ?_⟩ <;> simp only [ap_ne n5, ap_ne n6, ap_ne n12, ap_ne n13, apN_ne n5, apN_ne n12] <;> assumption
theorem D2S.s5 (h : D2S w base bx g gx m m2 H0 PP s SN bs i5 i6 i12 i13 f gh W) {v : Value} (hf : f i5 = false) (h6 : f i6 = false) (n6 : i6 ≠ i5) (n12 : i12 ≠ i5) (n13 : i13 ≠ i5) (ho : Own W' W.heap.size 5 v bs.length bs) (hB : Below W.heap.size W W') :
    D2S w base bx g gx m m2 H0 PP s SN bs i5 i6 i12 i13 (upd f i5) (updN gh i5 v) W' := by
  have hz := h.wx.bel.size
  refine ⟨h.st, ?_, h.st _ _ (held_below hB) h.pp, fun _ _ _ => by rw [apN_eq]; exact ho.lower hz, fun e e2 => ?_⟩
  · have hx := h.wx
    rw [if_neg (c := f i5 = true ∧ f i6 = false) (by rw [hf]; simp)] at hx
    rw [ap_eq, ap_ne n6, ap_ne n12, ap_ne n13, apN_eq, apN_ne n12, if_pos (c := true = true ∧ f i6 = false) ⟨rfl, h6⟩]
    refine hx.more hB (fun b hm => ?_)
    simp only [List.mem_append] at hm ⊢
    rcases hm with hm | hm | hm
    · exact .inl (.inl hm)
    · exact .inr (ho.block b (by simpa using hm))
    · exact .inl (.inr (.inr hm))
  · rw [ap_ne n12] at e; rw [ap_ne n13] at e2; rw [apN_ne n12]; exact (h.o12 e e2).keep hB
theorem D2S.s12 (h : D2S w base bx g gx m m2 H0 PP s SN bs i5 i6 i12 i13 f gh W) {v : Value} (hf : f i12 = false) (h13 : f i13 = false) (n5 : i5 ≠ i12) (n6 : i6 ≠ i12) (n13 : i13 ≠ i12) (ho : Own W' W.heap.size 5 v bs.length bs) (hB : Below W.heap.size W W') :
    D2S w base bx g gx m m2 H0 PP s SN bs i5 i6 i12 i13 (upd f i12) (updN gh i12 v) W' := by
  have hz := h.wx.bel.size
  refine ⟨h.st, ?_, h.st _ _ (held_below hB) h.pp, fun e0 e e2 => ?_, fun _ _ => by rw [apN_eq]; exact ho.lower hz⟩
  · have hx := h.wx
    rw [if_neg (c := f i12 = true ∧ f i13 = false) (by rw [hf]; simp)] at hx
    rw [ap_eq, ap_ne n5, ap_ne n6, ap_ne n13, apN_eq, apN_ne n5, if_pos (c := true = true ∧ f i13 = false) ⟨rfl, h13⟩]
    refine hx.more hB (fun b hm => ?_)
    simp only [List.mem_append] at hm ⊢
    rcases hm with hm | hm | hm
    · exact .inl (.inl hm)
    · exact .inl (.inr (.inl hm))
    · exact .inr (ho.block b (by simpa using hm))
  · rw [ap_ne n5] at e; rw [ap_ne n6] at e2; rw [apN_ne n5]; exact (h.o5 e0 e e2).keep hB
theorem D2S.pre6 (h : D2S w base bx g gx m m2 H0 PP s SN bs i5 i6 i12 i13 f gh W) (h6 : f i6 = false) : DX w base bx g gx (if f i13 = true then m2 else m) (H0 ++ ((if f i5 = true ∧ f i6 = false then (gh i5).ownBlock.toList else []) ++ (if f i12 = true ∧ f i13 = false then (gh i12).ownBlock.toList else []))) s (if f i13 = true then SN else s) W := by
  have hx := h.wx
  rwa [if_neg (c := f i6 = true) (by rw [h6]; decide)] at hx
theorem D2S.s6 (h : D2S w base bx g gx m m2 H0 PP s SN bs i5 i6 i12 i13 f gh W) {k : Value} (n5 : i5 ≠ i6) (n12 : i12 ≠ i6) (n13 : i13 ≠ i6)
    (hp : DX w base bx g gx (if f i13 = true then m2 else m) (H0 ++ ((if f i5 = true ∧ f i6 = false then (gh i5).ownBlock.toList else []) ++ (if f i12 = true ∧ f i13 = false then (gh i12).ownBlock.toList else []))) SN (if f i13 = true then SN else s) W')
    (hh : HeldW (H0 ++ ((if f i5 = true ∧ f i6 = false then (gh i5).ownBlock.toList else []) ++ (if f i12 = true ∧ f i13 = false then (gh i12).ownBlock.toList else []))) W W') : D2S w base bx g gx m m2 H0 PP s SN bs i5 i6 i12 i13 (upd f i6) (updN gh i6 k) W' := by
  refine ⟨h.st, ?_, h.st _ _ (hh.less (fun b hb => by simp [hb])) h.pp, fun _ _ e => (by rw [ap_eq] at e; cases e), fun e e2 => ?_⟩
  · rw [ap_eq, ap_ne n5, ap_ne n12, ap_ne n13, apN_ne n5, apN_ne n12, if_neg (c := f i5 = true ∧ true = false) (by simp), if_pos (c := true = true) rfl]
    refine hp.less (fun b hm => ?_)
    simp only [List.mem_append] at hm ⊢
    rcases hm with hm | hm | hm
    · exact .inl hm
    · cases hm
    · exact .inr (.inr hm)
  · rw [ap_ne n12] at e; rw [ap_ne n13] at e2; rw [apN_ne n12]
    exact hh.own (h.o12 e e2) (fun b hb => by rw [if_pos (c := f i12 = true ∧ f i13 = false) ⟨e, e2⟩, hb]; simp)
theorem D2S.pre13 (h : D2S w base bx g gx m m2 H0 PP s SN bs i5 i6 i12 i13 f gh W) (h13 : f i13 = false) : DX w base bx g gx m (H0 ++ ((if f i5 = true ∧ f i6 = false then (gh i5).ownBlock.toList else []) ++ (if f i12 = true ∧ f i13 = false then (gh i12).ownBlock.toList else []))) (if f i6 = true then SN else s) s W := by
  have hx := h.wx
  rwa [if_neg (c := f i13 = true) (by rw [h13]; decide), if_neg (c := f i13 = true) (by rw [h13]; decide)] at hx
theorem D2S.s13 (h : D2S w base bx g gx m m2 H0 PP s SN bs i5 i6 i12 i13 f gh W) {k : Value} (n5 : i5 ≠ i13) (n6 : i6 ≠ i13) (n12 : i12 ≠ i13)
    (hp : DX w base bx g gx m2 (H0 ++ ((if f i5 = true ∧ f i6 = false then (gh i5).ownBlock.toList else []) ++ (if f i12 = true ∧ f i13 = false then (gh i12).ownBlock.toList else []))) (if f i6 = true then SN else s) SN W')
    (hh : HeldW (H0 ++ ((if f i5 = true ∧ f i6 = false then (gh i5).ownBlock.toList else []) ++ (if f i12 = true ∧ f i13 = false then (gh i12).ownBlock.toList else []))) W W') : D2S w base bx g gx m m2 H0 PP s SN bs i5 i6 i12 i13 (upd f i13) (updN gh i13 k) W' := by
  refine ⟨h.st, ?_, h.st _ _ (hh.less (fun b hb => by simp [hb])) h.pp, fun e0 e e2 => ?_, fun _ e => (by rw [ap_eq] at e; cases e)⟩
  · rw [ap_eq, ap_ne n5, ap_ne n6, ap_ne n12, apN_ne n5, apN_ne n12, if_neg (c := f i12 = true ∧ true = false) (by simp), if_pos (c := true = true) rfl, if_pos (c := true = true) rfl]
    refine hp.less (fun b hm => ?_)
    simp only [List.mem_append] at hm ⊢
    rcases hm with hm | hm | hm
    · exact .inl hm
    · exact .inr (.inl hm)
    · cases hm
  · rw [ap_ne n5] at e; rw [ap_ne n6] at e2; rw [apN_ne n5]
    exact hh.own (h.o5 e0 e e2) (fun b hb => by rw [if_pos (c := f i5 = true ∧ f i6 = false) ⟨e, e2⟩, hb]; simp)
theorem D2S.start {n : Nat} (hst : ∀ W W', HeldW H0 W W' → PP W → PP W') (hx : DX w base bx g gx m H0 s s W) (hp : PP W) (h5 : i5 < n ∨ 20 ≤ i5) (h6 : i6 < n) (h12 : i12 < n) (h13 : i13 < n) : D2S w base bx g gx m m2 H0 PP s SN bs i5 i6 i12 i13 (fun j => decide (n ≤ j)) (fun _ => .pointer none) W.drew := by
  have e6 : decide (n ≤ i6) = false := by simp; omega
  have e12 : decide (n ≤ i12) = false := by simp; omega
  have e13 : decide (n ≤ i13) = false := by simp; omega
  refine ⟨hst, ?_, hst _ _ (held_below (Below.refl _ _).drew) hp, fun h e => ?_, fun e => ?_⟩
  · simp only [e6, e12, e13, Bool.false_eq_true, if_false, false_and]
    refine (hx.keep (Below.refl _ _).drew).less (fun b hb => ?_)
    have h0 : (Value.pointer none).ownBlock = none := rfl
    simpa [h0] using hb
  · have : n ≤ i5 := of_decide_eq_true e
    rcases h5 with h5 | h5 <;> omega
  · rw [e12] at e; cases e
theorem D2S.fin (h : D2S w base bx g gx m m2 H0 PP s SN bs i5 i6 i12 i13 f gh W) (h6 : f i6 = true) (h13 : f i13 = true) : DX w base bx g gx m2 H0 SN SN W := by
  have hx := h.wx
  rw [if_pos (c := f i6 = true) h6, if_pos (c := f i13 = true) h13, if_pos (c := f i13 = true) h13] at hx
  exact hx.less (fun b hb => by simp [hb])
end
end Go.Proofs.Ytiejndkchcljdaa
