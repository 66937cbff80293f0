/- Contracts: a writer of the plain reference: the rest. -/
import Derived.Test.YtcpkjpeimnaimaaWrRefPut
import Derived.Test.YtcpkjpeimnaimaaWrOneK
namespace Go.Proofs.Ytcpkjpeimnaimaa
open Go.RowKit

theorem RwPost.fresh {w w1 w2 : World} {base g : Nat} {r : Option Nat} {lim : Nat} {s' : WS} {e : Ending} (k1 : Below w.heap.size w w1) (h : RwPost w1 base g r lim s' e w2) : RwPost w base g r lim s' e w2 := by
  obtain ⟨he, r', h1, h2, h3⟩ := h
  exact ⟨he, r', h1, (Chg.of_below k1).trans h2 (fun b hb => .inl hb), (Moved.refl _ _).trans h3 k1.size⟩
theorem RwPost.ret {w w' : World} {base g : Nat} {r : Option Nat} {lim : Nat} {s' : WS} {e : Ending} (h : RwPost w base g r lim s' e w') : e = .returned (.int .i64 (s'.e : Int)) := h.1
theorem refNew_bad (lim : Int) (w : World) (h : lim < 0 ∨ 67108864 < lim) :
    Calls Try.prog 10 #[.int .i64 lim] w fun e w' => e = .returned (.tuple #[.pointer none, .int .i64 3]) ∧ w = w' := by
  rcases h with h | h
  · go_enter Try.func10, Try.ntmps10
    go_wp2_with fail
    go_ret2
    exact ⟨rfl, rfl⟩
  · have h0 : ¬ lim < 0 := by omega
    go_enter Try.func10, Try.ntmps10
    go_wp2_with fail
    go_ret2
    exact ⟨rfl, rfl⟩
theorem refNew_calls (lim : Nat) (w : World) (h : lim ≤ 67108864) :
    Calls Try.prog 10 #[.int .i64 (lim : Int)] w fun e w' => ∃ g, e = .returned (.tuple #[.pointer (some ⟨g, 0, none⟩), .int .i64 0]) ∧ RwB w' w.heap.size g none lim ⟨[], 0⟩ ∧ Below w.heap.size w w' := by
  have h0 : ¬ (lim : Int) < 0 := by omega
  have h1 : ¬ (67108864 : Int) < (lim : Int) := by omega
  go_enter Try.func10, Try.ntmps10
  go_wp2_with fail
  have b1 := below_new w (.cells #[.int .i64 (lim : Int), .slice none 0 0, .int .i64 0] 53)
  have k1 := Blk.new w 53 #[.int .i64 (lim : Int), .slice none 0 0, .int .i64 0]
  generalize w.alloc (.cells #[.int .i64 (lim : Int), .slice none 0 0, .int .i64 0] 53) = w1 at b1 k1 ⊢
  go_ret2
  exact ⟨_, rfl, ⟨none, 0, k1, Own.nil _ _ _, rfl, by simp, Nat.le_refl _, Nat.zero_le _, h⟩, b1⟩
theorem refBytes_calls (B n c : Nat) (A : Option Addr) (bs : List UInt8) (w : World) (hs : SB w B A n bs) (hn : n ≤ 549755813888) :
    Calls Try.prog 19 #[.slice A n c] w fun e w' => ∃ v, e = .returned v ∧ Own w' w.heap.size 5 v (encSize n + n) (enc n ++ bs) ∧ Below w.heap.size w w' := by
  have HS := hid hs
  clear hs
  have he := encSize_le (n := n) (by omega)
  go_enter Try.func19, Try.ntmps19
  go_wp2_with fail
  refine (refNum_calls n (by omega) w).mono ?_
  rintro _ w1 ⟨v, rfl, h1, b1⟩
  have H1 := hid h1; have B1 := hid b1
  clear h1 b1
  go_wp2_with (at_builtin; refine Held.go ?_)
  refine wpList_append_bytes w1 rfl _ _ _ rfl _ Try.underlying31 info5' w.heap.size v (encSize n) (enc n) rfl H1.out B _ n c bs rfl (HS.out.keep B1.out) (by omega) B1.out.size ?_
  intro v' w' h1 h2 h3
  have HK := hid (show Own w' w.heap.size 5 v' (encSize n + n) (enc n ++ bs) ∧ Below w.heap.size w w' from ⟨h1, B1.out.trans (below_of_grown h2 B1.out.size (fun g e => (H1.out.block g e).1))⟩)
  clear h1 h2 h3
  go_wp2_with fail
  go_ret
  exact ⟨v', rfl, HK.out⟩
theorem neg_one (n : Int) : anyNeg [numI n] = decide (n < 0) := by
  unfold numI
  by_cases h : n < 0
  · rw [if_pos h]; simp [anyNeg, h]
  · rw [if_neg h]; simp [anyNeg, h]
theorem neg_zs (zs : List Int) : anyNeg (zs.map numI) = zs.any (fun z => decide (z < 0)) := by
  induction zs with
  | nil => rfl
  | cons z zs ih =>
    rw [List.map_cons, List.any_cons, ← ih, ← neg_one z]
    simp [anyNeg]
theorem flat_one {n : Int} (h : 0 ≤ n) : flat [numI n] = enc n.toNat := by
  unfold numI
  rw [if_neg (by omega)]
  simp [flat]
theorem si_lit (w : World) (zs : List Int) (T : TypeId) (g : Nat) (h : Blk w g T (zs.map (Value.int .i64)).toArray) : SI w (some ⟨g, 0, none⟩) zs.length zs :=
  ⟨rfl, fun _ => ⟨g, 0, rfl, fun j z hj => by
    rw [Nat.zero_add]
    exact h.cell j (by simp [hj])⟩⟩
section
variable (base g : Nat) (r : Option Nat) (lim : Nat) (s : WS) (w : World)
/-- the numbers that come with a form, as a row of their own -/
theorem put_lit (B l c : Nat) (A : Option Addr) (cs : List UInt8) (zs : List Int) (items : List Item) (w1 : World) (b1 : Below w.heap.size w w1) (h : RwB w base g r lim s) (hs : SB w1 B A l cs) (hl : l ≤ 549755813888) (hz : zs.length ≤ 549755813888) (h1 : anyNeg items = zs.any (fun z => decide (z < 0))) (h2 : anyNeg items = false → cs = flat items) :
    Calls Try.prog 18 #[.pointer (some ⟨g, 0, none⟩), .slice A l c, .slice (some ⟨w1.heap.size, 0, none⟩) zs.length zs.length] (w1.alloc (.cells (zs.map (Value.int .i64)).toArray 3)) (RwPost w base g r lim (putW lim s items)) := by
  have b2 := below_new w1 (.cells (zs.map (Value.int .i64)).toArray 3)
  have k2 := Blk.new w1 3 (zs.map (Value.int .i64)).toArray
  refine (refPut_calls base g r lim s B l c zs.length zs.length A _ cs zs items _ ((h.keep b1).keep b2) (hs.keep b2) (si_lit _ zs _ _ k2) hl hz h1 h2).mono ?_
  intro e w' hp
  exact RwPost.fresh (b1.trans (b2.mono b1.size)) hp
theorem put_bare (B l c : Nat) (A : Option Addr) (cs : List UInt8) (items : List Item) (w1 : World) (b1 : Below w.heap.size w w1) (h : RwB w base g r lim s) (hs : SB w1 B A l cs) (hl : l ≤ 549755813888) (h1 : anyNeg items = false) (h2 : cs = flat items) :
    Calls Try.prog 18 #[.pointer (some ⟨g, 0, none⟩), .slice A l c, .slice none 0 0] w1 (RwPost w base g r lim (putW lim s items)) := by
  refine (refPut_calls base g r lim s B l c 0 0 A none cs [] items _ (h.keep b1) hs ⟨rfl, fun h => absurd h (Nat.lt_irrefl 0)⟩ hl (by omega) (by rw [h1]; rfl) (fun _ => h2)).mono ?_
  intro e w' hp
  exact RwPost.fresh b1 hp
theorem refWNum_calls (n : Int) (hn : n < 9223372036854775808) (h : RwB w base g r lim s) :
    Calls Try.prog 13 #[.pointer (some ⟨g, 0, none⟩), .int .i64 n] w (RwPost w base g r lim (putW lim s [numI n])) := by
  have HP := hid (fun B l c A cs w1 b1 (hs : SB w1 B A l cs) hl h2 => put_lit base g r lim s w B l c A cs [n] [numI n] w1 b1 h hs hl (by simp) (by rw [neg_one]; simp) h2)
  clear h
  have hmax : max n 0 = ((max n 0).toNat : Int) := by omega
  generalize hM : (max n 0).toNat = M at hmax
  have HM := hid (show M < 9223372036854775808 ∧ (0 ≤ n → n.toNat = M) from by omega)
  clear hM
  generalize putW lim s [numI n] = s' at HP ⊢
  go_enter Try.func13, Try.ntmps13
  go_wp2_with fail
  refine (refNum_calls M HM.out.1 w).mono ?_
  rintro _ w1 ⟨v, rfl, h1, b1⟩
  have he := encSize_le (n := M) (by have := HM.out.1; omega)
  obtain ⟨A1, c1, rfl, -, s1, -⟩ := h1.sb
  have HC := hid (HP.out _ _ c1 _ _ w1 b1 s1 (by omega) (fun hneg => by
    rw [neg_one] at hneg
    have h0 : 0 ≤ n := by simpa using hneg
    rw [flat_one h0, HM.out.2 h0]))
  clear h1 b1 s1 he HP
  go_wp2_with fail
  refine HC.out.mono ?_
  intro e w' hp
  have HK := hid hp
  obtain rfl := hp.ret
  clear hp HC
  go_wp2_with fail
  go_ret
  exact HK.out
theorem sized_items (cs : List UInt8) : anyNeg [numI (cs.length : Int), some cs] = false ∧ flat [numI (cs.length : Int), some cs] = enc cs.length ++ cs := by
  have h0 : ¬ (cs.length : Int) < 0 := by omega
  unfold numI
  rw [if_neg h0]
  simp [anyNeg, flat]
set_option maxRecDepth 20000 in
theorem refWText_calls (cs : List UInt8) (hc : cs.length ≤ 274877906944) (h : RwB w base g r lim s) :
    Calls Try.prog 15 #[.pointer (some ⟨g, 0, none⟩), .string (strB cs)] w (RwPost w base g r lim (putW lim s [numI cs.length, some cs])) := by
  have HP := hid (fun B l c A bs w1 b1 (hs : SB w1 B A l bs) hl h2 => put_bare base g r lim s w B l c A bs [numI cs.length, some cs] w1 b1 h hs hl (sized_items cs).1 h2)
  clear h
  generalize putW lim s [numI cs.length, some cs] = s' at HP ⊢
  go_enter Try.func15, Try.ntmps15
  go_wp2_with ((refine wpList_conv_text rfl 9 31 5 _ rfl Try.underlying9 Try.underlying31 Try.underlying5 cs rfl ?_); refine Held.go ?_)
  intro w1 c1 b1 hz1 s1 hl1
  have B1 := hid b1; have S1 := hid s1
  clear b1 s1
  go_wp2_with fail
  refine (refBytes_calls _ cs.length c1 _ cs w1 S1.out (by omega)).mono ?_
  rintro _ w2 ⟨v, rfl, h2, b2⟩
  have he := encSize_le (n := cs.length) (by omega)
  obtain ⟨A2, c2, rfl, -, s2, -⟩ := h2.sb
  have HC := hid (HP.out _ _ c2 _ _ w2 (B1.out.trans (b2.mono B1.out.size)) s2 (by omega) (sized_items cs).2.symm)
  clear h2 b2 s2 he HP
  go_wp2_with fail
  refine HC.out.mono ?_
  intro e w' hp
  have HK := hid hp
  obtain rfl := hp.ret
  clear hp HC
  go_wp2_with fail
  go_ret
  exact HK.out
theorem put_byte (X : Int) (y : UInt8) (items : List Item) (h : RwB w base g r lim s) (hX : #[Value.int .u8 X] = ([y].map bv).toArray) (h1 : anyNeg items = false) (h2 : [y] = flat items) :
    Calls Try.prog 18 #[.pointer (some ⟨g, 0, none⟩), .slice (some ⟨w.heap.size, 0, none⟩) 1 1, .slice none 0 0] (w.alloc (.cells #[.int .u8 X] 5)) (RwPost w base g r lim (putW lim s items)) := by
  have o := Own.lit w 5 w.heap.size [y] #[.int .u8 X] 1 hX rfl (Nat.le_refl _) (by omega)
  obtain ⟨A, c, e, -, s1, -⟩ := o.sb
  cases e
  exact put_bare base g r lim s w _ 1 1 _ _ _ _ (below_new _ _) h s1 (by omega) h1 h2
theorem refWBool_calls (b : Bool) (h : RwB w base g r lim s) :
    Calls Try.prog 28 #[.pointer (some ⟨g, 0, none⟩), .bool b] w (RwPost w base g r lim (putW lim s [numI (if b then 1 else 0)])) := by
  cases b
  · have HC := hid (put_byte base g r lim s w 0 0 [numI (if false then 1 else 0)] h rfl rfl rfl)
    clear h
    generalize putW lim s [numI (if false then 1 else 0)] = s' at HC ⊢
    go_enter Try.func28, Try.ntmps28
    go_wp2_with fail
    refine HC.out.mono ?_
    intro e w' hp
    have HK := hid hp
    obtain rfl := hp.ret
    clear hp HC
    go_wp2_with fail
    go_ret
    exact HK.out
  · have HC := hid (put_byte base g r lim s w 1 1 [numI (if true then 1 else 0)] h rfl rfl rfl)
    clear h
    generalize putW lim s [numI (if true then 1 else 0)] = s' at HC ⊢
    go_enter Try.func28, Try.ntmps28
    go_wp2_with fail
    refine HC.out.mono ?_
    intro e w' hp
    have HK := hid hp
    obtain rfl := hp.ret
    clear hp HC
    go_wp2_with fail
    go_ret
    exact HK.out
theorem flat_dot {x y : Int} (hx : 0 ≤ x) (hy : 0 ≤ y) : flat [numI x, numI y] = enc x.toNat ++ enc y.toNat := by
  unfold numI
  rw [if_neg (by omega), if_neg (by omega)]
  simp [flat]
theorem neg_two (x y : Int) : anyNeg [numI x, numI y] = ([x, y].any fun z => decide (z < 0)) := neg_zs [x, y]
theorem sb_blk {w : World} {g : Nat} {T : TypeId} {l : List UInt8} (h : Blk w g T (bcells l)) : SB w (g + 1) (some ⟨g, 0, none⟩) l.length l :=
  ⟨rfl, fun _ => ⟨g, 0, rfl, by omega, fun j y hj => by
    rw [Nat.zero_add]
    exact h.cell j (by simp [bcells, hj])⟩⟩
set_option maxRecDepth 20000 in
theorem refWID_calls (id : List UInt8) (h32 : id.length = 32) (h : RwB w base g r lim s) :
    Calls Try.prog 22 #[.pointer (some ⟨g, 0, none⟩), .agg (bcells id)] w (RwPost w base g r lim (putW lim s [some id])) := by
  have HC := hid (put_bare base g r lim s w (w.heap.size + 1) 32 32 (some ⟨w.heap.size, 0, none⟩) id [some id] (w.alloc (.cells (bcells id) 33)) (below_new _ _) h (h32 ▸ sb_blk (Blk.new w 33 (bcells id))) (by omega) rfl (by simp [flat]))
  clear h
  generalize putW lim s [some id] = s' at HC ⊢
  go_enter Try.func22, Try.ntmps22
  go_wp2_with fail
  refine HC.out.mono ?_
  intro e w' hp
  have HK := hid hp
  obtain rfl := hp.ret
  clear hp HC
  go_wp2_with fail
  go_ret
  exact HK.out
def vecP (zs : List Int) : List UInt8 := zs.flatMap fun z => enc (max z 0).toNat
theorem vecP_flat {zs : List Int} (h : anyNeg (numI (zs.length : Int) :: zs.map numI) = false) : enc zs.length ++ vecP zs = flat (numI (zs.length : Int) :: zs.map numI) := by
  have hn : ∀ z ∈ zs, 0 ≤ z := by
    rw [show anyNeg (numI (zs.length : Int) :: zs.map numI) = (anyNeg [numI (zs.length : Int)] || anyNeg (zs.map numI)) from by simp [anyNeg], Bool.or_eq_false_iff, neg_zs] at h
    intro z hz
    have := List.any_eq_false.1 h.2 z hz
    simpa using this
  have h1 : vecP zs = flat (zs.map numI) := by
    clear h
    induction zs with
    | nil => rfl
    | cons z zs ih =>
      have hz := hn z (by simp)
      rw [show vecP (z :: zs) = enc (max z 0).toNat ++ vecP zs from by simp [vecP], ih (fun y hy => hn y (by simp [hy]))]
      rw [show (max z 0).toNat = z.toNat from by omega, ← flat_one hz]
      simp [flat]
  rw [h1]
  have h2 := flat_one (n := (zs.length : Int)) (by omega)
  rw [Int.toNat_natCast] at h2
  rw [← h2]
  simp [flat]
theorem vecP_len (zs : List Int) (h : ∀ z ∈ zs, z < 9223372036854775808) : (vecP zs).length ≤ 9 * zs.length := by
  induction zs with
  | nil => simp [vecP]
  | cons z zs ih =>
    rw [show vecP (z :: zs) = enc (max z 0).toNat ++ vecP zs from by simp [vecP], List.length_append, List.length_cons, enc_length]
    have h1 := (encSize_le (n := (max z 0).toNat) (by have := h z (by simp); omega)).2
    have h2 := ih (fun y hy => h y (by simp [hy]))
    omega
theorem vecP_snoc (zs : List Int) (k : Nat) (z : Int) (h : zs[k]? = some z) : vecP (zs.take (k + 1)) = vecP (zs.take k) ++ enc (max z 0).toNat := by
  unfold vecP
  rw [List.take_add_one, h, List.flatMap_append]
  simp
set_option maxHeartbeats 1000000 in
set_option maxRecDepth 20000 in
theorem refWVec_calls (m c : Nat) (A : Option Addr) (zs : List Int) (hi : SI w A m zs) (hm : m ≤ 1000000) (hz : ∀ z ∈ zs, z < 9223372036854775808) (hsep : 0 < m → ∀ b off, A = some ⟨b, off, none⟩ → b < w.heap.size) (h : RwB w base g r lim s) :
    Calls Try.prog 26 #[.pointer (some ⟨g, 0, none⟩), .slice A m c] w (RwPost w base g r lim (putW lim s (numI m :: zs.map numI))) := by
  have hzl := hi.1
  subst hzl
  have hl := vecP_len zs hz
  have he := encSize_le (n := zs.length) (by omega)
  have HP := hid (fun B l c' A' cs w1 (b1 : Below w.heap.size w w1) (hs : SB w1 B A' l cs) hl h2 => refPut_calls base g r lim s B l c' zs.length c A' A cs zs (numI zs.length :: zs.map numI) w1 (h.keep b1) hs (hi.keep b1) hl (by omega) (by
    rw [show anyNeg (numI (zs.length : Int) :: zs.map numI) = (anyNeg [numI (zs.length : Int)] || anyNeg (zs.map numI)) from by simp [anyNeg], neg_zs, neg_one, decide_eq_false (show ¬ (zs.length : Int) < 0 by omega), Bool.false_or]) h2)
  have HV := hid (fun hh => (vecP_flat (zs := zs) hh))
  have HI := hid hi; have HZ := hid hz
  have HL := hid hl
  clear h hi hz hl
  go_enter Try.func26, Try.ntmps26
  go_wp2_with fail
  refine (refNum_calls zs.length (by omega) w).mono ?_
  rintro _ w1 ⟨v, rfl, h1, b1⟩
  have H1 := hid h1; have B1 := hid b1
  clear h1 b1
  go_wp2_with fail
  go_loopw [5, 6] (fun u i wr => ∃ k : Nat, k ≤ zs.length ∧ i = .int .i64 (k : Int) ∧ Hid (Own wr w.heap.size 5 u (enc zs.length ++ vecP (zs.take k)).length (enc zs.length ++ vecP (zs.take k))) ∧ Hid (Below w.heap.size w wr)) (fun _ i _ => zs.length - (intOf i).toNat)
  case atStart => exact ⟨0, Nat.zero_le _, rfl, (by rw [List.take_zero, show vecP [] = [] from rfl, List.append_nil, enc_length]; exact H1.out : Own w1 w.heap.size 5 v (enc zs.length ++ vecP (zs.take 0)).length (enc zs.length ++ vecP (zs.take 0))), B1⟩
  case round =>
    clear H1 B1
    obtain ⟨k, hk, rfl, HO, HB⟩ := hrel
    by_cases hlt : k < zs.length
    · obtain ⟨ib, io, z, rfl, hz, hcell⟩ := (HI.out.keep HB.out).at_ hlt
      have hzb := HZ.out z (List.mem_of_getElem? hz)
      have hmz : max z 0 = ((max z 0).toNat : Int) := by omega
      have HS := hid (vecP_snoc zs k z hz)
      have hlk := vecP_len (zs.take k) (fun y hy => HZ.out y (List.mem_of_mem_take hy))
      rw [List.length_take] at hlk
      generalize hM : (max z 0).toNat = M at hmz HS
      have hMb : M < 9223372036854775808 := by omega
      clear hz hM hzb
      go_wp2_with fail
      refine (refNum_calls M hMb wr).mono ?_
      rintro _ w2 ⟨v2, rfl, h2, b2⟩
      have he2 := encSize_le (n := M) (by omega)
      obtain ⟨A2, c2, rfl, -, s2, -⟩ := h2.sb
      have S2 := hid s2; have HO2 := hid (HO.out.keep b2); have HB2 := hid (HB.out.trans (b2.mono HB.out.size))
      have hLen : (enc zs.length ++ vecP (zs.take k)).length ≤ 9000009 := by rw [List.length_append, enc_length]; omega
      have HX := hid (show enc zs.length ++ vecP (zs.take (k + 1)) = (enc zs.length ++ vecP (zs.take k)) ++ enc M from by rw [HS.out, List.append_assoc])
      clear h2 b2 s2 HO HB hcell hlk
      go_wp2_with (at_builtin; refine Held.go ?_)
      refine wpList_append_bytes w2 rfl _ _ _ rfl _ Try.underlying31 info5' w.heap.size u5 _ _ rfl HO2.out _ A2 _ c2 _ rfl S2.out (by omega) HB2.out.size ?_
      intro v' w' h1 h2 h3
      have H4 := hid (show Own w' w.heap.size 5 v' (enc zs.length ++ vecP (zs.take (k + 1))).length (enc zs.length ++ vecP (zs.take (k + 1))) from by
        have e := (congrArg List.length HX.out).trans (List.length_append.trans (congrArg (_ + ·) (enc_length M)))
        rw [e, HX.out]; exact h1)
      have H5 := hid (HB2.out.trans (below_of_grown h2 HB2.out.size (fun g e => (HO2.out.block g e).1)))
      clear h1 h2 h3
      go_wp2_with fail
      go_roundw
      case rel => exact ⟨k + 1, by omega, by go_num, H4, H5⟩
      case measure => simp [intOf]; omega
    · have hke : zs.take k = zs := List.take_of_length_le (by omega)
      obtain rfl : k = zs.length := by omega
      rw [hke] at HO
      obtain ⟨A2, c2, e2, -, s2, -⟩ := HO.out.sb
      subst e2
      have hlen : (enc zs.length ++ vecP zs).length ≤ 9000009 := by have := HL.out; rw [List.length_append, enc_length]; omega
      have HC := hid (HP.out _ _ c2 _ _ wr HB.out s2 (by omega) (fun hh => HV.out hh))
      have HB2 := HB
      clear HP s2 hke HV HL HO hlen HB
      generalize (enc zs.length ++ vecP zs).length = X at HC ⊢
      go_wp2_with fail
      refine HC.out.mono ?_
      intro e w' hp
      have HK := hid (RwPost.fresh HB2.out hp)
      obtain rfl := hp.ret
      clear hp HC
      go_wp2_with fail
      go_ret
      exact HK.out
end
end Go.Proofs.Ytcpkjpeimnaimaa
