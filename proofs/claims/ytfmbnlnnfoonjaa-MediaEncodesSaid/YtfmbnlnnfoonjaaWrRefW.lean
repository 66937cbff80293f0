/- Contracts: a writer of the plain reference: NewWriter, Bytes, Num, Text, ID. -/
import Derived.Test.YtfmbnlnnfoonjaaWrRefPut
import Derived.Lib.ConvBytes
namespace Go.Proofs.Ytfmbnlnnfoonjaa
open Go.RowKit

theorem wpList_conv_text {P : Program} {w : World} {ops : Array Oper} {rest : List Oper} {o : Oper} {a : Act} {Q : Exit → Act → World → Prop} (hgd : o.guard = none) (src dst e : TypeId) (x : Operand) (ho : o.op = .convert src dst x)
    (hs : P.underlying src = some .string) (hd : P.underlying dst = some (.slice e)) (he : P.underlying e = some (.int .u8)) (cs : List UInt8) (hx : a.eval x = .string (strB cs))
    (h : ∀ w' c, Below w.heap.size w w' → w'.heap.size = w.heap.size + 1 → SB w' w'.heap.size (some ⟨w.heap.size, 0, none⟩) cs.length cs → cs.length ≤ c → wpList P ops Q rest (a.put o.dst (.slice (some ⟨w.heap.size, 0, none⟩) cs.length c)) w') : wpList P ops Q (o :: rest) a w := by
  refine wpList_plain hgd fun K hK => ?_
  have hr := Lib.run_convert_string_bytes (P := P) w src dst e (strB cs) hs hd he
  have hsz := Lib.bytesWorld_size w e (strB cs)
  unfold Oper.wp execOp
  simp only [ho, hx, Sem.run_bind, Sem.run_pure, Result.andThen_ok, hr]
  refine hK _ _ (h _ _ ⟨rfl, rfl, rfl, by omega, fun k hk => Lib.bytesWorld_at_old w e (strB cs) k hk⟩ hsz ⟨rfl, fun _ => ⟨w.heap.size, 0, rfl, by omega, fun j y hj => ?_⟩⟩ (grownCap_ge w cs.length 0 e))
  have hlt : j < cs.length := (List.getElem?_eq_some_iff.1 hj).1
  have := Lib.bytesWorld_cell w e (strB cs) j hlt
  rw [Nat.zero_add, this]
  simp [strB, List.getD, hj, bv]
theorem RwPost.fresh {w w1 w2 : World} {base g : Nat} {r : Option Nat} {lim : Nat} {s' : WS} {e : Ending} (k1 : Below w.heap.size w w1) (h : RwPost w1 base g r lim s' e w2) : RwPost w base g r lim s' e w2 := by
  obtain ⟨he, r', h1, h2, h3⟩ := h
  exact ⟨he, r', h1, (Chg.of_below k1).trans h2 (fun b hb => .inl hb), (Moved.refl _ _).trans h3 k1.size⟩
theorem RwPost.ret {w w' : World} {base g : Nat} {r : Option Nat} {lim : Nat} {s' : WS} {e : Ending} (h : RwPost w base g r lim s' e w') : e = .returned (.int .i64 (s'.e : Int)) := h.1
theorem refNew_calls (lim : Nat) (w : World) (h : lim ≤ 67108864) :
    Calls Try.prog 37 #[.int .i64 (lim : Int)] w fun e w' => ∃ g, e = .returned (.tuple #[.pointer (some ⟨g, 0, none⟩), .int .i64 0]) ∧ RwB w' w.heap.size g none lim ⟨[], 0⟩ ∧ Below w.heap.size w w' := by
  have h0 : ¬ (lim : Int) < 0 := by omega
  have h1 : ¬ (67108864 : Int) < (lim : Int) := by omega
  go_enter Try.func37, Try.ntmps37
  go_wp2_with fail
  have b1 := below_new w (.cells #[.int .i64 (lim : Int), .slice none 0 0, .int .i64 0] 92)
  have k1 := Blk.new w 92 #[.int .i64 (lim : Int), .slice none 0 0, .int .i64 0]
  generalize w.alloc (.cells #[.int .i64 (lim : Int), .slice none 0 0, .int .i64 0] 92) = w1 at b1 k1 ⊢
  go_ret2
  exact ⟨_, rfl, ⟨none, 0, k1, Own.nil _ _ _, rfl, by simp, Nat.le_refl _, Nat.zero_le _, h⟩, b1⟩
theorem refBytes_calls (B n c : Nat) (A : Option Addr) (bs : List UInt8) (w : World) (hs : SB w B A n bs) (hn : n ≤ 549755813888) :
    Calls Try.prog 64 #[.slice A n c] w fun e w' => ∃ v, e = .returned v ∧ Own w' w.heap.size 5 v (encSize n + n) (enc n ++ bs) ∧ Below w.heap.size w w' := by
  have HS := hid hs
  clear hs
  have he := encSize_le (n := n) (by omega)
  go_enter Try.func64, Try.ntmps64
  go_wp2_with fail
  refine (refNum_calls n (by omega) w).mono ?_
  rintro _ w1 ⟨v, rfl, h1, b1⟩
  have H1 := hid h1; have B1 := hid b1
  clear h1 b1
  go_wp2_with (at_builtin; refine Held.go ?_)
  refine wpList_append_bytes w1 rfl _ _ _ rfl _ Try.underlying32 info5' w.heap.size v (encSize n) (enc n) rfl H1.out B _ n c bs rfl (HS.out.keep B1.out) (by omega) B1.out.size ?_
  intro v' w' h1 h2 h3
  have HK := hid (show Own w' w.heap.size 5 v' (encSize n + n) (enc n ++ bs) ∧ Below w.heap.size w w' from ⟨h1, B1.out.trans (below_of_grown h2 B1.out.size (fun g e => (H1.out.block g e).1))⟩)
  clear h1 h2 h3
  go_wp2_with fail
  go_ret
  exact ⟨v', rfl, HK.out⟩
theorem neg_num (n : Int) : anyNeg [numI n] = decide (n < 0) := by
  unfold numI
  by_cases h : n < 0
  · rw [if_pos h]; simp [anyNeg, h]
  · rw [if_neg h]; simp [anyNeg, h]
theorem neg_zs (zs : List Int) : anyNeg (zs.map numI) = zs.any (fun z => decide (z < 0)) := by
  induction zs with
  | nil => rfl
  | cons z zs ih =>
    rw [List.map_cons, List.any_cons, ← ih, ← neg_num z]
    simp [anyNeg]
theorem flat_num {n : Int} (h : 0 ≤ n) : flat [numI n] = enc n.toNat := by
  unfold numI
  rw [if_neg (by omega)]
  simp [flat]
theorem si_lit (w : World) (zs : List Int) (T : TypeId) (g : Nat) (h : Blk w g T (zs.map (Value.int .i64)).toArray) : SI w (some ⟨g, 0, none⟩) zs.length zs :=
  ⟨rfl, fun _ => ⟨g, 0, rfl, fun j z hj => by
    rw [Nat.zero_add]
    exact h.cell j (by simp [hj])⟩⟩
section
variable (base g : Nat) (r : Option Nat) (lim : Nat) (s : WS) (w : World)
/-- the numbers that come with a form, as a row of their own -/
theorem put_lit (B l c : Nat) (A : Option Addr) (cs : List UInt8) (zs : List Int) (items : List Item) (w1 : World) (b1 : Below w.heap.size w w1) (h : RwB w base g r lim s) (hs : SB w1 B A l cs) (hl : l ≤ 549755813888) (hz : zs.length ≤ 549755813888) (h1 : anyNeg items = zs.any (fun z => decide (z < 0))) (h2 : anyNeg items = false → cs = flat items) :
    Calls Try.prog 62 #[.pointer (some ⟨g, 0, none⟩), .slice A l c, .slice (some ⟨w1.heap.size, 0, none⟩) zs.length zs.length] (w1.alloc (.cells (zs.map (Value.int .i64)).toArray 3)) (RwPost w base g r lim (putW lim s items)) := by
  have b2 := below_new w1 (.cells (zs.map (Value.int .i64)).toArray 3)
  have k2 := Blk.new w1 3 (zs.map (Value.int .i64)).toArray
  refine (refPut_calls base g r lim s B l c zs.length zs.length A _ cs zs items _ ((h.keep b1).keep b2) (hs.keep b2) (si_lit _ zs _ _ k2) hl hz h1 h2).mono ?_
  intro e w' hp
  exact RwPost.fresh (b1.trans (b2.mono b1.size)) hp
theorem put_bare (B l c : Nat) (A : Option Addr) (cs : List UInt8) (items : List Item) (w1 : World) (b1 : Below w.heap.size w w1) (h : RwB w base g r lim s) (hs : SB w1 B A l cs) (hl : l ≤ 549755813888) (h1 : anyNeg items = false) (h2 : cs = flat items) :
    Calls Try.prog 62 #[.pointer (some ⟨g, 0, none⟩), .slice A l c, .slice none 0 0] w1 (RwPost w base g r lim (putW lim s items)) := by
  refine (refPut_calls base g r lim s B l c 0 0 A none cs [] items _ (h.keep b1) hs ⟨rfl, fun h => absurd h (Nat.lt_irrefl 0)⟩ hl (by omega) (by rw [h1]; rfl) (fun _ => h2)).mono ?_
  intro e w' hp
  exact RwPost.fresh b1 hp
theorem refWNum_calls (n : Int) (hn : n < 9223372036854775808) (h : RwB w base g r lim s) :
    Calls Try.prog 38 #[.pointer (some ⟨g, 0, none⟩), .int .i64 n] w (RwPost w base g r lim (putW lim s [numI n])) := by
  have HP := hid (fun B l c A cs w1 b1 (hs : SB w1 B A l cs) hl h2 => put_lit base g r lim s w B l c A cs [n] [numI n] w1 b1 h hs hl (by simp) (by rw [neg_num]; simp) h2)
  clear h
  have hmax : max n 0 = ((max n 0).toNat : Int) := by omega
  generalize hM : (max n 0).toNat = M at hmax
  have HM := hid (show M < 9223372036854775808 ∧ (0 ≤ n → n.toNat = M) from by omega)
  clear hM
  generalize putW lim s [numI n] = s' at HP ⊢
  go_enter Try.func38, Try.ntmps38
  go_wp2_with fail
  refine (refNum_calls M HM.out.1 w).mono ?_
  rintro _ w1 ⟨v, rfl, h1, b1⟩
  have he := encSize_le (n := M) (by have := HM.out.1; omega)
  obtain ⟨A1, c1, rfl, -, s1, -⟩ := h1.sb
  have HC := hid (HP.out _ _ c1 _ _ w1 b1 s1 (by omega) (fun hneg => by
    rw [neg_num] at hneg
    have h0 : 0 ≤ n := by simpa using hneg
    rw [flat_num h0, HM.out.2 h0]))
  clear h1 b1 s1 he HP
  go_wp2_with fail
  refine HC.out.mono ?_
  intro e w' hp
  have HK := hid hp
  obtain rfl := hp.ret
  clear hp HC
  go_wp2_with fail
  go_ret
  exact HK.out
theorem sized_items (cs : List UInt8) : anyNeg [numI (cs.length : Int), some cs] = false ∧ flat [numI (cs.length : Int), some cs] = enc cs.length ++ cs := by
  have h0 : ¬ (cs.length : Int) < 0 := by omega
  unfold numI
  rw [if_neg h0]
  simp [anyNeg, flat]
set_option maxRecDepth 20000 in
theorem refWText_calls (cs : List UInt8) (hc : cs.length ≤ 274877906944) (h : RwB w base g r lim s) :
    Calls Try.prog 39 #[.pointer (some ⟨g, 0, none⟩), .string (strB cs)] w (RwPost w base g r lim (putW lim s [numI cs.length, some cs])) := by
  have HP := hid (fun B l c A bs w1 b1 (hs : SB w1 B A l bs) hl h2 => put_bare base g r lim s w B l c A bs [numI cs.length, some cs] w1 b1 h hs hl (sized_items cs).1 h2)
  clear h
  generalize putW lim s [numI cs.length, some cs] = s' at HP ⊢
  go_enter Try.func39, Try.ntmps39
  go_wp2_with ((refine wpList_conv_text rfl 9 32 5 _ rfl Try.underlying9 Try.underlying32 Try.underlying5 cs rfl ?_); refine Held.go ?_)
  intro w1 c1 b1 hz1 s1 hl1
  have B1 := hid b1; have S1 := hid s1
  clear b1 s1
  go_wp2_with fail
  refine (refBytes_calls _ cs.length c1 _ cs w1 S1.out (by omega)).mono ?_
  rintro _ w2 ⟨v, rfl, h2, b2⟩
  have he := encSize_le (n := cs.length) (by omega)
  obtain ⟨A2, c2, rfl, -, s2, -⟩ := h2.sb
  have HC := hid (HP.out _ _ c2 _ _ w2 (B1.out.trans (b2.mono B1.out.size)) s2 (by omega) (sized_items cs).2.symm)
  clear h2 b2 s2 he HP
  go_wp2_with fail
  refine HC.out.mono ?_
  intro e w' hp
  have HK := hid hp
  obtain rfl := hp.ret
  clear hp HC
  go_wp2_with fail
  go_ret
  exact HK.out
theorem sb_blk {w : World} {g : Nat} {T : TypeId} {l : List UInt8} (h : Blk w g T (bcells l)) : SB w (g + 1) (some ⟨g, 0, none⟩) l.length l :=
  ⟨rfl, fun _ => ⟨g, 0, rfl, by omega, fun j y hj => by
    rw [Nat.zero_add]
    exact h.cell j (by simp [bcells, hj])⟩⟩
set_option maxRecDepth 20000 in
theorem refWID_calls (id : List UInt8) (h32 : id.length = 32) (h : RwB w base g r lim s) :
    Calls Try.prog 65 #[.pointer (some ⟨g, 0, none⟩), .agg (bcells id)] w (RwPost w base g r lim (putW lim s [some id])) := by
  have HC := hid (put_bare base g r lim s w (w.heap.size + 1) 32 32 (some ⟨w.heap.size, 0, none⟩) id [some id] (w.alloc (.cells (bcells id) 23)) (below_new _ _) h (h32 ▸ sb_blk (Blk.new w 23 (bcells id))) (by omega) rfl (by simp [flat]))
  clear h
  generalize putW lim s [some id] = s' at HC ⊢
  go_enter Try.func65, Try.ntmps65
  go_wp2_with fail
  refine HC.out.mono ?_
  intro e w' hp
  have HK := hid hp
  obtain rfl := hp.ret
  clear hp HC
  go_wp2_with fail
  go_ret
  exact HK.out
end
end Go.Proofs.Ytfmbnlnnfoonjaa
