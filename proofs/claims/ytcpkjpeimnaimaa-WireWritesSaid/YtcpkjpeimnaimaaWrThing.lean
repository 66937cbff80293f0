/- Things as values; contract: writes. -/
import Derived.Test.YtcpkjpeimnaimaaWrOwnW
import Derived.Test.YtcpkjpeimnaimaaWrPart
namespace Go.Proofs.Ytcpkjpeimnaimaa
open Go.RowKit

/-- a thing -/
structure Th where
  k : Int
  n : Int
  A : Option Addr
  c : Nat
  cs : List UInt8
  id : List UInt8
  x : Int
  y : Int
  A2 : Option Addr
  c2 : Nat
  zs : List Int
  b : Bool
def thHead (t : Th) : List Value := [.int .i64 t.k, .int .i64 t.n, .slice t.A t.cs.length t.c]
def thTail (t : Th) : List Value := [.int .i64 t.x, .int .i64 t.y, .slice t.A2 t.zs.length t.c2, .bool t.b]
def TV (t : Th) : Array Value := part (thHead t) (t.id.map bv) (thTail t)
def lt63 (z : Int) : Prop := z < 9223372036854775808
/-- What a thing's value leads to. -/
def TOK (w : World) (t : Th) : Prop :=
  t.id.length = 32 ∧ SB w w.heap.size t.A t.cs.length t.cs ∧ SI w t.A2 t.zs.length t.zs ∧ t.cs.length ≤ 549755813888 ∧ t.zs.length ≤ 549755813888 ∧ t.cs.length ≤ t.c ∧ t.zs.length ≤ t.c2 ∧ lt63 t.n ∧ lt63 t.x ∧ lt63 t.y ∧ ∀ z ∈ t.zs, lt63 z
theorem TOK.keep {w w' : World} {t : Th} (h : TOK w t) (hb : Below w.heap.size w w') : TOK w' t :=
  ⟨h.1, (h.2.1.keep hb).more hb.size, h.2.2.1.keep hb, h.2.2.2⟩
def thItems (t : Th) : List Item :=
  if t.k = 0 then [numI t.n] else if t.k = 1 ∨ t.k = 2 then [numI t.cs.length, some t.cs] else if t.k = 3 then [some t.id] else if t.k = 4 then [numI t.x, numI t.y] else
  if t.k = 5 then numI t.zs.length :: t.zs.map numI else if t.k = 6 then [numI (if t.b then 1 else 0)] else []
theorem TV_head {t : Th} {i : Nat} {v : Value} (h : (thHead t)[i]? = some v) : (TV t)[i]? = some v := by
  have hl : i < (thHead t).length := (List.getElem?_eq_some_iff.1 h).1
  simp only [TV, part, List.getElem?_toArray, List.append_assoc]
  rw [List.getElem?_append_left hl, h]
theorem TV_tail {t : Th} (h32 : t.id.length = 32) {i : Nat} {v : Value} (h : (thTail t)[i]? = some v) : (TV t)[35 + i]? = some v := by
  simp only [TV, part, List.getElem?_toArray]
  rw [List.getElem?_append_right (by simp [thHead, h32]), ← h]
  congr 1
  simp [thHead, h32]
theorem TV_size {t : Th} (h32 : t.id.length = 32) : (TV t).size = 39 := by
  simp [TV, part, thHead, thTail, h32]
/-- a load of cells that are known -/
theorem wpList_load_cells {P : Program} {ops : Array Oper} {rest : List Oper} {o : Oper} {a : Act} {w : World} {Q : Exit → Act → World → Prop} (hg : o.guard = none) (t : TypeId) (x : Operand) (ho : o.op = .load t x) (ad : Addr) (hx : a.eval x = .pointer (some ad)) (cs : List Value) (hc : ∀ j v, cs[j]? = some v → w.cell? (ad.add j) = some v)
    {d : TypeDesc} (hu : P.underlying t = some d) (hd : (match d with | .struct _ => true | .array _ _ => true | _ => false) = true) (hi : (P.info? t).map (·.size) = some cs.length)
    (h : wpList P ops Q rest (a.put o.dst (.agg cs.toArray)) w) : wpList P ops Q (o :: rest) a w :=
  wpList_plain hg fun K hK => by
    have hl := run_loadCells_list (P := P) w ad cs hc
    have hr : (loadVar t ad).run P w = .ok (.agg cs.toArray) w := by
      cases hq : P.info? t with
      | none => simp [hq] at hi
      | some i =>
        have hs : i.size = cs.length := by simpa [hq] using hi
        have hagg : (isAgg t).run P w = .ok true w := by
          unfold isAgg
          rw [Sem.run_bind, run_underlying hu w]
          cases d <;> simp_all
        simp [loadVar, Sem.run_bind, hagg, sizeOf, typeInfo, hq, hs, hl]
    unfold Oper.wp execOp
    simp only [ho, hx, Instr.loadAt, Instr.sureAddr, Sem.run_bind, Sem.run_pure, Result.andThen_ok, hr]
    exact hK _ _ h
theorem WrPost.eq {w w' : World} {base g f : Nat} {r : Option Nat} {lim : Nat} {s s' : WS} {e : Ending} (h : WrPost w base g f r lim s e w') (hs : s = s') : WrPost w base g f r lim s' e w' := hs ▸ h
section
variable (base g f : Nat) (r : Option Nat) (lim : Nat) (s : WS) (t : Th) (w : World)
/-- the cells of a thing that was boxed -/
theorem th_cells (h : TOK w t) : Below w.heap.size w (w.alloc (.cells (TV t) 38)) ∧ Blk (w.alloc (.cells (TV t) 38)) w.heap.size 38 (TV t) ∧ TOK (w.alloc (.cells (TV t) 38)) t :=
  ⟨below_new w _, Blk.new w _ _, h.keep (below_new w _)⟩
set_option maxHeartbeats 1000000 in
theorem writes0 (hk : t.k = 0) (h : WrB w base g f r lim s) (ht : TOK w t) :
    Calls Try.prog 57 #[.pointer (some ⟨g, 0, none⟩), .agg (TV t)] w (WrPost w base g f r lim (putW lim s [numI t.n])) := by
  obtain ⟨b1, k1, -⟩ := th_cells t w ht
  have HC := hid (fun w1 h1 => wNum_calls base g f r lim s w1 t.n ht.2.2.2.2.2.2.2.1 h1)
  have c0 := k1.cell 0 (TV_head (t := t) (i := 0) rfl)
  have c1 := k1.cell 1 (TV_head (t := t) (i := 1) rfl)
  rw [hk] at c0
  have HH := hid (h.keep b1); have B1 := hid b1
  clear h ht k1 b1
  generalize putW lim s [numI t.n] = s' at HC ⊢
  generalize TV t = cs at c0 c1 B1 HH ⊢
  generalize t.n = n at c1 HC
  go_enter Try.func57, Try.ntmps57
  go_wp2_with fail
  refine (HC.out _ HH.out).mono ?_
  intro e w' hp
  have HK := hid (WrPost.fresh B1.out hp)
  obtain rfl := hp.ret
  clear hp c0 c1
  go_wp2_with fail
  go_ret
  exact HK.out
set_option maxHeartbeats 1000000 in
theorem writes1 (hk : t.k = 1) (h : WrB w base g f r lim s) (ht : TOK w t) :
    Calls Try.prog 57 #[.pointer (some ⟨g, 0, none⟩), .agg (TV t)] w (WrPost w base g f r lim (putW lim s [numI t.cs.length, some t.cs])) := by
  obtain ⟨b1, k1, t1⟩ := th_cells t w ht
  have HH := hid (h.keep b1); have B1 := hid b1
  have HC := hid (fun w1 h1 => wText_calls base g f r lim s w1 t.cs t1.2.2.2.1 h1)
  have hstr := run_str (P := Try.prog) t1.2.1 t.c 31 9 5 Try.underlying31 Try.underlying5 Try.underlying9
  have c0 := k1.cell 0 (TV_head (t := t) (i := 0) rfl)
  have c2 := k1.cell 2 (TV_head (t := t) (i := 2) rfl)
  rw [hk] at c0
  clear h ht k1 b1 t1
  generalize putW lim s [numI t.cs.length, some t.cs] = s' at HC ⊢
  generalize TV t = cs at c0 c2 B1 HH hstr ⊢
  generalize strB t.cs = st at HC hstr
  generalize t.cs.length = m at c2 hstr
  go_enter Try.func57, Try.ntmps57
  go_wp2_with fail
  refine (HC.out _ HH.out).mono ?_
  intro e w' hp
  have HK := hid (WrPost.fresh B1.out hp)
  obtain rfl := hp.ret
  clear hp c0 c2 hstr
  go_wp2_with fail
  go_ret
  exact HK.out
set_option maxHeartbeats 1000000 in
theorem writes2 (hk : t.k = 2) (h : WrB w base g f r lim s) (ht : TOK w t) (hA : ∀ b off, t.A = some ⟨b, off, none⟩ → b < w.heap.size → r ≠ some b) :
    Calls Try.prog 57 #[.pointer (some ⟨g, 0, none⟩), .agg (TV t)] w (WrPost w base g f r lim (putW lim s [numI t.cs.length, some t.cs])) := by
  obtain ⟨b1, k1, t1⟩ := th_cells t w ht
  have HH := hid (h.keep b1); have B1 := hid b1
  have HC := hid (fun h1 => wBytes_calls base g f r lim s (w.alloc (.cells (TV t) 38)) w.heap.size t.cs.length t.c t.A t.cs t1.2.2.2.1 h1 (ht.2.1.keep b1) b1.size hA)
  have c0 := k1.cell 0 (TV_head (t := t) (i := 0) rfl)
  have c2 := k1.cell 2 (TV_head (t := t) (i := 2) rfl)
  rw [hk] at c0
  clear h ht k1 b1 t1 hA
  generalize putW lim s [numI t.cs.length, some t.cs] = s' at HC ⊢
  generalize TV t = cs at c0 c2 B1 HH HC ⊢
  generalize t.cs.length = m at c2 HC
  go_enter Try.func57, Try.ntmps57
  go_wp2_with fail
  refine (HC.out HH.out).mono ?_
  intro e w' hp
  have HK := hid (WrPost.fresh B1.out hp)
  obtain rfl := hp.ret
  clear hp c0 c2
  go_wp2_with fail
  go_ret
  exact HK.out
set_option maxHeartbeats 1000000 in
theorem writes3 (hk : t.k = 3) (h : WrB w base g f r lim s) (ht : TOK w t) :
    Calls Try.prog 57 #[.pointer (some ⟨g, 0, none⟩), .agg (TV t)] w (WrPost w base g f r lim (putW lim s [some t.id])) := by
  obtain ⟨b1, k1, t1⟩ := th_cells t w ht
  have HH := hid (h.keep b1); have B1 := hid b1
  have HC := hid (fun w1 h1 => wID_calls base g f r lim s w1 t.id t1.1 h1)
  have HP := hid k1
  have ES := hid (show (Try.prog.info? 33).map (·.size) = some (t.id.map bv).length from by rw [List.length_map, t1.1]; kernel_rfl)
  have c0 := k1.cell 0 (TV_head (t := t) (i := 0) rfl)
  rw [hk] at c0
  clear h ht k1 b1 t1
  generalize putW lim s [some t.id] = s' at HC ⊢
  unfold TV at c0 HP B1 HH ⊢
  generalize hgv : part (thHead t) (t.id.map bv) (thTail t) = cs at c0 B1 HH ⊢
  have HGV := hid hgv
  clear hgv
  go_enter Try.func57, Try.ntmps57
  go_wp2_with (refine wpList_load_part rfl 33 _ rfl w.heap.size 3 rfl (show Blk (w.alloc (.cells cs 38)) w.heap.size 38 (part (thHead t) (t.id.map bv) (thTail t)) from by rw [HGV.out]; rw [HGV.out] at HP; exact HP.out) rfl Try.underlying33 rfl ES.out ?_)
  refine (HC.out _ HH.out).mono ?_
  intro e w' hp
  have HK := hid (WrPost.fresh B1.out hp)
  obtain rfl := hp.ret
  clear hp c0
  go_wp2_with fail
  go_ret
  exact HK.out
set_option maxHeartbeats 1000000 in
theorem writes4 (hk : t.k = 4) (h : WrB w base g f r lim s) (ht : TOK w t) :
    Calls Try.prog 57 #[.pointer (some ⟨g, 0, none⟩), .agg (TV t)] w (WrPost w base g f r lim (putW lim s [numI t.x, numI t.y])) := by
  obtain ⟨b1, k1, t1⟩ := th_cells t w ht
  have HH := hid (h.keep b1); have B1 := hid b1
  have HC := hid (fun w1 h1 => wDot_calls base g f r lim s w1 t.x t.y ht.2.2.2.2.2.2.2.2.1 ht.2.2.2.2.2.2.2.2.2.1 h1)
  have c0 := k1.cell 0 (TV_head (t := t) (i := 0) rfl)
  have c5 := k1.cell 35 (TV_tail (t := t) t1.1 (i := 0) rfl)
  have c6 := k1.cell 36 (TV_tail (t := t) t1.1 (i := 1) rfl)
  rw [hk] at c0
  clear h ht k1 b1 t1
  generalize putW lim s [numI t.x, numI t.y] = s' at HC ⊢
  generalize TV t = cs at c0 c5 c6 B1 HH ⊢
  generalize t.x = x at HC c5
  generalize t.y = y at HC c6
  go_enter Try.func57, Try.ntmps57
  go_wp2_with fail
  refine (HC.out _ HH.out).mono ?_
  intro e w' hp
  have HK := hid (WrPost.fresh B1.out hp)
  obtain rfl := hp.ret
  clear hp c0 c5 c6
  go_wp2_with fail
  go_ret
  exact HK.out
set_option maxHeartbeats 1000000 in
theorem writes5 (hk : t.k = 5) (h : WrB w base g f r lim s) (ht : TOK w t) (hV : 0 < t.zs.length → ∀ b off, t.A2 = some ⟨b, off, none⟩ → r ≠ some b) :
    Calls Try.prog 57 #[.pointer (some ⟨g, 0, none⟩), .agg (TV t)] w (WrPost w base g f r lim (putW lim s (numI t.zs.length :: t.zs.map numI))) := by
  obtain ⟨b1, k1, t1⟩ := th_cells t w ht
  have HH := hid (h.keep b1); have B1 := hid b1
  have HC := hid (fun h1 => wVec_calls base g f r lim s (w.alloc (.cells (TV t) 38)) t.zs.length t.c2 t.A2 t.zs (by have := t1.2.2.2.2.1; omega) t1.2.2.2.2.2.2.1 t1.2.2.2.2.2.2.2.2.2.2 h1 t1.2.2.1 hV)
  have c0 := k1.cell 0 (TV_head (t := t) (i := 0) rfl)
  have c7 := k1.cell 37 (TV_tail (t := t) t1.1 (i := 2) rfl)
  rw [hk] at c0
  clear h ht k1 b1 t1 hV
  generalize putW lim s (numI t.zs.length :: t.zs.map numI) = s' at HC ⊢
  generalize TV t = cs at c0 c7 B1 HH HC ⊢
  generalize t.zs.length = m at c7 HC
  go_enter Try.func57, Try.ntmps57
  go_wp2_with fail
  refine (HC.out HH.out).mono ?_
  intro e w' hp
  have HK := hid (WrPost.fresh B1.out hp)
  obtain rfl := hp.ret
  clear hp c0 c7
  go_wp2_with fail
  go_ret
  exact HK.out
set_option maxHeartbeats 1000000 in
theorem writes6 (hk : t.k = 6) (h : WrB w base g f r lim s) (ht : TOK w t) :
    Calls Try.prog 57 #[.pointer (some ⟨g, 0, none⟩), .agg (TV t)] w (WrPost w base g f r lim (putW lim s [numI (if t.b then 1 else 0)])) := by
  obtain ⟨b1, k1, t1⟩ := th_cells t w ht
  have HH := hid (h.keep b1); have B1 := hid b1
  have HC := hid (fun w1 h1 => wBool_calls base g f r lim s w1 t.b h1)
  have c0 := k1.cell 0 (TV_head (t := t) (i := 0) rfl)
  have c8 := k1.cell 38 (TV_tail (t := t) t1.1 (i := 3) rfl)
  rw [hk] at c0
  clear h ht k1 b1 t1
  generalize putW lim s [numI (if t.b then 1 else 0)] = s' at HC ⊢
  generalize TV t = cs at c0 c8 B1 HH ⊢
  generalize t.b = b at HC c8
  go_enter Try.func57, Try.ntmps57
  go_wp2_with fail
  refine (HC.out _ HH.out).mono ?_
  intro e w' hp
  have HK := hid (WrPost.fresh B1.out hp)
  obtain rfl := hp.ret
  clear hp c0 c8
  go_wp2_with fail
  go_ret
  exact HK.out
theorem putW_nil (lim : Nat) (s : WS) (h : s.bs.length ≤ lim) : putW lim s [] = s := by
  unfold putW
  by_cases he : s.e ≠ 0
  · rw [if_pos he]
  · rw [if_neg he, if_neg (by simp [anyNeg]), if_neg (by simp [flat]; omega)]
    simp [flat]
theorem writesN (hk : t.k < 0 ∨ 6 < t.k) (he : s.e = 0) (h : WrB w base g f r lim s) (ht : TOK w t) :
    Calls Try.prog 57 #[.pointer (some ⟨g, 0, none⟩), .agg (TV t)] w (WrPost w base g f r lim (putW lim s [])) := by
  obtain ⟨b1, k1, t1⟩ := th_cells t w ht
  have HK := hid (show WrPost w base g f r lim (putW lim s []) (.returned (.int .i64 0)) (w.alloc (.cells (TV t) 38)) from by
    rw [putW_nil lim s (by obtain ⟨_, _, _, _, _, _, _, _, _, _, hl, _⟩ := h; exact hl)]
    exact ⟨by rw [he]; rfl, r, h.keep b1, Chg.of_below b1, Moved.refl _ _⟩)
  have c0 := k1.cell 0 (TV_head (t := t) (i := 0) rfl)
  clear h ht k1 b1 t1
  generalize putW lim s [] = s' at HK ⊢
  generalize TV t = cs at c0 HK ⊢
  generalize t.k = k at hk c0
  have n0 : ¬ k = 0 := by omega
  have n1 : ¬ k = 1 := by omega
  have n2 : ¬ k = 2 := by omega
  have n3 : ¬ k = 3 := by omega
  have n4 : ¬ k = 4 := by omega
  have n5 : ¬ k = 5 := by omega
  have n6 : ¬ k = 6 := by omega
  clear hk
  go_enter Try.func57, Try.ntmps57
  go_wp2_with fail
  go_ret
  exact HK.out
theorem writes_calls (he : s.e = 0) (h : WrB w base g f r lim s) (ht : TOK w t) (hA : ∀ b off, t.A = some ⟨b, off, none⟩ → b < w.heap.size → r ≠ some b) (hV : 0 < t.zs.length → ∀ b off, t.A2 = some ⟨b, off, none⟩ → r ≠ some b) :
    Calls Try.prog 57 #[.pointer (some ⟨g, 0, none⟩), .agg (TV t)] w (WrPost w base g f r lim (putW lim s (thItems t))) := by
  by_cases h0 : t.k = 0
  · rw [show thItems t = [numI t.n] from if_pos h0]; exact writes0 base g f r lim s t w h0 h ht
  by_cases h1 : t.k = 1
  · rw [show thItems t = [numI t.cs.length, some t.cs] from by unfold thItems; rw [if_neg h0, if_pos (.inl h1)]]; exact writes1 base g f r lim s t w h1 h ht
  by_cases h2 : t.k = 2
  · rw [show thItems t = [numI t.cs.length, some t.cs] from by unfold thItems; rw [if_neg h0, if_pos (.inr h2)]]; exact writes2 base g f r lim s t w h2 h ht hA
  by_cases h3 : t.k = 3
  · rw [show thItems t = [some t.id] from by unfold thItems; rw [if_neg h0, if_neg (by omega), if_pos h3]]; exact writes3 base g f r lim s t w h3 h ht
  by_cases h4 : t.k = 4
  · rw [show thItems t = [numI t.x, numI t.y] from by unfold thItems; rw [if_neg h0, if_neg (by omega), if_neg h3, if_pos h4]]; exact writes4 base g f r lim s t w h4 h ht
  by_cases h5 : t.k = 5
  · rw [show thItems t = numI t.zs.length :: t.zs.map numI from by unfold thItems; rw [if_neg h0, if_neg (by omega), if_neg h3, if_neg h4, if_pos h5]]; exact writes5 base g f r lim s t w h5 h ht hV
  by_cases h6 : t.k = 6
  · rw [show thItems t = [numI (if t.b then 1 else 0)] from by unfold thItems; rw [if_neg h0, if_neg (by omega), if_neg h3, if_neg h4, if_neg h5, if_pos h6]]; exact writes6 base g f r lim s t w h6 h ht
  · rw [show thItems t = [] from by unfold thItems; rw [if_neg h0, if_neg (by omega), if_neg h3, if_neg h4, if_neg h5, if_neg h6]]; exact writesN base g f r lim s t w (by omega) he h ht
end
end Go.Proofs.Ytcpkjpeimnaimaa
