/- Contracts: Pick; steps for WireOne. -/
import Derived.Test.YtcpkjpeimnaimaaWrOneM
import Derived.Test.YtcpkjpeimnaimaaWrKnownW
import Derived.Lib.ConvBytes
namespace Go.Proofs.Ytcpkjpeimnaimaa
open Go.RowKit

theorem tmod_low (x n : Int) (h : 0 < n) (hx : x.tmod n < 0) : x.tmod n + n = x % n := by
  have h1 := Int.tmod_eq_emod (a := x) (b := n)
  have h2 := Int.emod_nonneg x (show n ≠ 0 by omega)
  have h3 := Int.emod_lt_of_pos x h
  rw [h1] at hx ⊢
  split at hx
  · omega
  · have : (n.natAbs : Int) = n := by omega
    rename_i hh
    rw [if_neg hh, this]; omega
theorem tmod_high (x n : Int) (h : 0 < n) (hx : ¬ x.tmod n < 0) : x.tmod n = x % n := by
  have h1 := Int.tmod_eq_emod (a := x) (b := n)
  have h2 := Int.emod_nonneg x (show n ≠ 0 by omega)
  have h3 := Int.emod_lt_of_pos x h
  rw [h1] at hx ⊢
  split at hx
  · rename_i hh; rw [if_pos hh]; omega
  · rename_i hh
    have : (n.natAbs : Int) = n := by omega
    rw [this] at hx; omega

theorem pick_calls (x n : Int) (w : World) (h3 : 0 < n) (h4 : n ≤ 1099511627776) :
    Calls Try.prog 59 #[.int .i64 x, .int .i64 n] w fun e w' => e = .returned (.int .i64 (x % n)) ∧ w = w' := by
  by_cases hx : x.tmod n < 0
  · go_enter Try.func59, Try.ntmps59
    go_wp2_with fail
    go_ret
    refine ⟨ret_int ?_, rfl⟩
    have h2 := Int.emod_nonneg x (show n ≠ 0 by omega)
    have h5 := Int.emod_lt_of_pos x h3
    rw [tmod_low x n h3 hx]
    exact IntWalk.wrap64_in _ (by omega)
  · go_enter Try.func59, Try.ntmps59
    go_wp2_with fail
    go_ret
    exact ⟨ret_int (tmod_high x n h3 (by omega)), rfl⟩
/-- a struct that is built out of one part -/
theorem wpList_build {P : Program} {ops : Array Oper} {rest : List Oper} {o : Oper} {a : Act} {w : World} {Q : Exit → Act → World → Prop} (hgd : o.guard = none) (t : TypeId) (k : Nat) (x : Operand) (ho : o.op = .build t #[(k, x)]) (u v : Value) (hx : a.eval x = u)
    (hr : ∀ W, (Instr.build t #[(k, u)]).run P W = .ok v W) (h : wpList P ops Q rest (a.put o.dst v) w) : wpList P ops Q (o :: rest) a w := by
  refine wpList_plain hgd fun K hK => ?_
  unfold Oper.wp execOp
  simp only [ho, List.map_toArray, List.map_cons, List.map_nil, hx, Sem.run_bind, Sem.run_pure, Result.andThen_ok, hr]
  exact hK _ _ h
/-- a text as bytes: a new row -/
theorem wpList_conv_text {P : Program} {w : World} {ops : Array Oper} {rest : List Oper} {o : Oper} {a : Act} {Q : Exit → Act → World → Prop} (hgd : o.guard = none) (src dst e : TypeId) (x : Operand) (ho : o.op = .convert src dst x)
    (hs : P.underlying src = some .string) (hd : P.underlying dst = some (.slice e)) (he : P.underlying e = some (.int .u8)) (cs : List UInt8) (hx : a.eval x = .string (strB cs))
    (h : ∀ w' c, Below w.heap.size w w' → w'.heap.size = w.heap.size + 1 → SB w' w'.heap.size (some ⟨w.heap.size, 0, none⟩) cs.length cs → cs.length ≤ c → wpList P ops Q rest (a.put o.dst (.slice (some ⟨w.heap.size, 0, none⟩) cs.length c)) w') : wpList P ops Q (o :: rest) a w := by
  refine wpList_plain hgd fun K hK => ?_
  have hr := Lib.run_convert_string_bytes (P := P) w src dst e (strB cs) hs hd he
  have hsz := Lib.bytesWorld_size w e (strB cs)
  unfold Oper.wp execOp
  simp only [ho, hx, Sem.run_bind, Sem.run_pure, Result.andThen_ok, hr]
  refine hK _ _ (h _ _ ⟨rfl, rfl, rfl, by omega, fun k hk => Lib.bytesWorld_at_old w e (strB cs) k hk⟩ hsz ⟨rfl, fun _ => ⟨w.heap.size, 0, rfl, by omega, fun j y hj => ?_⟩⟩ (grownCap_ge w cs.length 0 e))
  have hlt : j < cs.length := (List.getElem?_eq_some_iff.1 hj).1
  have := Lib.bytesWorld_cell w e (strB cs) j hlt
  rw [Nat.zero_add, this]
  simp [strB, List.getD, hj, bv]
theorem OwnI.si {w : World} {base : Nat} {v : Value} {zs : List Int} (h : OwnI w base v zs) : ∃ A c, v = .slice A zs.length c ∧ zs.length ≤ c ∧ SI w A zs.length zs ∧ (∀ b off, A = some ⟨b, off, none⟩ → base ≤ b ∧ b < w.heap.size) := by
  have hlt := World.ownsRow.lt h
  have hc := fun (g : Nat) (e : v.ownBlock = some g) => World.ownsRow.cells h (g := g) e
  rcases h.2 with ⟨rfl, h0⟩ | ⟨g, cap, cur, rfl, hb, hg, hnc, hcm, hcs, ht⟩
  · rw [h0]
    exact ⟨none, 0, rfl, Nat.le_refl _, ⟨h0, fun h => absurd h (by omega)⟩, fun b off e => by cases e⟩
  · refine ⟨some ⟨g, 0, none⟩, cap, rfl, hnc, ⟨rfl, fun _ => ⟨g, 0, rfl, fun j z hj => ?_⟩⟩, fun b off e => by cases e; exact hlt g rfl⟩
    have := hc g rfl j (.int .i64 z) (by simp [hj])
    simpa [Addr.add_lit] using this
/-- a thing of a kind, and nothing else -/
def th0 (k : Int) : Th := ⟨k, 0, none, 0, [], zeroB 32, 0, 0, none, 0, [], false⟩
theorem infoTh : (Try.prog.info? 38).map (fun i => (i.zero, i.size)) = some (some (.agg (TV (th0 0))), 39) := by kernel_rfl
theorem build_th (k : Int) (w : World) : (Instr.build 38 #[(0, .int .i64 k)]).run Try.prog w = .ok (.agg (TV (th0 k))) w := by kernel_rfl
theorem TV_oneCell (t : Th) : (TV t).toList.all (·.oneCell') = true := by
  rw [List.all_eq_true]
  intro x hx
  simp only [TV, part, thHead, thTail, List.mem_append, List.mem_cons, List.mem_map, List.not_mem_nil, or_false] at hx
  rcases hx with (((rfl | rfl | rfl) | ⟨b, _, rfl⟩) | rfl | rfl | rfl | rfl) <;> rfl
theorem th0_ok (w : World) (k : Int) : TOK w (th0 k) := ⟨rfl, SB.nil _ _ _, ⟨rfl, fun h => absurd h (Nat.lt_irrefl 0)⟩, Nat.zero_le _, Nat.zero_le _, Nat.le_refl _, Nat.le_refl _, by simp [lt63, th0], by simp [lt63, th0], by simp [lt63, th0], by simp [th0]⟩
/-- the load of a whole struct, under a guard that holds -/
theorem wpList_load_st_g {P : Program} {ops : Array Oper} {rest : List Oper} {o : Oper} {a : Act} {w : World} {Q : Exit → Act → World → Prop} (hgd : Region.wanted o (yielded ops a.tmps) = true) (t : TypeId) (x : Operand) (ho : o.op = .load t x) (g : Nat) (hx : a.eval x = .pointer (some ⟨g, 0, none⟩)) (t' : TypeId) (cs : Array Value) (hb : Blk w g t' cs)
    {d : TypeDesc} (hu : P.underlying t = some d) (hd : (match d with | .struct _ => true | .array _ _ => true | _ => false) = true) (hi : (P.info? t).map (·.size) = some cs.size)
    (h : wpList P ops Q rest (a.put o.dst (.agg cs)) w) : wpList P ops Q (o :: rest) a w := by
  refine wpList_step fun K hK => ?_
  rw [if_pos hgd]
  unfold Oper.wp execOp
  simp only [ho, hx, Instr.loadAt, Instr.sureAddr, Sem.run_bind, Sem.run_pure, Result.andThen_ok, run_loadVar_row w g t' t cs (0, 0) _ hb hu hd hi]
  exact hK _ _ h
theorem wpList_load_th_g {ops : Array Oper} {rest : List Oper} {o : Oper} {a : Act} {w : World} {Q : Exit → Act → World → Prop} (hgd : Region.wanted o (yielded ops a.tmps) = true) (x : Operand) (ho : o.op = .load 38 x) (g : Nat) (hx : a.eval x = .pointer (some ⟨g, 0, none⟩)) (t : Th) (hb : Blk w g 38 (TV t)) (h32 : t.id.length = 32)
    (h : wpList Try.prog ops Q rest (a.put o.dst (.agg (TV t))) w) : wpList Try.prog ops Q (o :: rest) a w :=
  wpList_load_st_g hgd _ x ho g hx _ _ hb Try.underlying38 rfl (by rw [TV_size h32]; exact (zero_of_info infoTh).2) h
theorem run_load_th {w : World} {g : Nat} {t : Th} (hb : Blk w g 38 (TV t)) (h32 : t.id.length = 32) : (loadVar 38 ⟨g, 0, none⟩).run Try.prog w = .ok (.agg (TV t)) w :=
  run_loadVar_row w g _ _ (TV t) (0, 0) _ hb Try.underlying38 rfl (by rw [TV_size h32]; exact (zero_of_info infoTh).2)
/-- what holds behind the reading of a thing -/
structure OneMid (w : World) (bs : List UInt8) (g f : Nat) (rr : Option Nat) (g2 f2 a : Nat) (r : Option Nat) (G : Nat) (t : Th) (s' : RS) (wx : World) : Prop where
  blk : Blk wx G 38 (TV t)
  tok : TOK wx t
  rd : RdB wx w.heap.size g f rr bs s'
  wr : WrB wx w.heap.size g2 f2 r 1000 ⟨bs.take a, 0⟩
  sep : ∀ b ∈ fpw g f rr, b ∉ fpw g2 f2 r
  bel : Below w.heap.size w wx
  rdG : G ∉ fpw g f rr
  wrG : G ∉ fpw g2 f2 r
  rowA : ∀ b off, t.A = some ⟨b, off, none⟩ → r ≠ some b
  rowV : ∀ b off, t.A2 = some ⟨b, off, none⟩ → r ≠ some b
  ge : w.heap.size ≤ G
  al : a ≤ bs.length
theorem OneMid.keep {w : World} {bs : List UInt8} {g f : Nat} {rr : Option Nat} {g2 f2 a : Nat} {r : Option Nat} {G : Nat} {t : Th} {s' : RS} {wx wy : World} (h : OneMid w bs g f rr g2 f2 a r G t s' wx) (hb : Below wx.heap.size wx wy) : OneMid w bs g f rr g2 f2 a r G t s' wy :=
  ⟨h.blk.keep hb, h.tok.keep hb, h.rd.keep hb, h.wr.keep hb, h.sep, h.bel.trans (hb.mono h.bel.size), h.rdG, h.wrG, h.rowA, h.rowV, h.ge, h.al⟩
theorem not_mem2 {g f : Nat} {r : Option Nat} {b : Nat} (h : b ∉ fpw g f r) : b ∉ [g, f] := fun hm => h (by rw [mem_fpw]; simp at hm; rcases hm with rfl | rfl; exact .inr (.inl rfl); exact .inl rfl)
/-- the reader reads -/
theorem OneMid.read {w : World} {bs : List UInt8} {g f : Nat} {rr : Option Nat} {g2 f2 a : Nat} {r : Option Nat} {G : Nat} {t : Th} {s s' : RS} {wx wy : World} (h : OneMid w bs g f rr g2 f2 a r G t s wx) (ht : TOK wy t) (hp : RdPost wx w.heap.size g f rr bs s' wy) : OneMid w bs g f rr g2 f2 a r G t s' wy := by
  have hgf : ∀ b ∈ [g, f], b ∈ fpw g f rr := fun b hb => by
    rw [mem_fpw]; simp at hb
    rcases hb with rfl | rfl
    · exact .inr (.inl rfl)
    · exact .inl rfl
  exact ⟨h.blk.chg hp.2 (not_mem2 h.rdG), ht, hp.1, h.wr.chg hp.2 (fun b hb hm => h.sep b (hgf b hm) hb), h.sep, h.bel.trans (hp.2.below (fun b hb => (h.rd.fp_lt b (hgf b hb)).1) h.bel.size), h.rdG, h.wrG, h.rowA, h.rowV, h.ge, h.al⟩
/-- the thing is changed -/
theorem OneMid.thing {w : World} {bs : List UInt8} {g f : Nat} {rr : Option Nat} {g2 f2 a : Nat} {r : Option Nat} {G : Nat} {t t' : Th} {s : RS} {wx wy : World} (h : OneMid w bs g f rr g2 f2 a r G t s wx) (hc : wx.grownBy wy (some G)) (hb : Blk wy G 38 (TV t')) (ht : TOK wy t')
    (hA : ∀ b off, t'.A = some ⟨b, off, none⟩ → r ≠ some b) (hV : ∀ b off, t'.A2 = some ⟨b, off, none⟩ → r ≠ some b) : OneMid w bs g f rr g2 f2 a r G t' s wy := by
  have kc : Chg [G] wx wy := Chg.of_grown hc (fun g e => by cases e; simp)
  exact ⟨hb, ht, h.rd.chg kc (fun b hb hm => by simp at hm; exact h.rdG (hm ▸ hb)), h.wr.chg kc (fun b hb hm => by simp at hm; exact h.wrG (hm ▸ hb)), h.sep, h.bel.trans (kc.below (fun b hb => by simp at hb; rw [hb]; exact h.ge) h.bel.size), h.rdG, h.wrG, hA, hV, h.ge, h.al⟩
theorem TV_set1 (t : Th) (n : Int) : (TV t).setIfInBounds 1 (.int .i64 n) = TV { t with n := n } := by simp [TV, part, thHead, thTail]
theorem TV_set2 (t : Th) (A : Option Addr) (c : Nat) (cs : List UInt8) : (TV t).setIfInBounds 2 (.slice A cs.length c) = TV { t with A := A, c := c, cs := cs } := by simp [TV, part, thHead, thTail]
/-- what a thing leads to, where only the cells of one block were set -/
theorem TOK.set {w wy : World} {G : Nat} {t : Th} (h : TOK w t) (hc : w.grownBy wy (some G)) (hA : ∀ b off, t.A = some ⟨b, off, none⟩ → b ≠ G) (hV : ∀ b off, t.A2 = some ⟨b, off, none⟩ → b ≠ G) : TOK wy t := by
  have kc : Chg [G] w wy := Chg.of_grown hc (fun g e => by cases e; simp)
  exact ⟨h.1, (h.2.1.chg kc (fun b off e _ hm => hA b off e (by simpa using hm))).more hc.size, h.2.2.1.chg kc (fun _ b off e hm => hV b off e (by simpa using hm)), h.2.2.2⟩
theorem TV_setT (t : Th) (h32 : t.id.length = 32) (i : Nat) (v : Value) : (TV t).setIfInBounds (35 + i) v = part (thHead t) (t.id.map bv) ((thTail t).set i v) := by
  simp only [TV, part, List.setIfInBounds_toArray]
  rw [List.set_append_right _ _ (by simp [thHead, h32])]
  congr 3
  simp [thHead, h32]
theorem TV_setX (t : Th) (h32 : t.id.length = 32) (x : Int) : (TV t).setIfInBounds 35 (.int .i64 x) = TV { t with x := x } := by rw [TV_setT t h32 0]; rfl
theorem TV_setY (t : Th) (h32 : t.id.length = 32) (y : Int) : (TV t).setIfInBounds 36 (.int .i64 y) = TV { t with y := y } := by rw [TV_setT t h32 1]; rfl
theorem TV_setV (t : Th) (h32 : t.id.length = 32) (A : Option Addr) (c : Nat) (zs : List Int) : (TV t).setIfInBounds 37 (.slice A zs.length c) = TV { t with A2 := A, c2 := c, zs := zs } := by rw [TV_setT t h32 2]; rfl
theorem TV_setB (t : Th) (h32 : t.id.length = 32) (b : Bool) : (TV t).setIfInBounds 38 (.bool b) = TV { t with b := b } := by rw [TV_setT t h32 3]; rfl
theorem flat2 (a b : List UInt8) : flat [some a, some b] = a ++ b := by simp [flat]
theorem th0_text {w : World} {A : Option Addr} {c : Nat} {cs : List UInt8} (k : Int) (hs : SB w w.heap.size A cs.length cs) (hl : cs.length ≤ 549755813888) (hc : cs.length ≤ c) : TOK w { th0 k with A := A, c := c, cs := cs } :=
  ⟨rfl, hs, ⟨rfl, fun h => absurd h (Nat.lt_irrefl 0)⟩, hl, Nat.zero_le _, hc, Nat.le_refl _, by simp [lt63, th0], by simp [lt63, th0], by simp [lt63, th0], by simp [th0]⟩
theorem th0_vec {w : World} {A : Option Addr} {c : Nat} {zs : List Int} (k : Int) (hs : SI w A zs.length zs) (hl : zs.length ≤ 549755813888) (hc : zs.length ≤ c) (hz : ∀ z ∈ zs, lt63 z) : TOK w { th0 k with A2 := A, c2 := c, zs := zs } :=
  ⟨rfl, SB.nil _ _ _, hs, Nat.zero_le _, hl, Nat.le_refl _, hc, by simp [lt63, th0], by simp [lt63, th0], by simp [lt63, th0], hz⟩
theorem th0_dot (w : World) (k x y : Int) (hx : lt63 x) (hy : lt63 y) : TOK w { th0 k with x := x, y := y } :=
  ⟨rfl, SB.nil _ _ _, ⟨rfl, fun h => absurd h (Nat.lt_irrefl 0)⟩, Nat.zero_le _, Nat.zero_le _, Nat.le_refl _, Nat.le_refl _, by simp [lt63, th0], hx, hy, by simp [th0]⟩
theorem th0_id (w : World) (k : Int) (l : List UInt8) (hl : l.length = 32) : TOK w { th0 k with id := l } :=
  ⟨hl, SB.nil _ _ _, ⟨rfl, fun h => absurd h (Nat.lt_irrefl 0)⟩, Nat.zero_le _, Nat.zero_le _, Nat.le_refl _, Nat.le_refl _, by simp [lt63, th0], by simp [lt63, th0], by simp [lt63, th0], by simp [th0]⟩
theorem th0_bool (w : World) (k : Int) (b : Bool) : TOK w { th0 k with b := b } :=
  ⟨rfl, SB.nil _ _ _, ⟨rfl, fun h => absurd h (Nat.lt_irrefl 0)⟩, Nat.zero_le _, Nat.zero_le _, Nat.le_refl _, Nat.le_refl _, by simp [lt63, th0], by simp [lt63, th0], by simp [lt63, th0], by simp [th0]⟩
theorem sizedS_len (bs : List UInt8) (most : Int) (s : RS) : (sizedS bs most s).1.length ≤ bs.length := by
  cases s with
  | bad e p => exact Nat.zero_le _
  | ok a =>
    show (takeS bs _ a _).1.length ≤ _
    generalize (numS bs most 4 (.ok a)).2 = s1
    generalize (numS bs most 4 (.ok a)).1 = n1
    cases s1 with
    | bad e p => exact Nat.zero_le _
    | ok a1 =>
      by_cases hm : bs.length - a1 < n1
      · rw [show takeS bs n1 a (.ok a1) = ([], .bad 6 a) from if_pos hm]; exact Nat.zero_le _
      · rw [show takeS bs n1 a (.ok a1) = ((bs.drop a1).take n1, .ok (a1 + n1)) from if_neg hm]
        show ((bs.drop a1).take n1).length ≤ _
        rw [List.length_take, List.length_drop]; omega
theorem reads_text {bs : List UInt8} {most : Int} {a : Nat} (k : Int) (hk : k = 1 ∨ k = 2) (A : Option Addr) (c : Nat) : Reads bs a (thItems { th0 k with A := A, c := c, cs := (sizedS bs most (.ok a)).1 }) (sizedS bs most (.ok a)).2 := fun a' e => by
  have h : thItems { th0 k with A := A, c := c, cs := (sizedS bs most (.ok a)).1 } = [numI (((sizedS bs most (.ok a)).1.length : Nat) : Int), some (sizedS bs most (.ok a)).1] := by
    show (if k = 0 then _ else if k = 1 ∨ k = 2 then _ else _) = _
    rw [if_neg (by omega), if_pos hk]
  rw [h, numI_nat, flat2]
  obtain ⟨h1, h2⟩ := sizedS_span (bs := bs) (most := most) (a := a) (a' := a') (cs := (sizedS bs most (.ok a)).1) (by rw [← e])
  exact ⟨by simp [anyNeg], h1, h2⟩
theorem reads_id {bs : List UInt8} {a : Nat} (ha : a ≤ bs.length) : Reads bs a (thItems { th0 3 with id := (idS bs (.ok a)).1 }) (idS bs (.ok a)).2 := fun a' e => by
  have h : thItems { th0 3 with id := (idS bs (.ok a)).1 } = [some (idS bs (.ok a)).1] := rfl
  obtain ⟨h1, h2, _⟩ := idS_span (bs := bs) (a := a) (a' := a') (l := (idS bs (.ok a)).1) ha (by rw [← e])
  rw [h]
  exact ⟨by simp [anyNeg], by simpa [flat] using h1, h2⟩
theorem dotS_lt (bs : List UInt8) (s : RS) : (dotS bs s).1.1 < 9223372036854775808 ∧ (dotS bs s).1.2 < 9223372036854775808 := by
  have h1 := numS_lt bs maxI 0 s
  have h2 := numS_lt bs maxI 0 (numS bs maxI 0 s).2
  unfold dotS
  generalize numS bs maxI 0 (numS bs maxI 0 s).2 = q2 at h2 ⊢
  generalize numS bs maxI 0 s = q1 at h1 ⊢
  by_cases h : q2.2.err = 0
  · simp only [h, if_true]; exact ⟨h1, h2⟩
  · simp only [h, if_false]; exact ⟨by omega, by omega⟩
theorem reads_dot {bs : List UInt8} {a : Nat} : Reads bs a (thItems { th0 4 with x := ((dotS bs (.ok a)).1.1 : Int), y := ((dotS bs (.ok a)).1.2 : Int) }) (dotS bs (.ok a)).2 := fun a' e => by
  have h : thItems { th0 4 with x := ((dotS bs (.ok a)).1.1 : Int), y := ((dotS bs (.ok a)).1.2 : Int) } = [numI ((dotS bs (.ok a)).1.1 : Int), numI ((dotS bs (.ok a)).1.2 : Int)] := rfl
  obtain ⟨h1, h2, _⟩ := dotS_span (bs := bs) (a := a) (a' := a') (x := (dotS bs (.ok a)).1.1) (y := (dotS bs (.ok a)).1.2) (by rw [← e])
  rw [h, numI_nat, numI_nat, flat2]
  exact ⟨by simp [anyNeg], h1, h2⟩
theorem reads_vec {bs : List UInt8} {most : Int} {a : Nat} (A : Option Addr) (c : Nat) : Reads bs a (thItems { th0 5 with A2 := A, c2 := c, zs := (vecS bs most (.ok a)).1 }) (vecS bs most (.ok a)).2 := fun a' e => by
  have h : thItems { th0 5 with A2 := A, c2 := c, zs := (vecS bs most (.ok a)).1 } = numI (((vecS bs most (.ok a)).1.length : Nat) : Int) :: (vecS bs most (.ok a)).1.map numI := rfl
  obtain ⟨h1, h2, h3, _⟩ := vecS_span (bs := bs) (most := most) (a := a) (a' := a') (zs := (vecS bs most (.ok a)).1) (by rw [← e])
  obtain ⟨f1, f2⟩ := flat_nums _ (fun z hz => (h3 z hz).1)
  rw [h, numI_nat]
  refine ⟨by simpa [anyNeg] using f2, ?_, h2⟩
  rw [show flat (some (enc (vecS bs most (.ok a)).1.length) :: (vecS bs most (.ok a)).1.map numI) = enc (vecS bs most (.ok a)).1.length ++ flat ((vecS bs most (.ok a)).1.map numI) from by simp [flat], f1]
  exact h1
theorem reads_bool {bs : List UInt8} {a : Nat} : Reads bs a (thItems { th0 6 with b := (((numS bs 1 5 (.ok a)).1 : Int) == 1) }) (numS bs 1 5 (.ok a)).2 := fun a' e => by
  have h : thItems { th0 6 with b := (((numS bs 1 5 (.ok a)).1 : Int) == 1) } = [numI (if (((numS bs 1 5 (.ok a)).1 : Int) == 1) = true then 1 else 0)] := rfl
  obtain ⟨h1, h2, _, h4⟩ := numS_span (bs := bs) (most := 1) (above := 5) (a := a) (a' := a') (n := (numS bs 1 5 (.ok a)).1) (by rw [← e])
  rw [h]
  generalize (numS bs 1 5 (.ok a)).1 = n at h1 h4 ⊢
  have hn : n = 0 ∨ n = 1 := by omega
  rcases hn with rfl | rfl
  · exact ⟨by rfl, by simpa [flat, numI] using h1, h2⟩
  · exact ⟨by rfl, by simpa [flat, numI] using h1, h2⟩
theorem vecLoop_lt (bs : List UInt8) (n : Nat) : ∀ (acc : List Int) (s : RS), (∀ z ∈ acc, lt63 z) → ∀ z ∈ (vecLoop bs n acc s).1, lt63 z := by
  induction n with
  | zero => intro acc s h z hz; exact h z hz
  | succ n ih =>
    intro acc s h z hz
    simp only [vecLoop] at hz
    split at hz
    · refine ih _ _ (fun y hy => ?_) z hz
      rcases List.mem_append.1 hy with hy | hy
      · exact h y hy
      · simp at hy
        have := numS_lt bs maxI 0 s
        rw [hy]; unfold lt63; omega
    · simp at hz
theorem vecLoop_len (bs : List UInt8) (n : Nat) : ∀ (acc : List Int) (s : RS), (vecLoop bs n acc s).1.length ≤ acc.length + n := by
  induction n with
  | zero => intro acc s; exact Nat.le_refl _
  | succ n ih =>
    intro acc s
    simp only [vecLoop]
    split
    · have := ih (acc ++ [((numS bs maxI 0 s).1 : Int)]) (numS bs maxI 0 s).2
      rw [List.length_append] at this
      simp at this
      omega
    · simp
theorem numS_le (bs : List UInt8) (most : Int) (above : Nat) (s : RS) (h : 0 ≤ most) : ((numS bs most above s).1 : Int) ≤ most := by
  cases s with
  | bad e p => exact h
  | ok a =>
    show ((limS a most above (numS0 bs a)).1 : Int) ≤ most
    generalize numS0 bs a = q
    obtain ⟨n, s'⟩ := q
    cases s' with
    | bad e p => exact h
    | ok a' =>
      by_cases hm : most < (n : Int)
      · rw [show limS a most above (n, .ok a') = (0, .bad above a) from if_pos hm]; exact h
      · rw [show limS a most above (n, .ok a') = (n, .ok a') from if_neg hm]; show (n : Int) ≤ most; omega
end Go.Proofs.Ytcpkjpeimnaimaa
