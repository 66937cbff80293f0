/- A part of a block: the cells between what stands ahead and what stands behind. Plain lemmas over any program. -/
import Derived.Test.YtiejndkchcljdaaBlk
import Derived.Test.YtiejndkchcljdaaWrMem
import Derived.Laws.CopyOwn
namespace Go.Proofs.Ytiejndkchcljdaa
open Go.RowKit

/-- the cells of a block in three parts -/
def part (pre mid post : List Value) : Array Value := (pre ++ mid ++ post).toArray
theorem part_size (pre mid post : List Value) : (part pre mid post).size = pre.length + mid.length + post.length := by simp [part]; omega
theorem part_at {pre mid post : List Value} {i : Nat} {v : Value} (h : mid[i]? = some v) : (part pre mid post)[pre.length + i]? = some v := by
  have hl : i < mid.length := (List.getElem?_eq_some_iff.1 h).1
  simp only [part, List.getElem?_toArray]
  rw [List.append_assoc, List.getElem?_append_right (by omega), Nat.add_sub_cancel_left, List.getElem?_append_left hl, h]
theorem part_set (pre mid post : List Value) (i : Nat) (v : Value) (h : i < mid.length) : (part pre mid post).setIfInBounds (pre.length + i) v = part pre (mid.set i v) post := by
  simp only [part, List.setIfInBounds_toArray]
  rw [List.append_assoc, List.set_append_right _ _ (by omega), Nat.add_sub_cancel_left, List.set_append_left _ _ h, List.append_assoc]
theorem part_left (pre a b post : List Value) : part pre (a ++ b) post = part pre a (b ++ post) := by simp [part]
theorem part_right (pre a b post : List Value) : part pre (a ++ b) post = part (pre ++ a) b post := by simp [part]
theorem part_whole (mid : List Value) : part [] mid [] = mid.toArray := by simp [part]

section
variable {P : Program} {ops : Array Oper} {rest : List Oper} {o : Oper} {a : Act} {w : World} {Q : Exit → Act → World → Prop}
theorem part_load {g : Nat} {t : TypeId} {pre mid post : List Value} (hb : Blk w g t (part pre mid post)) (ty : TypeId) {off : Nat} (ho : pre.length = off)
    {d : TypeDesc} (hu : P.underlying ty = some d) (hd : (match d with | .struct _ => true | .array _ _ => true | _ => false) = true) (hi : (P.info? ty).map (·.size) = some mid.length) :
    (loadVar ty ⟨g, off, none⟩).run P w = .ok (.agg mid.toArray) w := by
  subst ho
  have hl := run_loadCells_list (P := P) w ⟨g, pre.length, none⟩ mid (fun j v hv => by
    rw [Addr.add_lit]; exact hb.cell _ (part_at hv))
  cases hq : P.info? ty with
  | none => simp [hq] at hi
  | some i =>
    have hs : i.size = mid.length := by simpa [hq] using hi
    have hagg : (isAgg ty).run P w = .ok true w := by
      unfold isAgg
      rw [Sem.run_bind, run_underlying hu w]
      cases d <;> simp_all
    simp [loadVar, Sem.run_bind, hagg, sizeOf, typeInfo, hq, hs, hl]
theorem wpList_load_part (hg : o.guard = none) (t : TypeId) (x : Operand) (ho : o.op = .load t x) (g off : Nat) (hx : a.eval x = .pointer (some ⟨g, off, none⟩)) {t' : TypeId} {pre mid post : List Value} (hb : Blk w g t' (part pre mid post)) (hoff : pre.length = off)
    {d : TypeDesc} (hu : P.underlying t = some d) (hd : (match d with | .struct _ => true | .array _ _ => true | _ => false) = true) (hi : (P.info? t).map (·.size) = some mid.length)
    (h : wpList P ops Q rest (a.put o.dst (.agg mid.toArray)) w) : wpList P ops Q (o :: rest) a w :=
  wpList_plain hg fun K hK => by
    unfold Oper.wp execOp
    simp only [ho, hx, Instr.loadAt, Instr.sureAddr, Sem.run_bind, Sem.run_pure, Result.andThen_ok, part_load hb t hoff hu hd hi]
    exact hK _ _ h
theorem part_store {g : Nat} {t : TypeId} {pre mid post cs : List Value} (hb : Blk w g t (part pre mid post)) (ty : TypeId) {off : Nat} (ho : pre.length = off)
    (hi : (P.info? ty).map (·.size) = some cs.length) (hc : cs.length = mid.length) (h1 : ∀ v ∈ cs, v.oneCell' = true) :
    (storeVar ty ⟨g, off, none⟩ (.agg cs.toArray)).run P w = .ok () (w.setRow g (part pre cs post)) := by
  subst ho
  have hst := run_storeCells_at P g pre.length t cs 0 (part pre mid post) w hb (by rw [part_size]; omega) h1
  have e : (part pre mid post).toList.take (pre.length + 0) ++ cs ++ (part pre mid post).toList.drop (pre.length + 0 + cs.length) = pre ++ cs ++ post := by
    simp only [part, Nat.add_zero]
    rw [List.append_assoc pre mid post, List.take_left, ← List.append_assoc pre mid post, List.drop_append_of_le_length (by simp; omega)]
    have : (pre ++ mid).drop (pre.length + cs.length) = [] := List.drop_of_length_le (by simp; omega)
    rw [this, List.nil_append]
  rw [e] at hst
  cases hq : P.info? ty with
  | none => simp [hq] at hi
  | some i =>
    have hs : cs.length = i.size := by simp [hq] at hi; omega
    simp [storeVar, sizeOf, typeInfo, hq, Value.cells, hs, hst, part]
theorem wpList_store_part (hg : o.guard = none) (t : TypeId) (x y : Operand) (ho : o.op = .store t x y) (g off : Nat) (cs : List Value) (hx : a.eval x = .pointer (some ⟨g, off, none⟩)) (hy : a.eval y = .agg cs.toArray)
    {t' : TypeId} {pre mid post : List Value} (hb : Blk w g t' (part pre mid post)) (hoff : pre.length = off) (hi : (P.info? t).map (·.size) = some cs.length) (hc : cs.length = mid.length) (h1 : ∀ v ∈ cs, v.oneCell' = true)
    (h : wpList P ops Q rest (a.put o.dst undef) (w.setRow g (part pre cs post))) : wpList P ops Q (o :: rest) a w :=
  wpList_plain hg fun K hK => by
    unfold Oper.wp execOp
    simp only [ho, hx, hy, Instr.storeAt, Instr.sureAddr, Sem.run_bind, Sem.run_pure, Result.andThen_ok, part_store hb t hoff hi hc h1]
    exact hK _ _ h
/-- bytes that are a part of a block, to be read -/
theorem part_sb {g B : Nat} {t : TypeId} {pre post : List Value} {bs : List UInt8} (hb : Blk w g t (part pre (bs.map bv) post)) (off n : Nat) (ho : pre.length = off) (hn : bs.length = n) (hg : g < B) : SB w B (some ⟨g, off, none⟩) n bs := by
  subst ho
  exact ⟨hn, fun _ => ⟨g, pre.length, rfl, hg, fun j x hj => hb.cell _ (part_at (by simp [hj]))⟩⟩
end
/-- a load of cells that are known -/
theorem wpList_load_cells {P : Program} {ops : Array Oper} {rest : List Oper} {o : Oper} {a : Act} {w : World} {Q : Exit → Act → World → Prop} (hg : o.guard = none) (t : TypeId) (x : Operand) (ho : o.op = .load t x) (ad : Addr) (hx : a.eval x = .pointer (some ad)) (cs : List Value) (hc : ∀ j v, cs[j]? = some v → w.cell? (ad.add j) = some v)
    {d : TypeDesc} (hu : P.underlying t = some d) (hd : (match d with | .struct _ => true | .array _ _ => true | _ => false) = true) (hi : (P.info? t).map (·.size) = some cs.length)
    (h : wpList P ops Q rest (a.put o.dst (.agg cs.toArray)) w) : wpList P ops Q (o :: rest) a w :=
  wpList_plain hg fun K hK => by
    have hl := run_loadCells_list (P := P) w ad cs hc
    have hr : (loadVar t ad).run P w = .ok (.agg cs.toArray) w := by
      cases hq : P.info? t with
      | none => simp [hq] at hi
      | some i =>
        have hs : i.size = cs.length := by simpa [hq] using hi
        have hagg : (isAgg t).run P w = .ok true w := by
          unfold isAgg
          rw [Sem.run_bind, run_underlying hu w]
          cases d <;> simp_all
        simp [loadVar, Sem.run_bind, hagg, sizeOf, typeInfo, hq, hs, hl]
    unfold Oper.wp execOp
    simp only [ho, hx, Instr.loadAt, Instr.sureAddr, Sem.run_bind, Sem.run_pure, Result.andThen_ok, hr]
    exact hK _ _ h
end Go.Proofs.Ytiejndkchcljdaa
/- A device in memory: what its blocks hold, and what keeps that. -/
namespace Go.Proofs.Ytiejndkchcljdaa
open Go.RowKit

def bcs (l : List UInt8) : List Value := l.map bv
/-- the i-th 64 bytes of a list -/
def secAt (l : List UInt8) (i : Nat) : List UInt8 := (l.drop (i * 64)).take 64
/-- the i-th 64 bytes, turned -/
def secPut (l : List UInt8) (i : Nat) (b : List UInt8) : List UInt8 := l.take (i * 64) ++ b ++ l.drop (i * 64 + 64)
def lcell (x : Nat × List UInt8) : List Value := .int .i64 (x.1 : Int) :: bcs x.2
def lcells (l : List (Nat × List UInt8)) : List Value := l.flatMap lcell
/-- a device -/
structure DS where
  n : Nat
  now : List UInt8
  img : List UInt8
  loose : List (Nat × List UInt8)
  fuse : Option Nat
  out : Bool
structure DS.OK (s : DS) : Prop where
  n1 : s.now.length = 64 * s.n
  n2 : s.img.length = 64 * s.n
  nb : s.n ≤ 65536
  lo : ∀ x ∈ s.loose, x.1 < s.n ∧ x.2.length = 64
def fnv (q : Option Nat) : Value := match q with
  | none => .func (.func 49) #[.agg #[]] #[]
  | some f => .func (.func 61) #[.pointer (some ⟨f, 0, none⟩)] #[]
def FuseB (w : World) (q fuse : Option Nat) : Prop := match q, fuse with
  | none, none => True
  | some f, some k => Blk w f 102 #[.int .i64 (k : Int)]
  | _, _ => False
def rowOf (A : Option Addr) : Option Nat := A.map (·.block)
structure DevIn (w : World) (base g a m : Nat) (A : Option Addr) (c : Nat) (q : Option Nat) (s : DS) : Prop where
  hd : Blk w g 65 #[.pointer (some ⟨g, 0, none⟩), .slice (some ⟨a, 0, none⟩) s.n s.n, .slice (some ⟨m, 0, none⟩) s.n s.n, .slice A s.loose.length c, fnv q, .bool s.out]
  now : Blk w a 104 (bcs s.now).toArray
  img : Blk w m 104 (bcs s.img).toArray
  row : w.ownsRow base 106 65 (.slice A s.loose.length c) s.loose.length (lcells s.loose)
  fz : FuseB w q s.fuse
  ga : g ≠ a
  gm : g ≠ m
  am : a ≠ m
  rs : ∀ b, rowOf A = some b → b ≠ g ∧ b ≠ a ∧ b ≠ m ∧ q ≠ some b
  qs : ∀ f, q = some f → f ≠ g ∧ f ≠ a ∧ f ≠ m ∧ base ≤ f ∧ f < w.heap.size
  hg : base ≤ g
  ha : base ≤ a
  hm : base ≤ m
def fpD (g a m : Nat) (A : Option Addr) (q : Option Nat) (b : Nat) : Prop := b = g ∨ b = a ∨ b = m ∨ rowOf A = some b ∨ q = some b
theorem own_row (A : Option Addr) (n c : Nat) : (Value.slice A n c).ownBlock = rowOf A := by cases A <;> rfl
section
variable {w w' : World} {base g a m c : Nat} {A : Option Addr} {q : Option Nat} {s : DS} {L : List Nat}
theorem ownsRow_chg {e : TypeId} {size n : Nat} {v : Value} {xs : List Value} (h : w.ownsRow base e size v n xs) (hc : Chg L w w') (hg : ∀ g, v.ownBlock = some g → g ∉ L) : w'.ownsRow base e size v n xs := by
  have hlt0 := World.ownsRow.lt h
  rcases h with ⟨h1, ⟨rfl, rfl⟩ | ⟨g', cap, cur, rfl, hb, hlt, r⟩⟩
  · exact ⟨h1, .inl ⟨rfl, rfl⟩⟩
  · have e := hc.block g' (hlt0 g' rfl).2 (hg g' rfl)
    exact ⟨h1, .inr ⟨g', cap, cur, rfl, hb, e.trans hlt, r⟩⟩
theorem FuseB.chg {fuse : Option Nat} (h : FuseB w q fuse) (hc : Chg L w w') (hg : ∀ f, q = some f → f ∉ L) : FuseB w' q fuse := by
  unfold FuseB at *
  cases q <;> cases fuse <;> simp_all
  exact h.chg hc hg
theorem DevIn.chg (h : DevIn w base g a m A c q s) (hc : Chg L w w') (hd : ∀ b, fpD g a m A q b → b ∉ L) : DevIn w' base g a m A c q s where
  hd := h.hd.chg hc (hd g (.inl rfl))
  now := h.now.chg hc (hd a (.inr (.inl rfl)))
  img := h.img.chg hc (hd m (.inr (.inr (.inl rfl))))
  row := ownsRow_chg h.row hc (fun b hb => hd b (.inr (.inr (.inr (.inl (by rwa [own_row] at hb))))))
  fz := h.fz.chg hc (fun f hf => hd f (.inr (.inr (.inr (.inr hf)))))
  ga := h.ga
  gm := h.gm
  am := h.am
  rs := h.rs
  qs := fun f hf => ⟨(h.qs f hf).1, (h.qs f hf).2.1, (h.qs f hf).2.2.1, (h.qs f hf).2.2.2.1, Nat.lt_of_lt_of_le (h.qs f hf).2.2.2.2 hc.size⟩
  hg := h.hg
  ha := h.ha
  hm := h.hm
theorem DevIn.keep (h : DevIn w base g a m A c q s) (hb : Below w.heap.size w w') : DevIn w' base g a m A c q s := h.chg (L := []) (Chg.of_below hb) (fun _ _ => by simp)
theorem DevIn.drew (h : DevIn w base g a m A c q s) : DevIn w.drew base g a m A c q s := ⟨h.hd, h.now, h.img, h.row, h.fz, h.ga, h.gm, h.am, h.rs, h.qs, h.hg, h.ha, h.hm⟩
theorem DevIn.lt (h : DevIn w base g a m A c q s) : ∀ b, fpD g a m A q b → base ≤ b ∧ b < w.heap.size := by
  rintro b (rfl | rfl | rfl | hb | hb)
  · exact ⟨h.hg, h.hd.lt⟩
  · exact ⟨h.ha, h.now.lt⟩
  · exact ⟨h.hm, h.img.lt⟩
  · exact World.ownsRow.lt h.row b (by rw [own_row]; exact hb)
  · exact ⟨(h.qs b hb).2.2.2.1, (h.qs b hb).2.2.2.2⟩
end
/-- Block g is a device, all of whose blocks are in F. -/
def DevB (w : World) (base : Nat) (F : List Nat) (g : Nat) (s : DS) : Prop :=
  ∃ a m A c q, DevIn w base g a m A c q s ∧ s.OK ∧ (∀ b, fpD g a m A q b → b ∈ F) ∧ ∀ b ∈ F, base ≤ b ∧ b < w.heap.size
section
variable {w w' : World} {base g : Nat} {F L : List Nat} {s : DS}
theorem DevB.ok (h : DevB w base F g s) : s.OK := by obtain ⟨_, _, _, _, _, _, h, _⟩ := h; exact h
theorem DevB.lt (h : DevB w base F g s) : ∀ b ∈ F, base ≤ b ∧ b < w.heap.size := by obtain ⟨_, _, _, _, _, _, _, _, h⟩ := h; exact h
theorem DevB.hd (h : DevB w base F g s) : g ∈ F := by obtain ⟨_, _, _, _, _, _, _, h, _⟩ := h; exact h g (.inl rfl)
theorem DevB.chg (h : DevB w base F g s) (hc : Chg L w w') (hd : ∀ b ∈ F, b ∉ L) : DevB w' base F g s := by
  obtain ⟨a, m, A, c, q, h1, h2, h3, h4⟩ := h
  exact ⟨a, m, A, c, q, h1.chg hc (fun b hb => hd b (h3 b hb)), h2, h3, fun b hb => ⟨(h4 b hb).1, Nat.lt_of_lt_of_le (h4 b hb).2 hc.size⟩⟩
theorem DevB.keep (h : DevB w base F g s) (hb : Below w.heap.size w w') : DevB w' base F g s := h.chg (L := []) (Chg.of_below hb) (fun _ _ => by simp)
theorem DevB.drew (h : DevB w base F g s) : DevB w.drew base F g s := h.keep ((Below.refl _ _).drew)
end
/-- what a call of a device leaves -/
def DevPost (w : World) (base : Nat) (F : List Nat) (g : Nat) (s' : DS) (v : Value) (e : Ending) (w' : World) : Prop :=
  e = .returned v ∧ ∃ F', DevB w' base F' g s' ∧ Chg F w w' ∧ ∀ b ∈ F', b ∈ F ∨ w.heap.size ≤ b

theorem chg_set {w : World} {d : Nat} {L : List Nat} (hd : d ∈ L) (i : Nat) (u : Value) : Chg L w (w.setCell ⟨d, i, none⟩ u) := Chg.of_grown (grown_setCell w d i u) (fun g e => by cases e; exact hd)
theorem chg_setRow {w : World} {d : Nat} {L : List Nat} (hd : d ∈ L) (cs : Array Value) : Chg L w (w.setRow d cs) := Chg.of_grown (grown_setRow w d cs) (fun g e => by cases e; exact hd)
theorem bcs_length (l : List UInt8) : (bcs l).length = l.length := by simp [bcs]
theorem lcell_length {x : Nat × List UInt8} (h : x.2.length = 64) : (lcell x).length = 65 := by simp [lcell, bcs, h]
theorem secAt_length {l : List UInt8} {i n : Nat} (h : l.length = 64 * n) (hi : i < n) : (secAt l i).length = 64 := by simp [secAt]; omega
theorem secPut_length {l b : List UInt8} {i n : Nat} (h : l.length = 64 * n) (hi : i < n) (hb : b.length = 64) : (secPut l i b).length = 64 * n := by simp [secPut, hb]; omega
theorem sec_split {l : List UInt8} (i : Nat) : l = l.take (i * 64) ++ secAt l i ++ l.drop (i * 64 + 64) := by
  have h : l.drop (i * 64 + 64) = (l.drop (i * 64)).drop 64 := by rw [List.drop_drop]
  rw [secAt, h, List.append_assoc, List.take_append_drop, List.take_append_drop]
theorem sec_part (l : List UInt8) (i : Nat) : (bcs l).toArray = part (bcs (l.take (i * 64))) (bcs (secAt l i)) (bcs (l.drop (i * 64 + 64))) := by
  conv => lhs; rw [sec_split (l := l) i]
  simp [part, bcs]
theorem put_part (l b : List UInt8) (i : Nat) : (bcs (secPut l i b)).toArray = part (bcs (l.take (i * 64))) (bcs b) (bcs (l.drop (i * 64 + 64))) := by
  simp [part, bcs, secPut]
theorem bcs_oneCell (l : List UInt8) : ∀ v ∈ bcs l, v.oneCell' = true := by
  intro v hv; obtain ⟨x, _, rfl⟩ := List.mem_map.1 hv; rfl
theorem lcells_length (l : List (Nat × List UInt8)) (h : ∀ x ∈ l, x.2.length = 64) : (lcells l).length = l.length * 65 := by
  induction l with
  | nil => rfl
  | cons x l ih =>
    simp only [lcells, List.flatMap_cons, List.length_append, List.length_cons] at *
    rw [lcell_length (h x (by simp)), ih (fun y hy => h y (by simp [hy]))]
    omega
theorem lcells_snoc (l : List (Nat × List UInt8)) (x : Nat × List UInt8) : lcells (l ++ [x]) = lcells l ++ lcell x := by simp [lcells]
/-- the cells of the k-th loose write -/
theorem lcells_at (l : List (Nat × List UInt8)) (h : ∀ x ∈ l, x.2.length = 64) (k : Nat) (x : Nat × List UInt8) (hk : l[k]? = some x) (j : Nat) (v : Value) (hj : (lcell x)[j]? = some v) : (lcells l)[k * 65 + j]? = some v := by
  induction l generalizing k with
  | nil => simp at hk
  | cons y l ih =>
    have hy := lcell_length (h y (by simp))
    cases k with
    | zero =>
      simp at hk; subst hk
      simp only [lcells, List.flatMap_cons, Nat.zero_mul, Nat.zero_add]
      rw [List.getElem?_append_left (by have := (List.getElem?_eq_some_iff.1 hj).1; omega), hj]
    | succ k =>
      simp only [lcells, List.flatMap_cons]
      rw [List.getElem?_append_right (by omega), hy, show (k + 1) * 65 + j - 65 = k * 65 + j by omega]
      exact ih (fun z hz => h z (by simp [hz])) k (by simpa using hk)
end Go.Proofs.Ytiejndkchcljdaa
