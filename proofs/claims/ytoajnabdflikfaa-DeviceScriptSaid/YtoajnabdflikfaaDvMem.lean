/- A device in memory: what its blocks hold, and what keeps that. -/
import Derived.Test.YtoajnabdflikfaaDvPart
namespace Go.Proofs.Ytoajnabdflikfaa
open Go.RowKit

def bcs (l : List UInt8) : List Value := l.map bv
/-- the i-th 64 bytes of a list -/
def secAt (l : List UInt8) (i : Nat) : List UInt8 := (l.drop (i * 64)).take 64
/-- the i-th 64 bytes, turned -/
def secPut (l : List UInt8) (i : Nat) (b : List UInt8) : List UInt8 := l.take (i * 64) ++ b ++ l.drop (i * 64 + 64)
def lcell (x : Nat × List UInt8) : List Value := .int .i64 (x.1 : Int) :: bcs x.2
def lcells (l : List (Nat × List UInt8)) : List Value := l.flatMap lcell
/-- a device -/
structure DS where
  n : Nat
  now : List UInt8
  img : List UInt8
  loose : List (Nat × List UInt8)
  fuse : Option Nat
  out : Bool
structure DS.OK (s : DS) : Prop where
  n1 : s.now.length = 64 * s.n
  n2 : s.img.length = 64 * s.n
  nb : s.n ≤ 65536
  lo : ∀ x ∈ s.loose, x.1 < s.n ∧ x.2.length = 64
def fnv (q : Option Nat) : Value := match q with
  | none => .func (.func 36) #[.agg #[]] #[]
  | some f => .func (.func 49) #[.pointer (some ⟨f, 0, none⟩)] #[]
def FuseB (w : World) (q fuse : Option Nat) : Prop := match q, fuse with
  | none, none => True
  | some f, some k => Blk w f 81 #[.int .i64 (k : Int)]
  | _, _ => False
def rowOf (A : Option Addr) : Option Nat := A.map (·.block)
structure DevIn (w : World) (base g a m : Nat) (A : Option Addr) (c : Nat) (q : Option Nat) (s : DS) : Prop where
  hd : Blk w g 48 #[.pointer (some ⟨g, 0, none⟩), .slice (some ⟨a, 0, none⟩) s.n s.n, .slice (some ⟨m, 0, none⟩) s.n s.n, .slice A s.loose.length c, fnv q, .bool s.out]
  now : Blk w a 72 (bcs s.now).toArray
  img : Blk w m 72 (bcs s.img).toArray
  row : w.ownsRow base 78 65 (.slice A s.loose.length c) s.loose.length (lcells s.loose)
  fz : FuseB w q s.fuse
  ga : g ≠ a
  gm : g ≠ m
  am : a ≠ m
  rs : ∀ b, rowOf A = some b → b ≠ g ∧ b ≠ a ∧ b ≠ m ∧ q ≠ some b
  qs : ∀ f, q = some f → f ≠ g ∧ f ≠ a ∧ f ≠ m ∧ base ≤ f ∧ f < w.heap.size
  hg : base ≤ g
  ha : base ≤ a
  hm : base ≤ m
def fpD (g a m : Nat) (A : Option Addr) (q : Option Nat) (b : Nat) : Prop := b = g ∨ b = a ∨ b = m ∨ rowOf A = some b ∨ q = some b
theorem own_row (A : Option Addr) (n c : Nat) : (Value.slice A n c).ownBlock = rowOf A := by cases A <;> rfl
section
variable {w w' : World} {base g a m c : Nat} {A : Option Addr} {q : Option Nat} {s : DS} {L : List Nat}
theorem ownsRow_chg {e : TypeId} {size n : Nat} {v : Value} {xs : List Value} (h : w.ownsRow base e size v n xs) (hc : Chg L w w') (hg : ∀ g, v.ownBlock = some g → g ∉ L) : w'.ownsRow base e size v n xs := by
  have hlt0 := World.ownsRow.lt h
  rcases h with ⟨h1, ⟨rfl, rfl⟩ | ⟨g', cap, cur, rfl, hb, hlt, r⟩⟩
  · exact ⟨h1, .inl ⟨rfl, rfl⟩⟩
  · have e := hc.block g' (hlt0 g' rfl).2 (hg g' rfl)
    exact ⟨h1, .inr ⟨g', cap, cur, rfl, hb, e.trans hlt, r⟩⟩
theorem FuseB.chg {fuse : Option Nat} (h : FuseB w q fuse) (hc : Chg L w w') (hg : ∀ f, q = some f → f ∉ L) : FuseB w' q fuse := by
  unfold FuseB at *
  cases q <;> cases fuse <;> simp_all
  exact h.chg hc hg
theorem DevIn.chg (h : DevIn w base g a m A c q s) (hc : Chg L w w') (hd : ∀ b, fpD g a m A q b → b ∉ L) : DevIn w' base g a m A c q s where
  hd := h.hd.chg hc (hd g (.inl rfl))
  now := h.now.chg hc (hd a (.inr (.inl rfl)))
  img := h.img.chg hc (hd m (.inr (.inr (.inl rfl))))
  row := ownsRow_chg h.row hc (fun b hb => hd b (.inr (.inr (.inr (.inl (by rwa [own_row] at hb))))))
  fz := h.fz.chg hc (fun f hf => hd f (.inr (.inr (.inr (.inr hf)))))
  ga := h.ga
  gm := h.gm
  am := h.am
  rs := h.rs
  qs := fun f hf => ⟨(h.qs f hf).1, (h.qs f hf).2.1, (h.qs f hf).2.2.1, (h.qs f hf).2.2.2.1, Nat.lt_of_lt_of_le (h.qs f hf).2.2.2.2 hc.size⟩
  hg := h.hg
  ha := h.ha
  hm := h.hm
theorem DevIn.keep (h : DevIn w base g a m A c q s) (hb : Below w.heap.size w w') : DevIn w' base g a m A c q s := h.chg (L := []) (Chg.of_below hb) (fun _ _ => by simp)
theorem DevIn.drew (h : DevIn w base g a m A c q s) : DevIn w.drew base g a m A c q s := ⟨h.hd, h.now, h.img, h.row, h.fz, h.ga, h.gm, h.am, h.rs, h.qs, h.hg, h.ha, h.hm⟩
theorem DevIn.lt (h : DevIn w base g a m A c q s) : ∀ b, fpD g a m A q b → base ≤ b ∧ b < w.heap.size := by
  rintro b (rfl | rfl | rfl | hb | hb)
  · exact ⟨h.hg, h.hd.lt⟩
  · exact ⟨h.ha, h.now.lt⟩
  · exact ⟨h.hm, h.img.lt⟩
  · exact World.ownsRow.lt h.row b (by rw [own_row]; exact hb)
  · exact ⟨(h.qs b hb).2.2.2.1, (h.qs b hb).2.2.2.2⟩
end
/-- Block g is a device, all of whose blocks are in F. -/
def DevB (w : World) (base : Nat) (F : List Nat) (g : Nat) (s : DS) : Prop :=
  ∃ a m A c q, DevIn w base g a m A c q s ∧ s.OK ∧ (∀ b, fpD g a m A q b → b ∈ F) ∧ ∀ b ∈ F, base ≤ b ∧ b < w.heap.size
section
variable {w w' : World} {base g : Nat} {F L : List Nat} {s : DS}
theorem DevB.ok (h : DevB w base F g s) : s.OK := by obtain ⟨_, _, _, _, _, _, h, _⟩ := h; exact h
theorem DevB.lt (h : DevB w base F g s) : ∀ b ∈ F, base ≤ b ∧ b < w.heap.size := by obtain ⟨_, _, _, _, _, _, _, _, h⟩ := h; exact h
theorem DevB.hd (h : DevB w base F g s) : g ∈ F := by obtain ⟨_, _, _, _, _, _, _, h, _⟩ := h; exact h g (.inl rfl)
theorem DevB.chg (h : DevB w base F g s) (hc : Chg L w w') (hd : ∀ b ∈ F, b ∉ L) : DevB w' base F g s := by
  obtain ⟨a, m, A, c, q, h1, h2, h3, h4⟩ := h
  exact ⟨a, m, A, c, q, h1.chg hc (fun b hb => hd b (h3 b hb)), h2, h3, fun b hb => ⟨(h4 b hb).1, Nat.lt_of_lt_of_le (h4 b hb).2 hc.size⟩⟩
theorem DevB.keep (h : DevB w base F g s) (hb : Below w.heap.size w w') : DevB w' base F g s := h.chg (L := []) (Chg.of_below hb) (fun _ _ => by simp)
theorem DevB.drew (h : DevB w base F g s) : DevB w.drew base F g s := h.keep ((Below.refl _ _).drew)
end
/-- what a call of a device leaves -/
def DevPost (w : World) (base : Nat) (F : List Nat) (g : Nat) (s' : DS) (v : Value) (e : Ending) (w' : World) : Prop :=
  e = .returned v ∧ ∃ F', DevB w' base F' g s' ∧ Chg F w w' ∧ ∀ b ∈ F', b ∈ F ∨ w.heap.size ≤ b

theorem chg_set {w : World} {d : Nat} {L : List Nat} (hd : d ∈ L) (i : Nat) (u : Value) : Chg L w (w.setCell ⟨d, i, none⟩ u) := Chg.of_grown (grown_setCell w d i u) (fun g e => by cases e; exact hd)
theorem chg_setRow {w : World} {d : Nat} {L : List Nat} (hd : d ∈ L) (cs : Array Value) : Chg L w (w.setRow d cs) := Chg.of_grown (grown_setRow w d cs) (fun g e => by cases e; exact hd)
theorem bcs_length (l : List UInt8) : (bcs l).length = l.length := by simp [bcs]
theorem lcell_length {x : Nat × List UInt8} (h : x.2.length = 64) : (lcell x).length = 65 := by simp [lcell, bcs, h]
theorem secAt_length {l : List UInt8} {i n : Nat} (h : l.length = 64 * n) (hi : i < n) : (secAt l i).length = 64 := by simp [secAt]; omega
theorem secPut_length {l b : List UInt8} {i n : Nat} (h : l.length = 64 * n) (hi : i < n) (hb : b.length = 64) : (secPut l i b).length = 64 * n := by simp [secPut, hb]; omega
theorem sec_split {l : List UInt8} (i : Nat) : l = l.take (i * 64) ++ secAt l i ++ l.drop (i * 64 + 64) := by
  have h : l.drop (i * 64 + 64) = (l.drop (i * 64)).drop 64 := by rw [List.drop_drop]
  rw [secAt, h, List.append_assoc, List.take_append_drop, List.take_append_drop]
theorem sec_part (l : List UInt8) (i : Nat) : (bcs l).toArray = part (bcs (l.take (i * 64))) (bcs (secAt l i)) (bcs (l.drop (i * 64 + 64))) := by
  conv => lhs; rw [sec_split (l := l) i]
  simp [part, bcs]
theorem put_part (l b : List UInt8) (i : Nat) : (bcs (secPut l i b)).toArray = part (bcs (l.take (i * 64))) (bcs b) (bcs (l.drop (i * 64 + 64))) := by
  simp [part, bcs, secPut]
theorem bcs_oneCell (l : List UInt8) : ∀ v ∈ bcs l, v.oneCell' = true := by
  intro v hv; obtain ⟨x, _, rfl⟩ := List.mem_map.1 hv; rfl
theorem lcells_length (l : List (Nat × List UInt8)) (h : ∀ x ∈ l, x.2.length = 64) : (lcells l).length = l.length * 65 := by
  induction l with
  | nil => rfl
  | cons x l ih =>
    simp only [lcells, List.flatMap_cons, List.length_append, List.length_cons] at *
    rw [lcell_length (h x (by simp)), ih (fun y hy => h y (by simp [hy]))]
    omega
theorem lcells_snoc (l : List (Nat × List UInt8)) (x : Nat × List UInt8) : lcells (l ++ [x]) = lcells l ++ lcell x := by simp [lcells]
/-- the cells of the k-th loose write -/
theorem lcells_at (l : List (Nat × List UInt8)) (h : ∀ x ∈ l, x.2.length = 64) (k : Nat) (x : Nat × List UInt8) (hk : l[k]? = some x) (j : Nat) (v : Value) (hj : (lcell x)[j]? = some v) : (lcells l)[k * 65 + j]? = some v := by
  induction l generalizing k with
  | nil => simp at hk
  | cons y l ih =>
    have hy := lcell_length (h y (by simp))
    cases k with
    | zero =>
      simp at hk; subst hk
      simp only [lcells, List.flatMap_cons, Nat.zero_mul, Nat.zero_add]
      rw [List.getElem?_append_left (by have := (List.getElem?_eq_some_iff.1 hj).1; omega), hj]
    | succ k =>
      simp only [lcells, List.flatMap_cons]
      rw [List.getElem?_append_right (by omega), hy, show (k + 1) * 65 + j - 65 = k * 65 + j by omega]
      exact ih (fun z hz => h z (by simp [hz])) k (by simpa using hk)
end Go.Proofs.Ytoajnabdflikfaa
