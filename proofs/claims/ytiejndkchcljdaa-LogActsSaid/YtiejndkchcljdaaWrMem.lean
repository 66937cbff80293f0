/- What a call changes: certain blocks alone. Bytes pushed one by one. Plain lemmas over any program. -/
import Derived.Test.YtiejndkchcljdaaBlk
import Derived.Test.YtiejndkchcljdaaStr
namespace Go.Proofs.Ytiejndkchcljdaa
open Go.RowKit

/-- Of the blocks that were there, only those of L were changed. -/
structure Chg (L : List Nat) (w w' : World) : Prop where
  os : w'.os = w.os
  tape : w'.tape = w.tape
  output : w'.output = w.output
  size : w.heap.size ≤ w'.heap.size
  block : ∀ k, k < w.heap.size → k ∉ L → w'.heap[k]? = w.heap[k]?
/-- a block that is the old one, or new -/
def Moved (B : Nat) (r r' : Option Nat) : Prop := r' = r ∨ ∃ g, r' = some g ∧ B ≤ g
section
variable {L L' : List Nat} {w w' w'' : World} {g B : Nat} {t : TypeId} {cs : Array Value}
theorem Chg.refl (L : List Nat) (w : World) : Chg L w w := ⟨rfl, rfl, rfl, Nat.le_refl _, fun _ _ _ => rfl⟩
theorem Chg.trans (h : Chg L w w') (k : Chg L' w' w'') (hL : ∀ b ∈ L', b ∈ L ∨ w.heap.size ≤ b) : Chg L w w'' :=
  ⟨k.os.trans h.os, k.tape.trans h.tape, k.output.trans h.output, Nat.le_trans h.size k.size, fun i hi hn => by
    rw [k.block i (Nat.lt_of_lt_of_le hi h.size) (fun hm => (hL i hm).elim hn (fun hh => by omega)), h.block i hi hn]⟩
theorem Chg.of_below (h : Below w.heap.size w w') : Chg L w w' := ⟨h.os, h.tape, h.output, h.size, fun k hk _ => h.block k hk⟩
theorem Chg.of_grown {row : Option Nat} (h : w.grownBy w' row) (hr : ∀ g, row = some g → g ∈ L) : Chg L w w' := ⟨h.os, h.tape, h.output, h.size, fun k hk hn => h.block k hk (fun e => hn (hr k e.symm))⟩
theorem Chg.below (h : Chg L w w') (hL : ∀ b ∈ L, B ≤ b) (hB : B ≤ w.heap.size) : Below B w w' := ⟨h.os, h.tape, h.output, h.size, fun k hk => h.block k (by omega) (fun hm => by have := hL k hm; omega)⟩
theorem Chg.drew (h : Chg L w w') : Chg L w w'.drew := ⟨h.os, h.tape, h.output, h.size, h.block⟩
theorem Chg.from_drew (h : Chg L w.drew w') : Chg L w w' := ⟨h.os, h.tape, h.output, h.size, h.block⟩
theorem Chg.more (h : Chg L w w') (hL : ∀ b ∈ L, b ∈ L' ∨ w.heap.size ≤ b) : Chg L' w w' := ⟨h.os, h.tape, h.output, h.size, fun k hk hn => h.block k hk (fun hm => (hL k hm).elim hn (fun hh => by omega))⟩
theorem Blk.chg (h : Blk w g t cs) (hc : Chg L w w') (hg : g ∉ L) : Blk w' g t cs := (hc.block g h.lt hg).trans h
theorem cell_chg {p : Addr} {v : Value} (h : w.cell? p = some v) (hc : Chg L w w') (hg : p.block ∉ L) : w'.cell? p = some v := by
  rw [← h]
  refine World.cell?_of_block (hc.block p.block ?_ hg)
  rcases Nat.lt_or_ge p.block w.heap.size with hlt | hge
  · exact hlt
  · unfold World.cell? at h; rw [Array.getElem?_eq_none hge] at h; cases h
theorem Own.chg {base n : Nat} {e : TypeId} {v : Value} {bs : List UInt8} (h : Own w base e v n bs) (hc : Chg L w w') (hg : ∀ g, v.ownBlock = some g → g ∉ L) : Own w' base e v n bs := by
  have hlt0 := World.ownsRow.lt h
  rcases h with ⟨h1, ⟨rfl, rfl⟩ | ⟨g', cap, cur, rfl, hb, hlt, r⟩⟩
  · exact ⟨h1, .inl ⟨rfl, rfl⟩⟩
  · have e := hc.block g' (hlt0 g' rfl).2 (hg g' rfl)
    exact ⟨h1, .inr ⟨g', cap, cur, rfl, hb, e.trans hlt, r⟩⟩
theorem SB.chg {n : Nat} {A : Option Addr} {bs : List UInt8} (h : SB w B A n bs) (hc : Chg L w w') (hg : ∀ b off, A = some ⟨b, off, none⟩ → b < B → b ∉ L) : SB w' B A n bs :=
  ⟨h.1, fun hn => by
    obtain ⟨b, off, e, hlt, hx⟩ := h.2 hn
    exact ⟨b, off, e, hlt, fun j x hj => cell_chg (hx j x hj) hc (hg b off e hlt)⟩⟩
theorem Moved.refl (B : Nat) (r : Option Nat) : Moved B r r := .inl rfl
theorem Moved.trans {B B' : Nat} {r r' r'' : Option Nat} (h : Moved B r r') (k : Moved B' r' r'') (hB : B ≤ B') : Moved B r r'' := by
  rcases k with rfl | ⟨g, rfl, hg⟩
  · exact h
  · exact .inr ⟨g, rfl, by omega⟩
theorem grown_moved {r r' : Option Nat} (h : w.grownBy w' r) (hm : Moved w.heap.size r r') (k : w'.grownBy w'' r') : w.grownBy w'' r :=
  ⟨k.os.trans h.os, k.tape.trans h.tape, k.output.trans h.output, Nat.le_trans h.size k.size, fun i hi hn => by
    rw [k.block i (Nat.lt_of_lt_of_le hi h.size) (fun e => by
      rcases hm with rfl | ⟨g, rfl, hg⟩
      · exact hn e
      · cases e; omega), h.block i hi hn]⟩
end
section
variable {P : Program} (w : World)
/-- one byte behind a row of the call's own -/
theorem wpList_push {ops : Array Oper} {rest : List Oper} {o : Oper} {a : Act} {Q : Exit → Act → World → Prop} (hgd : o.guard = none) (s x : Operand) (t : TypeId)
    (ho : o.op = .call { callee := .builtin .append, args := #[s, x], argTypes := #[t, t] })
    (e : TypeId) (ht : P.underlying t = some (.slice e)) (he : (P.info? e).map (fun i => (i.zero, i.size, i.bytes)) = some (some (.int .u8 0), 1, 1))
    (base : Nat) (v : Value) (n : Nat) (bs : List UInt8) (hv : a.eval s = v) (hown : Own w base e v n bs) (b : UInt8) (X : Int) (hX : X = (b.toNat : Int)) (hx : a.eval x = .slice (some ⟨w.heap.size, 0, none⟩) 1 1)
    (hlen : n + 1 ≤ 1099511627776) (hbase : base ≤ w.heap.size)
    (h : ∀ v' w', Own w' base e v' (n + 1) (bs ++ [b]) → w.grownBy w' v.ownBlock → Moved w.heap.size v.ownBlock v'.ownBlock → wpList P ops Q rest (a.put o.dst v') w') :
    wpList P ops Q (o :: rest) a (w.alloc (.cells #[.int .u8 X] e)) := by
  subst hX
  have ho3 := Own.lit w e w.heap.size [b] #[.int .u8 (b.toNat : Int)] 1 rfl rfl (Nat.le_refl _) (by omega)
  have hb := below_new w (.cells #[.int .u8 (b.toNat : Int)] e)
  have hs := size_new w (.cells #[.int .u8 (b.toNat : Int)] e)
  generalize w.alloc (.cells #[.int .u8 (b.toNat : Int)] e) = w3 at ho3 hb hs ⊢
  obtain ⟨A3, c3, e3, _, hs3, _⟩ := ho3.sb
  have e4 : A3 = some ⟨w.heap.size, 0, none⟩ ∧ c3 = 1 := by injection e3 with h1 _ h3; exact ⟨h1.symm, h3.symm⟩
  refine wpList_append_bytes w3 hgd s x t ho e ht he base v n bs hv (hown.keep hb) _ A3 1 c3 [b] (by rw [hx, e4.1, e4.2]) hs3 hlen (Nat.le_trans hbase hb.size) (fun v' w' h1 h2 h3 => h v' w' h1 ?_ ?_)
  · exact (grown_of_below hb v.ownBlock).trans h2
  · rcases h3 with h3 | h3
    · exact .inl h3
    · exact .inr ⟨_, h3, by omega⟩
end
end Go.Proofs.Ytiejndkchcljdaa
