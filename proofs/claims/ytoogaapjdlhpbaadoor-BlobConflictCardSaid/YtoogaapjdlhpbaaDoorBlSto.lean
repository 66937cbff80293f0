/- A store of blobs in memory; what it asks of itself. -/
import Derived.Test.YtoogaapjdlhpbaaDoorBlLow
namespace Go.Proofs.YtoogaapjdlhpbaaDoor
open Go.RowKit

theorem does_load {P : Program} {o : Oper} {a : Act} {w : World} {T : Value → World → Prop} (t : TypeId) (x : Operand) (ho : o.op = .load t x) (g : Nat) (hx : a.eval x = .pointer (some ⟨g, 0, none⟩)) (t' : TypeId) {cs : Array Value} (hb : Blk w g t' cs) (d : TypeDesc)
    (hu : P.underlying t = some d) (hd : (match d with | .struct _ | .array _ _ => true | _ => false) = true) (hi : (P.info? t).map (·.size) = some cs.size) (h : T (.agg cs) w) : OpDoes P o a w T :=
  fun _ _ hK => wp_load_row t x ho g hx t' cs (0, 0) d hb hu hd hi (hK _ _ h)
theorem cell_keep {w w' : World} {b o : Nat} {v : Value} (h : w.cell? ⟨b, o, none⟩ = some v) (hb : Below w.heap.size w w') : w'.cell? ⟨b, o, none⟩ = some v := (hb.cell (p := ⟨b, o, none⟩) (lt_of_cell h)).trans h
/-- a store of blobs, as the document tells it -/
structure BS where
  width : Nat
  room : Nat
  l : List (List UInt8 × List UInt8)
def lookB (l : List (List UInt8 × List UInt8)) (id : List UInt8) : Option (List UInt8) := (l.find? (fun p => p.1 == id)).map (·.2)
def usedB (l : List (List UInt8 × List UInt8)) : Nat := (l.map (fun p => p.2.length)).sum
structure OKB (b : BS) : Prop where
  w1 : 1 ≤ b.width
  w2 : b.width ≤ 32
  r : b.room ≤ 67108864
  ids : ∀ p ∈ b.l, p.1.length = 32
  lens : ∀ p ∈ b.l, p.2.length ≤ 4096
  used : usedB b.l ≤ b.room
  nodup : (b.l.map (fun p => p.1)).Nodup
/-- one blob in memory, or none -/
def ElB (w : World) (F : List Nat) (s m : Nat) : Option Nat → Option (List UInt8) → Prop
  | none, none => True
  | some g, some bs => ∃ A c, Blk w g 79 #[.slice A bs.length c] ∧ SB w w.heap.size A bs.length bs ∧ bs.length ≤ c ∧ bs.length ≤ 4096 ∧ (g ∈ F ∧ g ≠ s ∧ g ≠ m) ∧ ∀ b off sp, A = some ⟨b, off, sp⟩ → b ∈ F ∧ b ≠ s ∧ b ≠ m
  | _, _ => False
def bcell (s m : Nat) (b : BS) : Array Value := #[.pointer (some ⟨s, 0, none⟩), .int .i64 (b.width : Int), .int .i64 (b.room : Int), .int .i64 (usedB b.l : Int), .map (some m)]
structure StB (w : World) (F : List Nat) (s m n : Nat) (b : BS) (f : List UInt8 → Option Nat) : Prop where
  ok : OKB b
  hd : Blk w s 54 (bcell s m b)
  mp : MapP w m n f
  sin : s ∈ F
  min_ : m ∈ F
  ne : s ≠ m
  each : ∀ id : List UInt8, id.length = 32 → ElB w F s m (f id) (lookB b.l id)
  lt : ∀ x ∈ F, x < w.heap.size
section
variable {w w' : World} {F : List Nat} {s m n : Nat} {b : BS} {f : List UInt8 → Option Nat}
theorem ElB.chg {L F' : List Nat} {x : Option Nat} {y : Option (List UInt8)} (h : ElB w F s m x y) (hc : Chg L w w') (hL : ∀ b ∈ F, b ≠ s → b ≠ m → b ∉ L) (hF : ∀ b ∈ F, b ∈ F') : ElB w' F' s m x y := by
  cases x with
  | none => cases y with
    | none => trivial
    | some bs => exact h.elim
  | some g => cases y with
    | none => exact h.elim
    | some bs =>
      obtain ⟨A, c, h1, h2, h3, h4, ⟨h5, h6, h7⟩, h8⟩ := h
      refine ⟨A, c, h1.chg hc (hL g h5 h6 h7), (h2.chg hc (fun b off e _ => ?_)).more hc.size, h3, h4, ⟨hF g h5, h6, h7⟩, fun b off sp e => ?_⟩
      · obtain ⟨h9, h10, h11⟩ := h8 b off none e
        exact hL b h9 h10 h11
      · obtain ⟨h9, h10, h11⟩ := h8 b off sp e
        exact ⟨hF b h9, h10, h11⟩
theorem StB.chg {L : List Nat} (h : StB w F s m n b f) (hc : Chg L w w') (hL : ∀ b ∈ F, b ∉ L) : StB w' F s m n b f where
  ok := h.ok
  hd := h.hd.chg hc (hL s h.sin)
  mp := h.mp.chg hc (hL m h.min_)
  sin := h.sin
  min_ := h.min_
  ne := h.ne
  each := fun id hl => (h.each id hl).chg hc (fun b hb _ _ => hL b hb) (fun _ hb => hb)
  lt := fun x hx => Nat.lt_of_lt_of_le (h.lt x hx) hc.size
theorem StB.keep (h : StB w F s m n b f) (hb : Below w.heap.size w w') : StB w' F s m n b f := h.chg (Chg.of_below (L := []) hb) (fun _ _ hn => by cases hn)
theorem StB.drew (h : StB w F s m n b f) : StB w.drew F s m n b f := h.keep ((Below.refl _ _).drew)
end
set_option maxRecDepth 20000 in
theorem bvalid_calls (s : Nat) (wd rm us mv : Value) (w : World) (h : Blk w s 54 #[.pointer (some ⟨s, 0, none⟩), wd, rm, us, mv]) : Calls Tryd.prog 45 #[.pointer (some ⟨s, 0, none⟩)] w fun e w' => e = .returned (.bool true) ∧ w = w' := by
  have hsz : (Tryd.prog.info? 54).map (·.size) = some 5 := by kernel_rfl
  obtain ⟨j, hj, _⟩ := Option.map_eq_some_iff.1 hsz
  have he := fun W => run_eql_ptr_same (P := Tryd.prog) W (tp := 23) (te := 54) ⟨s, 0, none⟩ (by kernel_rfl) hj
  have c0 : w.cell? ⟨s, 0, none⟩ = some (.pointer (some ⟨s, 0, none⟩)) := h.cell 0 rfl
  clear h hj hsz
  go_enter Tryd.func45, Tryd.ntmps45
  go_wp2_with fail
  go_ret
  exact ⟨rfl, rfl⟩
/-- a store that nobody made: nil, or one that does not know itself -/
def NoObj (w : World) (h : Value) : Prop := h = .pointer none ∨ ∃ g, h = .pointer (some ⟨g, 0, none⟩) ∧ w.cell? ⟨g, 0, none⟩ = some (.pointer none)
theorem NoObj.keep {w w' : World} {h : Value} (hn : NoObj w h) (hb : Below w.heap.size w w') : NoObj w' h := by
  rcases hn with rfl | ⟨g, rfl, hc⟩
  · exact .inl rfl
  · exact .inr ⟨g, rfl, (hb.cell (p := ⟨g, 0, none⟩) (lt_of_cell hc)).trans hc⟩
theorem eql_none_ptr {P : Program} (w : World) (t e : TypeId) (b : Option Addr) (h : P.underlying t = some (.pointer e)) :
    (binOp .eql t (.pointer none) (.pointer b)).run P w = .ok (.bool b.isNone) w := by
  have hq : ∀ d : Nat, (Op.equalIn (d + 1) t (.pointer none) (.pointer b)).run P w = .ok b.isNone w := fun d => by
    simp [Op.equalIn, run_underlying h]
  simp only [binOp]
  simp [Op.equal, Op.maxDepth, hq 9999]
set_option maxRecDepth 20000 in
theorem bvalid_none (h : Value) (w : World) (hn : NoObj w h) : Calls Tryd.prog 45 #[h] w fun e w' => e = .returned (.bool false) ∧ w = w' := by
  rcases hn with rfl | ⟨g, rfl, hc⟩
  · go_enter Tryd.func45, Tryd.ntmps45
    go_wp2_with fail
    go_ret
    exact ⟨rfl, rfl⟩
  · have he := fun W => eql_none_ptr (P := Tryd.prog) W 23 54 (some ⟨g, 0, none⟩) Tryd.underlying23
    go_enter Tryd.func45, Tryd.ntmps45
    go_wp2_with fail
    go_ret
    exact ⟨rfl, rfl⟩
end Go.Proofs.YtoogaapjdlhpbaaDoor
