/- A device behind several writes: what each leaves, and which blocks may have changed. -/
import Derived.Test.YtiejndkchcljdaaLgScan
import Derived.Test.YtiejndkchcljdaaDvInv
namespace Go.Proofs.Ytiejndkchcljdaa
open Go.RowKit

/-- sectors, written one behind the other, till an error comes -/
def writesS (s : DS) (i : Int) : List (List UInt8) → DS × Nat
  | [] => (s, 0)
  | b :: l => if writeE s i 64 = 0 then writesS (writeS s i b) (i + 1) l else (writeS s i b, writeE s i 64)
/-- Since w only blocks of F, and new ones, have changed; block g is a device. -/
def DevAt (w : World) (base : Nat) (F : List Nat) (g : Nat) (s : DS) (w' : World) : Prop :=
  ∃ F', DevB w' base F' g s ∧ Chg F w w' ∧ ∀ b ∈ F', b ∈ F ∨ w.heap.size ≤ b
section
variable {w w1 w2 : World} {base g : Nat} {F : List Nat} {s s' : DS} {v : Value} {e : Ending}
theorem DevAt.start (h : DevB w base F g s) (hb : Below w.heap.size w w1) : DevAt w base F g s w1 := ⟨F, h.keep hb, Chg.of_below hb, fun _ h => .inl h⟩
theorem DevAt.size (h : DevAt w base F g s w1) : w.heap.size ≤ w1.heap.size := by obtain ⟨_, _, h, _⟩ := h; exact h.size
theorem DevAt.ok (h : DevAt w base F g s w1) : s.OK := by obtain ⟨_, h, _⟩ := h; exact h.ok
theorem DevAt.keep (h : DevAt w base F g s w1) (hb : Below w1.heap.size w1 w2) : DevAt w base F g s w2 := by
  obtain ⟨F', h1, h2, h3⟩ := h
  exact ⟨F', h1.keep hb, h2.trans (Chg.of_below (L := []) hb) (fun b hb => by cases hb), h3⟩
theorem DevAt.drew (h : DevAt w base F g s w1) : DevAt w base F g s w1.drew := h.keep ((Below.refl _ _).drew)
theorem DevAt.post (h : DevAt w base F g s w1) : DevPost w base F g s v (.returned v) w1 := by
  obtain ⟨F', h1, h2, h3⟩ := h
  exact ⟨rfl, F', h1, h2, h3⟩
theorem DevAt.of_post (h : DevPost w base F g s v e w1) : e = .returned v ∧ DevAt w base F g s w1 := by
  obtain ⟨h0, F', h1, h2, h3⟩ := h
  exact ⟨h0, F', h1, h2, h3⟩
/-- blocks that came since are no device's -/
theorem DevAt.from_ (hw : Below w.heap.size w w1) (h : DevAt w1 base F g s w2) : DevAt w base F g s w2 := by
  obtain ⟨F', h1, h2, h3⟩ := h
  exact ⟨F', h1, (Chg.of_below hw).trans h2 (fun b hb => .inl hb), fun b hb => (h3 b hb).imp id (fun hh => Nat.le_trans hw.size hh)⟩
/-- a device whose blocks are cells -/
theorem DevB.tight (h : DevB w base F g s) : ∃ F2, DevB w base F2 g s ∧ (∀ b ∈ F2, b ∈ F) ∧ ∀ b ∈ F2, ∃ cs t z, w.heap[b]? = some (.cells cs t z) := by
  obtain ⟨a, m, A, c, q, h1, h2, h3, h4⟩ := h
  refine ⟨fpL g a m A q, ⟨a, m, A, c, q, h1, h2, fun b hb => mem_fpL.2 hb, fun b hb => h4 b (h3 b (mem_fpL.1 hb))⟩, fun b hb => h3 b (mem_fpL.1 hb), fun b hb => ?_⟩
  rcases mem_fpL.1 hb with rfl | rfl | rfl | hb | hb
  · exact ⟨_, _, _, h1.hd⟩
  · exact ⟨_, _, _, h1.now⟩
  · exact ⟨_, _, _, h1.img⟩
  · rcases h1.row.2 with ⟨e, _⟩ | ⟨g', cap, cur, e, _, hg, _⟩
    · cases A with
      | none => cases hb
      | some a => cases e
    · cases A with
      | none => cases hb
      | some a =>
        injection e with e1
        injection e1 with e1
        subst e1
        cases hb
        exact ⟨_, _, _, hg⟩
  · have hz := h1.fz
    subst hb
    unfold FuseB at hz
    cases hf : s.fuse with
    | none => rw [hf] at hz; exact hz.elim
    | some k => rw [hf] at hz; exact ⟨_, _, _, hz⟩
end
theorem write_n (s : DS) (i : Int) (bs : List UInt8) : (writeS s i bs).n = s.n := by
  unfold writeS
  split
  · rfl
  · split
    · rfl
    · split
      · rfl
      · split <;> rfl
theorem write_fuse {s : DS} (i : Int) (bs : List UInt8) (h : fuseOK s) (hl : s.loose.length < 1000000) : fuseOK (writeS s i bs) ∧ (writeS s i bs).loose.length ≤ s.loose.length + 1 := by
  have hb : fuseOK (burn s) ∧ (burn s).loose = s.loose := by
    refine ⟨⟨fun k hk => ?_, h.2⟩, rfl⟩
    unfold burn at hk
    simp only [Option.map_eq_some_iff] at hk
    obtain ⟨j, hj, rfl⟩ := hk
    have := h.1 j hj
    omega
  unfold writeS
  split
  · exact ⟨h, by omega⟩
  · split
    · exact ⟨h, by omega⟩
    · split
      · exact ⟨h, by omega⟩
      · split
        · exact ⟨hb.1, by rw [hb.2]; omega⟩
        · refine ⟨⟨fun k hk => hb.1.1 k hk, ?_⟩, ?_⟩
          · show ((burn s).loose ++ [_]).length ≤ _
            rw [hb.2, List.length_append]; simp; omega
          · show ((burn s).loose ++ [_]).length ≤ _
            rw [hb.2, List.length_append]; simp
section
variable {w w1 w2 : World} {base g : Nat} {F : List Nat} {s : DS}
/-- one write of a row of bytes that is none of the device's -/
theorem DevAt.write (h : DevAt w base F g s w1) (hbase : base ≤ w.heap.size) (hf : fuseOK s) (i : Int) (B n c2 : Nat) (A2 : Option Addr) (bs : List UInt8) (hs : SB w1 B A2 n bs) (hne : ∀ F', DevB w1 base F' g s → (∀ b ∈ F', b ∈ F ∨ w.heap.size ≤ b) → (∀ b ∈ F', ∃ cs t z, w1.heap[b]? = some (.cells cs t z)) → ∀ b off, A2 = some ⟨b, off, none⟩ → b ∉ F') :
    Calls Try.prog 26 #[.pointer (some ⟨g, 0, none⟩), .int .i64 i, .slice A2 n c2] w1 fun e w2 => e = .returned (.int .i64 (writeE s i n : Int)) ∧ DevAt w base F g (writeS s i bs) w2 ∧ ∃ F2, (∀ b ∈ F2, b ∈ F ∨ w.heap.size ≤ b) ∧ DevB w1 base F2 g s ∧ (∀ b ∈ F2, ∃ cs t z, w1.heap[b]? = some (.cells cs t z)) ∧ Chg F2 w1 w2 := by
  have hsz := h.size
  obtain ⟨F', h1, h2, h3⟩ := h
  obtain ⟨F2, k1, k2, k3⟩ := h1.tight
  have k4 : ∀ b ∈ F2, b ∈ F ∨ w.heap.size ≤ b := fun b hb => h3 b (k2 b hb)
  refine (dWrite_calls base g F2 s w1 i B n c2 A2 bs k1 (by omega) hf.1 hf.2 hs (hne F2 k1 k4 k3)).mono fun e w2 hp => ?_
  obtain ⟨he, F3, q1, q2, q3⟩ := hp
  exact ⟨he, ⟨F3, q1, h2.trans q2 k4, fun b hb => (q3 b hb).elim (fun hb => k4 b hb) (fun hb => .inr (by omega))⟩, F2, k4, k1, k3, q2⟩
end
end Go.Proofs.Ytiejndkchcljdaa
