/- Contract: the parts of a record, as an iterator. -/
import Derived.Test.YtgldhmmfofnmiaaLgIter
import Derived.Test.YtgldhmmfofnmiaaLgRound
namespace Go.Proofs.Ytgldhmmfofnmiaa
open Go.RowKit Go.Shelf
attribute [local go_sem] Oper.semAt_some

theorem run_mkf (fn : Fn) (first cap : Array Value) (w : World) : (Instr.makeFunc fn first cap).run Try.prog w = .ok (.func fn first cap) w := rfl
attribute [local go_sem] run_mkf
theorem values_calls (A : Option Addr) (n c : Nat) (w : World) : Calls Try.prog 91 #[.slice A n c] w fun e w' => e = .returned (.func (.func 95) #[] #[.pointer (some ⟨w.heap.size, 0, none⟩)]) ∧ w' = w.alloc (.cells #[.slice A n c] 31) := by
  go_enter Try.func91, Try.ntmps91
  go_wp2_with fail
  go_ret
  exact ⟨rfl, rfl⟩
theorem chunk_calls (A : Option Addr) (n c : Nat) (w : World) : Calls Try.prog 92 #[.slice A n c, .int .i64 49] w fun e w' => e = .returned (.func (.func 96) #[] #[.pointer (some ⟨w.heap.size, 0, none⟩), .pointer (some ⟨w.heap.size + 1, 0, none⟩)]) ∧ w' = (w.alloc (.cells #[.slice A n c] 38)).alloc (.cells #[.int .i64 49] 3) := by
  go_enter Try.func92, Try.ntmps92
  go_wp2_with fail
  go_ret
  exact ⟨by simp, rfl⟩
/-- what hands out the parts -/
def PartsOf (w w' : World) (A : Option Addr) (n : Nat) (gf : Nat) (lb : Array Value) : Prop :=
  (∀ args w, (callFunc gf args).run Try.prog w = .ok (.enter gf args) w) ∧ ∀ n', SeqStopsK Fence.wide n' Try.prog gf lb (fun i : Nat => #[partV A n i]) (KpR w.heap.size w'.heap.size) (fun ys => ys = List.range (needN n)) (fun pre => ∃ k, k ≤ needN n ∧ pre = List.range k) (needN n) w'
theorem parts_calls (A : Option Addr) (n c B : Nat) (rec : List UInt8) (w : World) (hs : SB w B A n rec) (hn : n ≤ 1048576) (hc : n ≤ c) :
    Calls Try.prog 82 #[.slice A n c] w fun e w' => ∃ gf lb, e = .returned (.func (.func gf) #[] lb) ∧ Below w.heap.size w w' ∧ PartsOf w w' A n gf lb := by
  by_cases h0 : n = 0
  · subst h0
    have hb1 := below_new w (.cells #[Value.slice none 0 0] 38)
    have hs1 := size_new w (.cells #[Value.slice none 0 0] 38)
    have k1 := Blk.new w 38 #[Value.slice none 0 0]
    have HB1 := hid hb1; have HS1 := hid hs1; have K1 := hid k1
    clear hb1 hs1 k1 hs
    go_enter Try.func82, Try.ntmps82
    go_wp2_with fail
    refine (values_calls _ 1 1 _).mono ?_
    rintro _ w2 ⟨rfl, rfl⟩
    have hb2 := below_new (w.alloc (.cells #[Value.slice none 0 0] 38)) (.cells #[Value.slice (some ⟨w.heap.size, 0, none⟩) 1 1] 31)
    have k2 := Blk.new (w.alloc (.cells #[Value.slice none 0 0] 38)) 31 #[Value.slice (some ⟨w.heap.size, 0, none⟩) 1 1]
    have hk1 := K1.out.keep hb2
    have hB : Below w.heap.size w ((w.alloc (.cells #[Value.slice none 0 0] 38)).alloc (.cells #[Value.slice (some ⟨w.heap.size, 0, none⟩) 1 1] 31)) := HB1.out.trans (hb2.mono HB1.out.size)
    have hlt := k2.lt
    have HB := hid hB; have K2 := hid k2; have K1' := hid hk1; have HLT := hid hlt
    clear hb2 k2 hk1 hB hlt
    generalize (w.alloc (.cells #[Value.slice none 0 0] 38)).alloc (.cells #[Value.slice (some ⟨w.heap.size, 0, none⟩) 1 1] 31) = w2 at HB K2 K1' HLT ⊢
    generalize (w.alloc (.cells #[Value.slice none 0 0] 38)).heap.size = B2 at K2 HLT HS1 ⊢
    go_wp2_with fail
    go_ret
    refine ⟨_, _, rfl, HB.out, enters_of Try.func95 (by kernel_rfl) rfl, fun n' l J Jx W hW _ _ hY h0 => ?_⟩
    refine (values1_in n' l B2 w.heap.size w.heap.size w2.heap.size A J Jx (fun pre x W1 hj hl => hY pre x W1 hj hl) W ((hW.cell (p := ⟨B2, 0, none⟩) HLT.out).trans (K2.out.cell 0 rfl)) ((hW.cell (p := ⟨w.heap.size, 0, none⟩) K1'.out.lt).trans (K1'.out.cell 0 rfl)) h0).mono ?_
    rintro e W' ⟨he, h⟩
    exact ⟨he, h⟩
  · have h0' : ¬ (n : Int) = 0 := by omega
    have hne : ¬ n = 0 := h0
    clear h0
    obtain ⟨b, off, rfl, _, _⟩ := hs.2 (by omega)
    clear hs
    go_enter Try.func82, Try.ntmps82
    go_wp2_with fail
    refine (chunk_calls _ n c _).mono ?_
    rintro _ w2 ⟨rfl, hw2⟩
    obtain ⟨W2, hW2, k1, k2, hB⟩ := (show ∃ W, W = (w.alloc (.cells #[Value.slice (some ⟨b, off, none⟩) n c] 38)).alloc (.cells #[Value.int .i64 49] 3) ∧ Blk W w.heap.size 38 #[Value.slice (some ⟨b, off, none⟩) n c] ∧ Blk W (w.heap.size + 1) 3 #[Value.int .i64 49] ∧ Below w.heap.size w W from two_new w _ _ _ _)
    rw [← hW2] at hw2
    subst hw2
    have HB := hid hB; have K1 := hid k1; have K2 := hid k2
    clear hB k1 k2 hW2
    go_wp2_with fail
    go_ret
    refine ⟨_, _, rfl, HB.out, enters_of Try.func96 (by kernel_rfl) rfl, fun n' l J Jx W hW hJ _ hY h0 => ?_⟩
    have hl1 := K1.out.lt
    have hl2 := K2.out.lt
    refine (chunk1_in n' l w.heap.size (w.heap.size + 1) w.heap.size w2.heap.size b off n c (by omega) hn hc (Nat.le_refl _) hl1 (Nat.le_succ _) hl2 J Jx W (fun pre A h => hJ pre A A.drew none h (grown_drew A) (fun r e => by cases e)) (fun pre x W1 hj hl => hY pre x W1 hj hl) ((hW.cell (p := ⟨w.heap.size, 0, none⟩) hl1).trans (K1.out.cell 0 rfl)) ((hW.cell (p := ⟨w.heap.size + 1, 0, none⟩) hl2).trans (K2.out.cell 0 rfl)) h0).mono ?_
    rintro e W' ⟨he, h⟩
    exact ⟨he, h⟩
end Go.Proofs.Ytgldhmmfofnmiaa
/- What holds between two rounds of a log's Write. -/
namespace Go.Proofs.Ytgldhmmfofnmiaa
open Go.RowKit Go.Shelf

def ncRow (W : World) (row : Option Nat) : Prop := ∀ r, row = some r → ∃ o : Obj, W.heap[r]? = some o ∧ o.isCells = false
section
variable {W W' : World} {row : Option Nat} {B : Nat}
theorem nc_not (h : ncRow W row) {b : Nat} {cs : Array Value} {t : TypeId} {z : Nat × Nat} (hb : W.heap[b]? = some (.cells cs t z)) : row ≠ some b := fun e => by
  obtain ⟨o, ho, hn⟩ := h b e
  rw [hb] at ho
  cases ho
  cases hn
theorem Blk.nc {g : Nat} {t : TypeId} {cs : Array Value} (h : Blk W g t cs) (hg : W.grownBy W' row) (hr : ncRow W row) : Blk W' g t cs := h.grown hg (nc_not hr h)
theorem SB.nc {n : Nat} {A : Option Addr} {bs : List UInt8} (h : SB W B A n bs) (hg : W.grownBy W' row) (hr : ncRow W row) : SB W' B A n bs :=
  ⟨h.1, fun hn => by
    obtain ⟨b, off, e, hlt, hc⟩ := h.2 hn
    exact ⟨b, off, e, hlt, fun j x hj => cell_kept (hc j x hj) hg hr⟩⟩
theorem keeps_below (h : Below W.heap.size W W') (B : Nat) : KeepsFrom B W W' := ⟨h.size, fun k _ _ hk _ => (h.block k (Array.getElem?_eq_some_iff.1 hk).1).trans hk⟩
theorem keeps_chg {L : List Nat} (h : Chg L W W') (hL : ∀ b ∈ L, ∃ cs t z, W.heap[b]? = some (.cells cs t z)) (B : Nat) : KeepsFrom B W W' := ⟨h.size, fun k o _ hk ho => (h.block k (Array.getElem?_eq_some_iff.1 hk).1 (fun hm => by
  obtain ⟨cs, t, z, hz⟩ := hL k hm
  rw [hz] at hk
  cases hk
  cases ho)).trans hk⟩
theorem kp_below {lo hi : Nat} (h : Below W.heap.size W W') (hh : hi ≤ W.heap.size) : KpR lo hi W W' := ⟨h.size, fun b _ h2 => h.block b (by omega)⟩
theorem kp_chg {lo hi : Nat} {L : List Nat} (h : Chg L W W') (hL : ∀ b ∈ L, b < lo ∨ hi ≤ b) (hh : hi ≤ W.heap.size) : KpR lo hi W W' := ⟨h.size, fun b h1 h2 => h.block b (by omega) (fun hm => by have := hL b hm; omega)⟩
end
/-- Since w only blocks of F, and new ones, have changed; block g is a device, none of whose blocks lies between w's and hi. -/
def DevH (w : World) (hi : Nat) (base : Nat) (F : List Nat) (g : Nat) (s : DS) (W : World) : Prop := ∃ F', DevB W base F' g s ∧ Chg F w W ∧ ∀ b ∈ F', b ∈ F ∨ hi ≤ b
section
variable {w W W' : World} {hi base g : Nat} {F L : List Nat} {s : DS}
theorem DevH.start (h : DevB w base F g s) (hb : Below w.heap.size w W) (hi : Nat) : DevH w hi base F g s W := ⟨F, h.keep hb, Chg.of_below hb, fun _ h => .inl h⟩
theorem DevH.at_ (h : DevH w hi base F g s W) (hh : w.heap.size ≤ hi) : DevAt w base F g s W := by
  obtain ⟨F', h1, h2, h3⟩ := h
  exact ⟨F', h1, h2, fun b hb => (h3 b hb).imp id (fun h => Nat.le_trans hh h)⟩
theorem DevH.keep (h : DevH w hi base F g s W) (hb : Below W.heap.size W W') : DevH w hi base F g s W' := by
  obtain ⟨F', h1, h2, h3⟩ := h
  exact ⟨F', h1.keep hb, h2.trans (Chg.of_below (L := []) hb) (fun b hb => by cases hb), h3⟩
theorem DevH.set_ (h : DevH w hi base F g s W) (hlt : ∀ b ∈ F, b < w.heap.size) (hc : Chg L W W') (hL : ∀ b ∈ L, w.heap.size ≤ b ∧ b < hi) : DevH w hi base F g s W' := by
  obtain ⟨F', h1, h2, h3⟩ := h
  refine ⟨F', h1.chg hc (fun b hb hm => ?_), h2.trans hc (fun b hb => .inr (hL b hb).1), h3⟩
  have := hL b hm
  rcases h3 b hb with hh | hh
  · have := hlt b hh; omega
  · omega
theorem DevH.nc {row : Option Nat} (h : DevH w hi base F g s W) (hg : W.grownBy W' row) (hr : ncRow W row) (hB : ∀ r, row = some r → w.heap.size ≤ r) : DevH w hi base F g s W' := by
  obtain ⟨F', h1, h2, h3⟩ := h
  obtain ⟨F2, k1, k2, k3⟩ := h1.tight
  have hc : Chg row.toList W W' := Chg.of_grown hg (fun b e => by rw [e]; simp)
  refine ⟨F2, k1.chg hc (fun b hb hm => ?_), h2.trans hc (fun b hb => ?_), fun b hb => h3 b (k2 b hb)⟩
  · obtain ⟨cs, t, z, hz⟩ := k3 b hb
    exact nc_not hr hz (by simpa using hm)
  · exact .inr (hB b (by simpa using hb))
/-- one write of a row of bytes that came since -/
theorem DevH.write (h : DevH w hi base F g s W) (hh : w.heap.size ≤ hi) (hbase : base ≤ w.heap.size) (hf : fuseOK s) (hb : Below W.heap.size W W') (hhW : hi ≤ W.heap.size) (i : Int) (B n c2 b off : Nat) (bs : List UInt8) (hs : SB W' B (some ⟨b, off, none⟩) n bs) (hne : W.heap.size ≤ b) :
    Calls Try.prog 42 #[.pointer (some ⟨g, 0, none⟩), .int .i64 i, .slice (some ⟨b, off, none⟩) n c2] W' fun e w2 => e = .returned (.int .i64 (writeE s i n : Int)) ∧ DevH w hi base F g (writeS s i bs) w2 ∧ ∃ F2, (∀ b ∈ F2, b ∈ F ∨ hi ≤ b) ∧ (∀ b ∈ F2, ∃ cs t z, W'.heap[b]? = some (.cells cs t z)) ∧ Chg F2 W' w2 := by
  obtain ⟨F', h1, h2, h3⟩ := h
  obtain ⟨F2, k1, k2, k3⟩ := h1.tight
  have k4 : ∀ b ∈ F2, b ∈ F ∨ hi ≤ b := fun b hb => h3 b (k2 b hb)
  have k1' := k1.keep hb
  have hsz := h2.size
  refine (dWrite_calls base g F2 s W' i B n c2 (some ⟨b, off, none⟩) bs k1' (by have := hb.size; omega) hf.1 hf.2 hs (fun b' off' e hm => by
    cases e
    have := (k1.lt b hm).2
    omega)).mono fun e w2 hp => ?_
  obtain ⟨he, F3, q1, q2, q3⟩ := hp
  have hc : Chg F w w2 := (h2.trans (Chg.of_below (L := []) hb) (fun b hb => by cases hb)).trans q2 (fun b hb => (k4 b hb).imp id (fun h => Nat.le_trans hh h))
  refine ⟨he, ⟨F3, q1, hc, fun b hb' => (q3 b hb').elim (fun h => k4 b h) (fun h => .inr (by have := hb.size; omega))⟩, F2, k4, fun b hb' => ?_, q2⟩
  obtain ⟨cs, t, z, hz⟩ := k3 b hb'
  exact ⟨cs, t, z, (hb.block b (Array.getElem?_eq_some_iff.1 hz).1).trans hz⟩
end
theorem SB.chg_pos {w w' : World} {B n : Nat} {A : Option Addr} {bs : List UInt8} {L : List Nat} (h : SB w B A n bs) (hc : Chg L w w') (hg : 0 < n → ∀ b off, A = some ⟨b, off, none⟩ → b < B → b ∉ L) : SB w' B A n bs :=
  ⟨h.1, fun hn => by
    obtain ⟨b, off, e, hlt, hx⟩ := h.2 hn
    exact ⟨b, off, e, hlt, fun j x hj => cell_chg (hx j x hj) hc (hg hn b off e hlt)⟩⟩
/-- a part of a record, to be read -/
theorem sb_part {W : World} {B n : Nat} {A : Option Addr} {rec : List UInt8} (h : SB W B A n rec) (x : Nat) : ∃ A' m, partV A n x = .slice A' m m ∧ m ≤ 49 ∧ SB W B A' m (partN rec x) := by
  have hl := h.1
  by_cases h0 : n = 0
  · subst h0
    have : rec = [] := List.eq_nil_of_length_eq_zero hl
    subst this
    exact ⟨none, 0, if_pos rfl, by omega, by simpa [partN] using SB.nil W B none⟩
  · refine ⟨A.map (·.add (x * 49)), min 49 (n - x * 49), if_neg h0, Nat.min_le_left _ _, by rw [partN_length, hl], fun hm => ?_⟩
    obtain ⟨b, off, rfl, hlt, hc⟩ := h.2 (by omega)
    refine ⟨b, off + x * 49, by simp [Addr.add_lit], hlt, fun j y hj => ?_⟩
    unfold partN at hj
    rw [List.getElem?_take] at hj
    split at hj
    · rw [List.getElem?_drop] at hj
      rw [Nat.add_assoc]
      exact hc _ y hj
    · cases hj
/-- the sectors that are written out of parts, whichever -/
def secsP (gen at_ N : Nat) (rec : List UInt8) (pre : List Nat) : List (List UInt8) := pre.mapIdx fun j x => secL gen (at_ + j) (kindN j N) (partN rec x)
theorem secsP_snoc (gen at_ N : Nat) (rec : List UInt8) (pre : List Nat) (x : Nat) : secsP gen at_ N rec (pre ++ [x]) = secsP gen at_ N rec pre ++ [secL gen (at_ + pre.length) (kindN pre.length N) (partN rec x)] := by
  simp [secsP, List.mapIdx_append]
theorem secsP_length (gen at_ N : Nat) (rec : List UInt8) (pre : List Nat) : (secsP gen at_ N rec pre).length = pre.length := by simp [secsP]
/-- the sectors of a record -/
def recSecs (gen at_ : Nat) (rec : List UInt8) : List (List UInt8) := (List.range (needN rec.length)).map (recSec gen at_ rec)
theorem secsP_range (gen at_ : Nat) (rec : List UInt8) (k : Nat) : secsP gen at_ (needN rec.length) rec (List.range k) = (List.range k).map (recSec gen at_ rec) := by
  unfold secsP recSec
  apply List.ext_getElem
  · simp
  · intro i h1 h2
    simp
theorem writes_ok {s : DS} {i : Int} (b : List UInt8) (l : List (List UInt8)) (h : writeE s i 64 = 0) : writesS s i (b :: l) = writesS (writeS s i b) (i + 1) l := if_pos h
theorem writes_bad {s : DS} {i : Int} (b : List UInt8) (l : List (List UInt8)) (h : ¬ writeE s i 64 = 0) : writesS s i (b :: l) = (writeS s i b, writeE s i 64) := if_neg h
theorem writes_one (s : DS) (i : Int) (b : List UInt8) : writesS s i [b] = (writeS s i b, writeE s i 64) := by
  by_cases h : writeE s i 64 = 0
  · rw [writes_ok b [] h, h]; rfl
  · exact writes_bad b [] h
theorem writes_more {s : DS} {i : Int} {l : List (List UInt8)} (m : List (List UInt8)) (h : (writesS s i l).2 = 0) : writesS s i (l ++ m) = writesS (writesS s i l).1 (i + (l.length : Int)) m := by
  induction l generalizing s i with
  | nil => simp [writesS]
  | cons b l ih =>
    by_cases he : writeE s i 64 = 0
    · rw [writes_ok b l he] at h ⊢
      rw [List.cons_append, writes_ok b _ he, ih h]
      have : i + 1 + (l.length : Int) = i + ((b :: l).length : Int) := by simp; omega
      rw [this]
    · rw [writes_bad b l he] at h
      exact absurd h he
theorem writes_stop {s : DS} {i : Int} {l : List (List UInt8)} (m : List (List UInt8)) (h : ¬ (writesS s i l).2 = 0) : writesS s i (l ++ m) = writesS s i l := by
  induction l generalizing s i with
  | nil => exact absurd rfl h
  | cons b l ih =>
    by_cases he : writeE s i 64 = 0
    · rw [writes_ok b l he] at h ⊢
      rw [List.cons_append, writes_ok b _ he, ih h]
    · rw [List.cons_append, writes_bad b _ he, writes_bad b l he]
end Go.Proofs.Ytgldhmmfofnmiaa
