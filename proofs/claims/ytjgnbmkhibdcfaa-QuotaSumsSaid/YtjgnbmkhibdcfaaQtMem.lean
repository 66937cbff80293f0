/- Links in memory; the contracts that draw no order. -/
import Derived.Test.YtjgnbmkhibdcfaaQtKeys
import Derived.Test.YtjgnbmkhibdcfaaNmRepoOf
import Derived.Test.YtjgnbmkhibdcfaaNewSet
namespace Go.Proofs.Ytjgnbmkhibdcfaa
open Go.RowKit

/-- links, as the document tells them -/
structure QS where
  limit : Int
  l : List (LKey × Int)
def szQ (l : List (LKey × Int)) (k : LKey) : Option Int := (l.find? (fun p => decide (p.1 = k))).map (·.2)
def ofQ (l : List (LKey × Int)) (r : List UInt8) : List (LKey × Int) := l.filter (fun p => decide (p.1.1 = r))
def cntQ (l : List (LKey × Int)) (r : List UInt8) : Int := ((ofQ l r).length : Int)
def sumQ (l : List (LKey × Int)) (r : List UInt8) : Int := ((ofQ l r).map (·.2)).sum
structure OKQ (q : QS) : Prop where
  nodup : (q.l.map (·.1)).Nodup
  keys : ∀ p ∈ q.l, kok p.1
  szs : ∀ p ∈ q.l, 0 ≤ p.2 ∧ p.2 ≤ 4096
  few : q.l.length ≤ 65536
  lim : 0 ≤ q.limit ∧ q.limit ≤ 1099511627776
/-- what is known of one repository -/
def UseB (w : World) (F : List Nat) (s m u : Nat) (l : List (LKey × Int)) (r : List UInt8) : Option Nat → Prop
  | none => ofQ l r = []
  | some b => ofQ l r ≠ [] ∧ Blk w b 91 #[.int .i64 (cntQ l r), .int .i64 (sumQ l r)] ∧ b ∈ F ∧ b ≠ s ∧ b ≠ m ∧ b ≠ u
def qcells (s m u : Nat) (lim : Int) : Array Value := #[.pointer (some ⟨s, 0, none⟩), .int .i64 lim, .map (some m), .map (some u)]
structure QtB (w : World) (F : List Nat) (s m u n : Nat) (q : QS) (g : List UInt8 → Option Nat) : Prop where
  ok : OKQ q
  hd : Blk w s 52 (qcells s m u q.limit)
  mp : MapG lkK szK w m n (szQ q.l)
  us : MapG stK ptK w u n g
  each : ∀ r : List UInt8, r.length ≤ maxLen → UseB w F s m u q.l r (g r)
  inj : ∀ (r r' : List UInt8) (b : Nat), r.length ≤ maxLen → r'.length ≤ maxLen → g r = some b → g r' = some b → r = r'
  ins : s ∈ F ∧ m ∈ F ∧ u ∈ F
  ne : s ≠ m ∧ s ≠ u ∧ m ≠ u
  lt : ∀ x ∈ F, x < w.heap.size
section
variable {w w' : World} {F : List Nat} {s m u n : Nat} {q : QS} {g : List UInt8 → Option Nat}
theorem UseB.chg {L F' : List Nat} {l : List (LKey × Int)} {r : List UInt8} {x : Option Nat} (h : UseB w F s m u l r x) (hc : Chg L w w') (hL : ∀ b ∈ F, b ≠ s → b ≠ m → b ≠ u → x = some b → b ∉ L) (hF : ∀ b ∈ F, b ∈ F') : UseB w' F' s m u l r x := by
  cases x with
  | none => exact h
  | some b =>
    obtain ⟨h1, h2, h3, h4, h5, h6⟩ := h
    exact ⟨h1, h2.chg hc (hL b h3 h4 h5 h6 rfl), hF b h3, h4, h5, h6⟩
theorem QtB.chg {L : List Nat} (h : QtB w F s m u n q g) (hc : Chg L w w') (hL : ∀ b ∈ F, b ∉ L) : QtB w' F s m u n q g where
  ok := h.ok
  hd := h.hd.chg hc (hL s h.ins.1)
  mp := h.mp.chg hc (hL m h.ins.2.1)
  us := h.us.chg hc (hL u h.ins.2.2)
  each := fun r hr => (h.each r hr).chg hc (fun b hb _ _ _ _ => hL b hb) (fun _ hb => hb)
  inj := h.inj
  ins := h.ins
  ne := h.ne
  lt := fun x hx => Nat.lt_of_lt_of_le (h.lt x hx) hc.size
theorem QtB.keep (h : QtB w F s m u n q g) (hb : Below w.heap.size w w') : QtB w' F s m u n q g := h.chg (Chg.of_below (L := []) hb) (fun _ _ hn => by cases hn)
theorem QtB.drew (h : QtB w F s m u n q g) : QtB w.drew F s m u n q g := h.keep ((Below.refl _ _).drew)
theorem QtB.cells (h : QtB w F s m u n q g) : w.cell? ⟨s, 0, none⟩ = some (.pointer (some ⟨s, 0, none⟩)) ∧ w.cell? ⟨s, 1, none⟩ = some (.int .i64 q.limit) ∧ w.cell? ⟨s, 2, none⟩ = some (.map (some m)) ∧ w.cell? ⟨s, 3, none⟩ = some (.map (some u)) := ⟨h.hd.cell 0 rfl, h.hd.cell 1 rfl, h.hd.cell 2 rfl, h.hd.cell 3 rfl⟩
end
set_option maxRecDepth 20000 in
theorem qvalid_calls (s : Nat) (w : World) (c0 : w.cell? ⟨s, 0, none⟩ = some (.pointer (some ⟨s, 0, none⟩))) : Calls Try.prog 44 #[.pointer (some ⟨s, 0, none⟩)] w fun e w' => e = .returned (.bool true) ∧ w = w' := by
  have hsz : (Try.prog.info? 52).map (·.size) = some 4 := by kernel_rfl
  obtain ⟨j, hj, _⟩ := Option.map_eq_some_iff.1 hsz
  have he := fun W => run_eql_ptr_same (P := Try.prog) W (tp := 23) (te := 52) ⟨s, 0, none⟩ (by kernel_rfl) hj
  clear hj hsz
  go_enter Try.func44, Try.ntmps44
  go_wp2_with fail
  go_ret
  exact ⟨rfl, rfl⟩
/-- an object that nobody made: nil, or one that does not know itself -/
def NoObj (w : World) (h : Value) : Prop := h = .pointer none ∨ ∃ g, h = .pointer (some ⟨g, 0, none⟩) ∧ w.cell? ⟨g, 0, none⟩ = some (.pointer none)
theorem cell_keep {w w' : World} {b o : Nat} {v : Value} (h : w.cell? ⟨b, o, none⟩ = some v) (hb : Below w.heap.size w w') : w'.cell? ⟨b, o, none⟩ = some v := (hb.cell (p := ⟨b, o, none⟩) (lt_of_cell h)).trans h
theorem NoObj.keep {w w' : World} {h : Value} (hn : NoObj w h) (hb : Below w.heap.size w w') : NoObj w' h := by
  rcases hn with rfl | ⟨g, rfl, hc⟩
  · exact .inl rfl
  · exact .inr ⟨g, rfl, cell_keep hc hb⟩
theorem eql_none_ptr {P : Program} (w : World) (t e : TypeId) (b : Option Addr) (h : P.underlying t = some (.pointer e)) :
    (binOp .eql t (.pointer none) (.pointer b)).run P w = .ok (.bool b.isNone) w := by
  have hq : ∀ d : Nat, (Op.equalIn (d + 1) t (.pointer none) (.pointer b)).run P w = .ok b.isNone w := fun d => by
    simp [Op.equalIn, run_underlying h]
  simp only [binOp]
  simp [Op.equal, Op.maxDepth, hq 9999]
set_option maxRecDepth 20000 in
theorem qvalid_none (h : Value) (w : World) (hn : NoObj w h) : Calls Try.prog 44 #[h] w fun e w' => e = .returned (.bool false) ∧ w = w' := by
  rcases hn with rfl | ⟨g, rfl, hc⟩
  · go_enter Try.func44, Try.ntmps44
    go_wp2_with fail
    go_ret
    exact ⟨rfl, rfl⟩
  · have he := fun W => eql_none_ptr (P := Try.prog) W 23 52 (some ⟨g, 0, none⟩) Try.underlying23
    go_enter Try.func44, Try.ntmps44
    go_wp2_with fail
    go_ret
    exact ⟨rfl, rfl⟩
theorem qt_rrun_none (b : List UInt8) : b.foldl (fun (st : Option (FuncId × Nat)) c => st.bind fun x => rstep x.1 x.2 (c.toNat : Int)) none = none := by
  induction b with
  | nil => rfl
  | cons c r ih => exact ih
theorem qt_rdone_not {l : List UInt8} {pos : Nat} (h : RDone l) : ¬ RStop l pos := fun hs => by
  obtain ⟨-, h2⟩ := hs
  by_cases hp : pos < l.length
  · rw [if_pos hp] at h2
    have hr : rrun l = none := by
      have e : l = l.take (pos + 1) ++ l.drop (pos + 1) := (List.take_append_drop _ _).symm
      rw [e]
      unfold rrun at h2 ⊢
      rw [List.foldl_append, h2]
      exact qt_rrun_none _
    rw [RDone, hr] at h
    exact absurd h.1 (by decide)
  · rw [if_neg hp] at h2
    rw [RDone, h2] at h
    exact absurd h.2 (by decide)
/-- is that the name of a repository? -/
def IsR (r : List UInt8) (b : Bool) : Prop := ∀ w, Calls Try.prog 45 #[.string (strB r)] w fun e w' => e = .returned (.bool b) ∧ Below w.heap.size w w'
theorem isR_of (r : List UInt8) (ha : ∀ b ∈ r, b.toNat < 128) (hs : r.length ≤ 128) (b : Bool) (hd : RDone r ↔ b = true) : IsR r b := fun w => by
  have HR := hid (repo_calls (strB r) r rfl ha (by rw [strB_size]; exact hs) w); have HD := hid hd
  clear ha hs hd
  cases b with
  | true =>
    go_enter Try.func45, Try.ntmps45
    go_wp2_with fail
    refine HR.out.mono ?_
    rintro _ w1 ⟨⟨x, y, rfl, hor⟩, hb⟩
    obtain ⟨rfl, rfl⟩ : x = 0 ∧ y = 0 := by
      rcases hor with ⟨pos, hst, _⟩ | ⟨_, h1, h2⟩
      · exact absurd hst (qt_rdone_not (HD.out.2 trivial))
      · exact ⟨h1, h2⟩
    have HB := hid hb
    have hfd : ∀ w, (Instr.field 97 (.agg #[.int .i64 0, .int .i64 0]) 0).run Try.prog w = .ok (.int .i64 0) w := fun _ => by kernel_rfl
    clear hb hor HR
    go_wp2_with fail
    go_ret
    exact ⟨rfl, HB.out⟩
  | false =>
    go_enter Try.func45, Try.ntmps45
    go_wp2_with fail
    refine HR.out.mono ?_
    rintro _ w1 ⟨⟨x, y, rfl, hor⟩, hb⟩
    obtain ⟨rfl, pos, rfl⟩ : x = 7 ∧ ∃ pos : Nat, y = (pos : Int) := by
      rcases hor with ⟨pos, hst, h1, h2⟩ | ⟨h0, _⟩
      · exact ⟨h1, pos, h2⟩
      · exact absurd (HD.out.1 h0) (by simp)
    have HB := hid hb
    have hfd : ∀ w, (Instr.field 97 (.agg #[.int .i64 7, .int .i64 (pos : Int)]) 0).run Try.prog w = .ok (.int .i64 7) w := fun _ => by kernel_rfl
    clear hb hor HR
    go_wp2_with fail
    go_ret
    exact ⟨rfl, HB.out⟩
theorem ofQ_nil (r : List UInt8) : ofQ [] r = [] := rfl
theorem run_mkmap (t : TypeId) (w : World) : (Instr.makeMap t none).run Try.prog w = .ok (.map (some w.heap.size)) (w.alloc (.map #[] 0)) := rfl
def NewQ (w : World) (lim : Int) (e : Ending) (w' : World) : Prop := ∃ s m u, e = .returned (.tuple #[.pointer (some ⟨s, 0, none⟩), .int .i64 0]) ∧ QtB w' [s, m, u] s m u 0 ⟨lim, []⟩ (fun _ => none) ∧ (∀ x ∈ [s, m, u], w.heap.size ≤ x) ∧ Below w.heap.size w w'
set_option maxRecDepth 20000 in
theorem qnew_calls (lim : Int) (h0 : 0 ≤ lim) (h1 : lim ≤ 1099511627776) (w : World) : Calls Try.prog 8 #[.int .i64 lim] w (NewQ w lim) := by
  have b1 := below_new w (.map #[] 0)
  have k1 := MapG.new lkK szK w
  have z1 := size_new w (.map #[] 0)
  have b2 := below_new (w.alloc (.map #[] 0)) (.map #[] 0)
  have k2 := MapG.new stK ptK (w.alloc (.map #[] 0))
  have z2 := size_new (w.alloc (.map #[] 0)) (.map #[] 0)
  rw [z1] at k2 z2
  have k1' := k1.keep b2
  have hb := b1.trans (b2.mono b1.size)
  obtain ⟨w2, hw2⟩ : ∃ w2, (w.alloc (.map #[] 0)).alloc (.map #[] 0) = w2 := ⟨_, rfl⟩
  rw [hw2] at k1' k2 z2 hb
  have b3 := below_new w2 (.cells #[.pointer (some ⟨w.heap.size + 1 + 1, 0, none⟩), .int .i64 lim, .map (some w.heap.size), .map (some (w.heap.size + 1))] 52)
  have k4 := Blk.new w2 52 #[.pointer (some ⟨w.heap.size + 1 + 1, 0, none⟩), .int .i64 lim, .map (some w.heap.size), .map (some (w.heap.size + 1))]
  rw [z2] at k4
  have b4 := hb.trans (b3.mono hb.size)
  have m4 := k1'.keep b3
  have u4 := k2.keep b3
  obtain ⟨W, hW⟩ : ∃ W, w2.alloc (.cells #[.pointer (some ⟨w.heap.size + 1 + 1, 0, none⟩), .int .i64 lim, .map (some w.heap.size), .map (some (w.heap.size + 1))] 52) = W := ⟨_, rfl⟩
  rw [hW] at k4 b4 m4 u4
  have HEnd := hid (show QtB W [w.heap.size + 1 + 1, w.heap.size, w.heap.size + 1] (w.heap.size + 1 + 1) w.heap.size (w.heap.size + 1) 0 ⟨lim, []⟩ (fun _ => none) ∧ Below w.heap.size w W from
    ⟨⟨⟨List.nodup_nil, fun p hp => (by cases hp), fun p hp => (by cases hp), Nat.zero_le _, h0, h1⟩, k4, m4, u4, fun _ _ => rfl, fun _ _ _ _ _ h => (by cases h), by simp, by omega, fun x hx => by have h1 := k4.lt; have h2 := m4.lt; have h3 := u4.lt; simp at hx; omega⟩, b4⟩)
  subst hW
  subst hw2
  clear b1 k1 z1 b2 k2 z2 k1' hb b3 k4 b4 m4 u4
  have n1 : ¬ lim < 0 := by omega
  have n2 : ¬ 1099511627776 < lim := by omega
  have hmm := run_mkmap
  clear h0 h1
  go_enter Try.func8, Try.ntmps8
  go_wp2_with fail
  go_ret2
  unfold NewQ
  exact ⟨_, _, _, rfl, HEnd.out.1, fun x hx => by simp at hx; omega, HEnd.out.2⟩
theorem qnew_bad (lim : Int) (h : lim < 0 ∨ 1099511627776 < lim) (w : World) : Calls Try.prog 8 #[.int .i64 lim] w fun e w' => e = .returned (.tuple #[.pointer none, .int .i64 3]) ∧ w = w' := by
  rcases h with h | h
  · go_enter Try.func8, Try.ntmps8
    go_wp2_with fail
    go_ret2
    exact ⟨rfl, rfl⟩
  · have n1 : ¬ lim < 0 := by omega
    go_enter Try.func8, Try.ntmps8
    go_wp2_with fail
    go_ret2
    exact ⟨rfl, rfl⟩
section
variable {w w' : World} {F : List Nat} {s m u n : Nat} {q : QS} {g : List UInt8 → Option Nat}
theorem QtB.use (h : QtB w F s m u n q g) {r : List UInt8} (hr : r.length ≤ maxLen) : (g r = none ∧ ofQ q.l r = []) ∨ ∃ b, g r = some b ∧ ofQ q.l r ≠ [] ∧ Blk w b 91 #[.int .i64 (cntQ q.l r), .int .i64 (sumQ q.l r)] := by
  have he := h.each r hr
  cases hg : g r with
  | none => rw [hg] at he; exact .inl ⟨rfl, he⟩
  | some b => rw [hg] at he; exact .inr ⟨b, rfl, he.1, he.2.1⟩
theorem quse_calls (h : QtB w F s m u n q g) (r : List UInt8) (hr : r.length ≤ maxLen) : Calls Try.prog 29 #[.pointer (some ⟨s, 0, none⟩), .string (strB r)] w fun e w' => e = .returned (.int .i64 (sumQ q.l r)) ∧ w = w' := by
  have HV := hid (qvalid_calls s w h.cells.1)
  have c3 := h.cells.2.2.2
  have hlk := h.us.look Try.underlying50 (k := r) hr false
  simp only [Bool.false_eq_true, if_false] at hlk
  rcases h.use hr with ⟨hg, h0⟩ | ⟨b, hg, h0, hb⟩
  · have hs0 : sumQ q.l r = 0 := by unfold sumQ; rw [h0]; rfl
    rw [hs0]
    rw [hg] at hlk
    change _ = Result.ok (Value.pointer none) w at hlk
    change (Instr.lookup _ _ (Value.string (strB r)) false).run _ _ = _ at hlk
    clear h hs0
    go_enter Try.func29, Try.ntmps29
    go_wp2_with (first | (refine HV.out.mono ?_; rintro _ _ ⟨rfl, rfl⟩))
    go_ret
    exact ⟨rfl, rfl⟩
  · rw [hg] at hlk
    change _ = Result.ok (Value.pointer (some ⟨b, 0, none⟩)) w at hlk
    change (Instr.lookup _ _ (Value.string (strB r)) false).run _ _ = _ at hlk
    have c1 : w.cell? ⟨b, 1, none⟩ = some (.int .i64 (sumQ q.l r)) := hb.cell 1 rfl
    generalize sumQ q.l r = S at c1 ⊢
    clear h hb
    go_enter Try.func29, Try.ntmps29
    go_wp2_with (first | (refine HV.out.mono ?_; rintro _ _ ⟨rfl, rfl⟩))
    go_ret
    exact ⟨rfl, rfl⟩
theorem quse_none (h : Value) (r : Value) (hn : NoObj w h) : Calls Try.prog 29 #[h, r] w fun e w' => e = .returned (.int .i64 0) ∧ w = w' := by
  have HV := hid (qvalid_none h w hn)
  clear hn
  go_enter Try.func29, Try.ntmps29
  go_wp2_with (first | (refine HV.out.mono ?_; rintro _ _ ⟨rfl, rfl⟩))
  go_ret
  exact ⟨rfl, rfl⟩
theorem qlimit_calls (h : QtB w F s m u n q g) : Calls Try.prog 26 #[.pointer (some ⟨s, 0, none⟩)] w fun e w' => e = .returned (.int .i64 q.limit) ∧ w = w' := by
  have HV := hid (qvalid_calls s w h.cells.1)
  have c1 := h.cells.2.1
  clear h
  go_enter Try.func26, Try.ntmps26
  go_wp2_with (first | (refine HV.out.mono ?_; rintro _ _ ⟨rfl, rfl⟩))
  go_ret
  exact ⟨rfl, rfl⟩
theorem qlimit_none (h : Value) (hn : NoObj w h) : Calls Try.prog 26 #[h] w fun e w' => e = .returned (.int .i64 0) ∧ w = w' := by
  have HV := hid (qvalid_none h w hn)
  clear hn
  go_enter Try.func26, Try.ntmps26
  go_wp2_with (first | (refine HV.out.mono ?_; rintro _ _ ⟨rfl, rfl⟩))
  go_ret
  exact ⟨rfl, rfl⟩
theorem qwithin_calls (h : QtB w F s m u n q g) (x : Int) : Calls Try.prog 39 #[.pointer (some ⟨s, 0, none⟩), .int .i64 x] w fun e w' => e = .returned (.bool (decide (x ≤ q.limit))) ∧ w = w' := by
  have c1 := h.cells.2.1
  clear h
  by_cases hx : x ≤ q.limit
  · go_enter Try.func39, Try.ntmps39
    go_wp2_with fail
    go_ret
    exact ⟨by simp [hx], rfl⟩
  · go_enter Try.func39, Try.ntmps39
    go_wp2_with fail
    go_ret
    exact ⟨by simp [hx], rfl⟩
end
end Go.Proofs.Ytjgnbmkhibdcfaa
