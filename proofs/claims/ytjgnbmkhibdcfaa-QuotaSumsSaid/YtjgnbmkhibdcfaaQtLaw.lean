/- A law's own links: what its calls leave; the law's digests, links and mounts; awake. -/
import Derived.Test.YtjgnbmkhibdcfaaQtFor
namespace Go.Proofs.Ytjgnbmkhibdcfaa
open Go.RowKit

/-- what Link and Lay answer -/
def addR (q : QS) (k : LKey) (sz : Int) (al : Bool) : Bool × Int :=
  match szQ q.l k with
  | some y => (false, if y = sz then 0 else 17)
  | none => if al then (true, 0) else (false, 11)
/-- .. and leave -/
def addS (q : QS) (k : LKey) (sz : Int) (al : Bool) : QS :=
  match szQ q.l k with
  | some _ => q
  | none => if al then { q with l := q.l ++ [(k, sz)] } else q
/-- what Mount answers, and leaves -/
def mntR (q : QS) (k t : LKey) : Bool × Int :=
  match szQ q.l k with
  | none => (false, 14)
  | some y => addR q t y (decide (sumQ q.l t.1 + y ≤ q.limit))
def mntS (q : QS) (k t : LKey) : QS :=
  match szQ q.l k with
  | none => q
  | some y => addS q t y (decide (sumQ q.l t.1 + y ≤ q.limit))
def resV (r : Bool × Int) : Value := .tuple #[.bool r.1, .int .i64 r.2]
/-- the links of a law: all that they have is the law's -/
def Q1 (w0 w : World) (s n : Nat) (q : QS) : Prop := ∃ F m u g, QtB w F s m u n q g ∧ (∀ x ∈ F, w0.heap.size ≤ x) ∧ Below w0.heap.size w0 w
theorem QtB.mono {w : World} {F : List Nat} {s m u n n' : Nat} {q : QS} {g : List UInt8 → Option Nat} (h : QtB w F s m u n q g) (hn : n ≤ n') : QtB w F s m u n' q g :=
  ⟨h.ok, h.hd, h.mp.mono hn, h.us.mono hn, h.each, h.inj, h.ins, h.ne, h.lt⟩
section
variable {w0 w w' : World} {s n : Nat} {q : QS}
theorem Q1.keep (h : Q1 w0 w s n q) (hb : Below w.heap.size w w') : Q1 w0 w' s n q := by
  obtain ⟨F, m, u, g, h1, h2, h3⟩ := h
  exact ⟨F, m, u, g, h1.keep hb, h2, h3.trans (hb.mono h3.size)⟩
theorem Q1.mono {n' : Nat} (h : Q1 w0 w s n q) (hn : n ≤ n') : Q1 w0 w s n' q := by
  obtain ⟨F, m, u, g, h1, h2, h3⟩ := h
  exact ⟨F, m, u, g, h1.mono hn, h2, h3⟩
theorem Q1.below (h : Q1 w0 w s n q) : Below w0.heap.size w0 w := by
  obtain ⟨_, _, _, _, _, _, h3⟩ := h
  exact h3
theorem Q1.ok (h : Q1 w0 w s n q) : OKQ q := by
  obtain ⟨_, _, _, _, h1, _, _⟩ := h
  exact h1.ok
theorem Q1.chg {F : List Nat} {m u n2 : Nat} {q2 : QS} {F' : List Nat} {g' : List UInt8 → Option Nat} (h3 : Below w0.heap.size w0 w) (h2 : ∀ x ∈ F, w0.heap.size ≤ x) (hq : QtB w' F' s m u n2 q2 g') (hc : Chg F w w') (hF : ∀ x ∈ F', x ∈ F ∨ w.heap.size ≤ x) : Q1 w0 w' s n2 q2 :=
  ⟨F', m, u, g', hq, fun x hx => (hF x hx).elim (h2 x) (fun h => Nat.le_trans h3.size h), h3.trans (hc.below h2 h3.size)⟩
theorem AddP.q1 {F : List Nat} {m u : Nat} {g : List UInt8 → Option Nat} {k : LKey} {sz : Int} {al : Bool} {e : Ending} (hq : QtB w F s m u n q g) (h2 : ∀ x ∈ F, w0.heap.size ≤ x) (h3 : Below w0.heap.size w0 w) (h : AddP w F s m u n q k sz al e w') : e = .returned (resV (addR q k sz al)) ∧ Q1 w0 w' s (n + 1) (addS q k sz al) := by
  unfold AddP at h
  unfold addR addS resV
  cases hs : szQ q.l k with
  | some y =>
    rw [hs] at h
    obtain ⟨h4, h5⟩ := h
    refine ⟨?_, F, m, u, g, (hq.keep h5).mono (Nat.le_succ n), h2, h3.trans (h5.mono h3.size)⟩
    split at h4 <;> rename_i hy
    · rw [h4]; simp [hy]
    · rw [h4]; simp [hy]
  | none =>
    rw [hs] at h
    dsimp only at h ⊢
    cases al with
    | true =>
      obtain ⟨h4, F', g', h5, h6, h7⟩ := h
      exact ⟨h4, Q1.chg h3 h2 h5 h6 h7⟩
    | false =>
      obtain ⟨h4, h5⟩ := h
      exact ⟨h4, F, m, u, g, (hq.keep h5).mono (Nat.le_succ n), h2, h3.trans (h5.mono h3.size)⟩
/-- names and digests that may be asked for -/
structure Ask (q : QS) (n : Nat) (r id : List UInt8) (sz : Int) : Prop where
  r128 : r.length ≤ 128
  i32 : id.length = 32
  is : IsR r true
  sz : 0 ≤ sz ∧ sz ≤ 4096
  n : n < 60000
  few : q.l.length < 65536
theorem len128 {r : List UInt8} (h : r.length ≤ 128) : r.length ≤ maxLen := Nat.le_trans h (by unfold maxLen; omega)
theorem Ask.kok {r id : List UInt8} {sz : Int} (h : Ask q n r id sz) : kok (r, id) := ⟨len128 h.r128, h.i32⟩
theorem Q1.link (h : Q1 w0 w s n q) {r id : List UInt8} {sz : Int} (ha : Ask q n r id sz) : Calls Try.prog 11 #[.pointer (some ⟨s, 0, none⟩), .string (strB r), .agg (bcells id), .int .i64 sz] w fun e w' => e = .returned (resV (addR q (r, id) sz (decide (sumQ q.l r + sz ≤ q.limit)))) ∧ Q1 w0 w' s (n + 1) (addS q (r, id) sz (decide (sumQ q.l r + sz ≤ q.limit))) := by
  obtain ⟨F, m, u, g, h1, h2, h3⟩ := h
  exact (qlink_calls h1 r id ha.kok ha.r128 ha.is sz ha.sz ha.n ha.few).mono fun _ _ h => AddP.q1 h1 h2 h3 h
theorem Q1.lay (h : Q1 w0 w s n q) {r id : List UInt8} {sz : Int} (ha : Ask q n r id sz) : Calls Try.prog 13 #[.pointer (some ⟨s, 0, none⟩), .string (strB r), .agg (bcells id), .int .i64 sz] w fun e w' => e = .returned (resV (addR q (r, id) sz true)) ∧ Q1 w0 w' s (n + 1) (addS q (r, id) sz true) := by
  obtain ⟨F, m, u, g, h1, h2, h3⟩ := h
  exact (qlay_calls h1 r id ha.kok ha.r128 ha.is sz ha.sz ha.n ha.few).mono fun _ _ h => AddP.q1 h1 h2 h3 h
theorem Q1.mount (h : Q1 w0 w s n q) {r t id : List UInt8} (hr : r.length ≤ 128) (hr2 : IsR r true) (ha : Ask q n t id 0) : Calls Try.prog 14 #[.pointer (some ⟨s, 0, none⟩), .string (strB r), .string (strB t), .agg (bcells id)] w fun e w' => e = .returned (resV (mntR q (r, id) (t, id))) ∧ Q1 w0 w' s (n + 1) (mntS q (r, id) (t, id)) := by
  obtain ⟨F, m, u, g, h1, h2, h3⟩ := h
  refine (qmount_calls h1 r t id ⟨len128 hr, ha.i32⟩ ha.kok ha.r128 hr2 ha.is ha.n ha.few).mono fun e w' h => ?_
  unfold MountP at h
  unfold mntR mntS
  cases hs : szQ q.l (r, id) with
  | none =>
    rw [hs] at h
    exact ⟨h.1, F, m, u, g, (h1.keep h.2).mono (Nat.le_succ n), h2, h3.trans (h.2.mono h3.size)⟩
  | some y =>
    rw [hs] at h
    exact AddP.q1 h1 h2 h3 h
theorem Q1.mount_name (h : Q1 w0 w s n q) {r t id : List UInt8} (b1 b2 : Bool) (h1 : IsR r b1) (h2 : IsR t b2) (hb : b1 = false ∨ b2 = false) : Calls Try.prog 14 #[.pointer (some ⟨s, 0, none⟩), .string (strB r), .string (strB t), .agg (bcells id)] w fun e w' => e = .returned (resV (false, 7)) ∧ Q1 w0 w' s n q := by
  have h0 := h
  obtain ⟨F, m, u, g, hq, _, _⟩ := h
  exact (qmount_name hq.cells.1 r t id b1 b2 h1 h2 hb).mono fun e w' hh => ⟨hh.1, h0.keep hh.2⟩
theorem Q1.has (h : Q1 w0 w s n q) (k : LKey) (hk : kok k) : Calls Try.prog 21 #[.pointer (some ⟨s, 0, none⟩), .string (strB k.1), .agg (bcells k.2)] w fun e w' => e = .returned (.bool (szQ q.l k).isSome) ∧ Q1 w0 w' s n q := by
  have h0 := h
  obtain ⟨F, m, u, g, hq, _, _⟩ := h
  exact (qhas_calls hq k hk).mono fun e w' hh => ⟨hh.1, h0.keep hh.2⟩
theorem Q1.use (h : Q1 w0 w s n q) (r : List UInt8) (hr : r.length ≤ maxLen) : Calls Try.prog 29 #[.pointer (some ⟨s, 0, none⟩), .string (strB r)] w fun e w' => e = .returned (.int .i64 (sumQ q.l r)) ∧ w = w' := by
  obtain ⟨F, m, u, g, hq, _, _⟩ := h
  exact quse_calls hq r hr
theorem Q1.limit (h : Q1 w0 w s n q) : Calls Try.prog 26 #[.pointer (some ⟨s, 0, none⟩)] w fun e w' => e = .returned (.int .i64 q.limit) ∧ w = w' := by
  obtain ⟨F, m, u, g, hq, _, _⟩ := h
  exact qlimit_calls hq
theorem Q1.unlink (h : Q1 w0 w s n q) (r id : List UInt8) (hk : kok (r, id)) : Calls Try.prog 16 #[.pointer (some ⟨s, 0, none⟩), .string (strB r), .agg (bcells id)] w fun e w' => e = .returned (.bool (szQ q.l (r, id)).isSome) ∧ Q1 w0 w' s n { q with l := delQ q.l (r, id) } := by
  have h0 := h
  obtain ⟨F, m, u, g, h1, h2, h3⟩ := h
  refine (qunlink_calls h1 r id hk).mono fun e w' hh => ?_
  unfold UnlP at hh
  cases hs : szQ q.l (r, id) with
  | none =>
    rw [hs] at hh
    have e1 : delQ q.l (r, id) = q.l := by
      unfold delQ
      refine List.filter_eq_self.2 fun p hp => ?_
      have : p.1 ≠ (r, id) := fun e => szQ_none.1 hs (List.mem_map.2 ⟨p, hp, e⟩)
      simpa using this
    exact ⟨hh.1, by rw [e1]; exact h0.keep hh.2⟩
  | some y =>
    rw [hs] at hh
    obtain ⟨h4, g', h5, h6, _⟩ := hh
    exact ⟨h4, Q1.chg h3 h2 h5 h6 (fun x hx => .inl hx)⟩
theorem Q1.forget (h : Q1 w0 w s n q) (id : List UInt8) (hl : id.length = 32) : Calls Try.prog 18 #[.pointer (some ⟨s, 0, none⟩), .agg (bcells id)] w fun e w' => e = .returned (.int .i64 (((q.l.filter (fun p => decide (p.1.2 = id))).length : Nat) : Int)) ∧ Q1 w0 w' s n { q with l := q.l.filter (fun p => decide (p.1.2 ≠ id)) } := by
  obtain ⟨F, m, u, g, h1, h2, h3⟩ := h
  refine (qforget_calls h1 id hl).mono fun e w' hh => ?_
  obtain ⟨h4, g', h5, h6⟩ := hh
  exact ⟨h4, Q1.chg h3 h2 h5 h6 (fun x hx => .inl hx)⟩
theorem Q1.ids (h : Q1 w0 w s n q) (hn : n ≤ 100000) (r : List UInt8) (hr : r.length ≤ maxLen) : Calls Try.prog 30 #[.pointer (some ⟨s, 0, none⟩), .string (strB r)] w fun e w' => IdsQ w q.l r e w' ∧ Q1 w0 w' s n q := by
  have h0 := h
  obtain ⟨F, m, u, g, hq, _, _⟩ := h
  refine (qids_calls hq hn r hr).mono fun e w' hh => ⟨hh, ?_⟩
  obtain ⟨_, _, _, _, _, _, _, _, _, _, hb⟩ := hh
  exact h0.keep hb
theorem Q1.repos (h : Q1 w0 w s n q) (hn : n ≤ 100000) : Calls Try.prog 20 #[.pointer (some ⟨s, 0, none⟩)] w fun e w' => RepQ w q.l e w' ∧ Q1 w0 w' s n q := by
  have h0 := h
  obtain ⟨F, m, u, g, hq, _, _⟩ := h
  refine (qrepos_calls hq hn).mono fun e w' hh => ⟨hh, ?_⟩
  obtain ⟨_, _, _, _, _, _, _, _, _, _, hb⟩ := hh
  exact h0.keep hb
end
theorem q1_new (lim : Int) (h0 : 0 ≤ lim) (h1 : lim ≤ 1099511627776) (w0 w : World) (hb : Below w0.heap.size w0 w) : Calls Try.prog 8 #[.int .i64 lim] w fun e w' => ∃ s, e = .returned (.tuple #[.pointer (some ⟨s, 0, none⟩), .int .i64 0]) ∧ Q1 w0 w' s 0 ⟨lim, []⟩ := by
  refine (qnew_calls lim h0 h1 w).mono fun e w' ⟨s, m, u, he, hq, hF, hbw⟩ => ⟨s, he, [s, m, u], m, u, _, hq, fun x hx => Nat.le_trans hb.size (hF x hx), hb.trans (hbw.mono hb.size)⟩
def dig1 : List UInt8 := 1 :: List.replicate 31 0
def dig2 : List UInt8 := 2 :: List.replicate 31 0
theorem isR_a : IsR [97] true := isR_of [97] (by decide) (by decide) true ⟨fun _ => rfl, fun _ => ⟨by decide +kernel, by decide +kernel⟩⟩
theorem isR_b : IsR [98] true := isR_of [98] (by decide) (by decide) true ⟨fun _ => rfl, fun _ => ⟨by decide +kernel, by decide +kernel⟩⟩
theorem isR_c : IsR [99] true := isR_of [99] (by decide) (by decide) true ⟨fun _ => rfl, fun _ => ⟨by decide +kernel, by decide +kernel⟩⟩
theorem isR_d : IsR [100] true := isR_of [100] (by decide) (by decide) true ⟨fun _ => rfl, fun _ => ⟨by decide +kernel, by decide +kernel⟩⟩
theorem isR_B : IsR [66] false := isR_of [66] (by decide) (by decide) false ⟨fun h => absurd h.1 (by decide +kernel), fun h => by cases h⟩
theorem run_build1 (w : World) : (Instr.build 32 #[(0, .int .u8 1)]).run Try.prog w = .ok (.agg (bcells dig1)) w := by kernel_rfl
theorem run_build2 (w : World) : (Instr.build 32 #[(0, .int .u8 2)]).run Try.prog w = .ok (.agg (bcells dig2)) w := by kernel_rfl
theorem one_calls (w : World) : Calls Try.prog 32 #[] w fun e w' => e = .returned (.agg (bcells dig1)) ∧ Below w.heap.size w w' := by
  have hz := (zero_of_info info26).1
  have EF : Hid ((Try.prog.info? 32).map (·.size) = some (bcells dig1).size) := by rw [Hid]; kernel_rfl
  have EZ : Hid ((bcells (zeroB 32)).size = (bcells dig1).size) := by rw [Hid]; kernel_rfl
  have K3 := hid (Blk.new w 32 (bcells (zeroB 32)))
  obtain ⟨q1, q2⟩ := new_set w 32 (bcells (zeroB 32)) (bcells dig1)
  have Q1 := hid q1; have Q2 := hid q2
  have HB := hid run_build1
  clear q1 q2
  go_enter Try.func32, Try.ntmps32
  go_wp2_with (first
    | (refine wpList_bld rfl 32 _ rfl (ps := #[(0, .int .u8 1)]) (by simp only [List.map_toArray, List.map_cons, List.map_nil]; rfl) (HB.out _) ?_)
    | ((refine wpList_store_blk rfl 32 _ _ rfl w.heap.size (bcells dig1) rfl rfl 32 _ K3.out EF.out EZ.out (bcells_oneCell _) ?_)))
  refine bodyPost_ret (v := .agg (bcells dig1)) (results_cell_row rfl _ _ w.heap.size 32 _ (0, 0) _ rfl Q2.out Try.underlying32 rfl EF.out) rfl ⟨rfl, Q1.out⟩
theorem two_calls (w : World) : Calls Try.prog 33 #[] w fun e w' => e = .returned (.agg (bcells dig2)) ∧ Below w.heap.size w w' := by
  have hz := (zero_of_info info26).1
  have EF : Hid ((Try.prog.info? 32).map (·.size) = some (bcells dig2).size) := by rw [Hid]; kernel_rfl
  have EZ : Hid ((bcells (zeroB 32)).size = (bcells dig2).size) := by rw [Hid]; kernel_rfl
  have K3 := hid (Blk.new w 32 (bcells (zeroB 32)))
  obtain ⟨q1, q2⟩ := new_set w 32 (bcells (zeroB 32)) (bcells dig2)
  have Q1 := hid q1; have Q2 := hid q2
  have HB := hid run_build2
  clear q1 q2
  go_enter Try.func33, Try.ntmps33
  go_wp2_with (first
    | (refine wpList_bld rfl 32 _ rfl (ps := #[(0, .int .u8 2)]) (by simp only [List.map_toArray, List.map_cons, List.map_nil]; rfl) (HB.out _) ?_)
    | ((refine wpList_store_blk rfl 32 _ _ rfl w.heap.size (bcells dig2) rfl rfl 32 _ K3.out EF.out EZ.out (bcells_oneCell _) ?_)))
  refine bodyPost_ret (v := .agg (bcells dig2)) (results_cell_row rfl _ _ w.heap.size 32 _ (0, 0) _ rfl Q2.out Try.underlying32 rfl EF.out) rfl ⟨rfl, Q1.out⟩
section
variable {w0 w w' : World} {s n : Nat} {q : QS}
set_option maxHeartbeats 1000000 in
theorem ql_links (h : Q1 w0 w s n q) {r id : List UInt8} {sz : Int} (ha : Ask q n r id sz) {want : Bool} {err : Int} {q2 : QS} (hres : addR q (r, id) sz (decide (sumQ q.l r + sz ≤ q.limit)) = (want, err)) (hq : addS q (r, id) sz (decide (sumQ q.l r + sz ≤ q.limit)) = q2) :
    Calls Try.prog 31 #[.pointer (some ⟨s, 0, none⟩), .string (strB r), .agg (bcells id), .int .i64 sz, .bool want, .int .i64 err] w fun e w' => e = .returned (.bool true) ∧ Q1 w0 w' s (n + 1) q2 := by
  have hb := below_new w (.cells (bcells id) 32)
  have HKX := hid (Blk.new w 32 (bcells id))
  have HL := hid ((h.keep hb).link ha)
  rw [hres, hq] at HL
  unfold resV at HL
  have HSZ := hid (size32 ha.i32)
  clear h ha hres hq hb
  go_enter Try.func31, Try.ntmps31
  go_wp2_with (refine wpList_load_row rfl 32 _ rfl _ rfl _ _ _ _ HKX.out Try.underlying32 rfl HSZ.out ?_)
  refine HL.out.mono ?_
  rintro _ w2 ⟨rfl, hq2⟩
  have HQ := hid hq2
  have hw : (want == want) = true := by simp
  clear hq2 HL HKX
  go_wp2_with fail
  go_ret
  exact ⟨rfl, HQ.out⟩
set_option maxHeartbeats 1000000 in
theorem ql_mounts_any {r t : List UInt8} {want : Bool} {err : Int} {n2 : Nat} {q2 : QS} (hm : ∀ W, Below w.heap.size w W → Calls Try.prog 14 #[.pointer (some ⟨s, 0, none⟩), .string (strB r), .string (strB t), .agg (bcells dig1)] W fun e w' => e = .returned (resV (want, err)) ∧ Q1 w0 w' s n2 q2) :
    Calls Try.prog 34 #[.pointer (some ⟨s, 0, none⟩), .string (strB r), .string (strB t), .bool want, .int .i64 err] w fun e w' => e = .returned (.bool true) ∧ Q1 w0 w' s n2 q2 := by
  have HM := hid hm
  unfold resV at HM
  clear hm
  go_enter Try.func34, Try.ntmps34
  go_wp2_with fail
  refine (one_calls _).mono ?_
  rintro _ w1 ⟨rfl, hb⟩
  have HL := hid (HM.out w1 hb)
  clear hb HM
  go_wp2_with fail
  refine HL.out.mono ?_
  rintro _ w2 ⟨rfl, hq2⟩
  have HQ := hid hq2
  have hw : (want == want) = true := by simp
  clear hq2 HL
  go_wp2_with fail
  go_ret
  exact ⟨rfl, HQ.out⟩
end
end Go.Proofs.Ytjgnbmkhibdcfaa
