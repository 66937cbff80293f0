/- The law QuotaForgets, walked. Written by tools/mkqt.py out of XQtFgW.tpl. -/
import Derived.Test.YtaagdjlnnkphdaaQtFgM
namespace Go.Proofs.Ytaagdjlnnkphdaa
open Go.RowKit
set_option linter.unusedVariables false

theorem qtmod_low (x n : Int) (h : 0 < n) (hx : x.tmod n < 0) : x.tmod n + n = x % n := by
  have h1 := Int.tmod_eq_emod (a := x) (b := n)
  have h2 := Int.emod_nonneg x (show n ≠ 0 by omega)
  have h3 := Int.emod_lt_of_pos x h
  rw [h1] at hx ⊢
  split at hx
  · omega
  · have : (n.natAbs : Int) = n := by omega
    rename_i hh
    rw [if_neg hh, this]; omega
theorem qtmod_high (x n : Int) (h : 0 < n) (hx : ¬ x.tmod n < 0) : x.tmod n = x % n := by
  have h1 := Int.tmod_eq_emod (a := x) (b := n)
  have h2 := Int.emod_nonneg x (show n ≠ 0 by omega)
  have h3 := Int.emod_lt_of_pos x h
  rw [h1] at hx ⊢
  split at hx
  · rename_i hh; rw [if_pos hh]; omega
  · rename_i hh
    have : (n.natAbs : Int) = n := by omega
    rw [this] at hx; omega
theorem qpick_calls (x n : Int) (w : World) (h3 : 0 < n) (h4 : n ≤ 1099511627776) :
    Calls Try.prog 36 #[.int .i64 x, .int .i64 n] w fun e w' => e = .returned (.int .i64 (x % n)) ∧ w = w' := by
  by_cases hx : x.tmod n < 0
  · go_enter Try.func36, Try.ntmps36
    go_wp2_with fail
    go_ret
    refine ⟨ret_int ?_, rfl⟩
    have h2 := Int.emod_nonneg x (show n ≠ 0 by omega)
    have h5 := Int.emod_lt_of_pos x h3
    rw [qtmod_low x n h3 hx]
    exact IntWalk.wrap64_in _ (by omega)
  · go_enter Try.func36, Try.ntmps36
    go_wp2_with fail
    go_ret
    exact ⟨ret_int (qtmod_high x n h3 (by omega)), rfl⟩
/-- behind k rounds of the first loop -/
structure LaidQ (ids : List (List UInt8)) (k : Nat) (q : QS) : Prop where
  sev : Sev q.l
  lim : q.limit = 1099511627776
  len : q.l.length ≤ 2 * k
  has : ∀ (i : Nat) x, i < k → ids[i]? = some x → (szQ q.l (nm (i % 3), x)).isSome = true ∧ (szQ q.l (nm (i / 3 % 3), x)).isSome = true
theorem LaidQ.step {ids : List (List UInt8)} {k : Nat} {q : QS} (h : LaidQ ids k q) {x : List UInt8} (hx : ids[k]? = some x) : LaidQ ids (k + 1) (addS (addS q (nm (k % 3), x) 7 true) (nm (k / 3 % 3), x) 7 true) := by
  obtain ⟨a1, a2, a3, a4, a5⟩ := h.sev.lay (k % 3) x
  obtain ⟨b1, b2, b3, b4, b5⟩ := a1.lay (k / 3 % 3) x
  have hl := h.len
  refine ⟨b1, by rw [b5, a5]; exact h.lim, by omega, fun i y hi hy => ?_⟩
  by_cases e : i = k
  · subst e
    rw [hx] at hy
    cases hy
    exact ⟨b3 _ a2, b2⟩
  · have := h.has i y (by omega) hy
    exact ⟨b3 _ (a3 _ this.1), b3 _ (a3 _ this.2)⟩
theorem ask_nm {q : QS} {n : Nat} (j : Nat) {x : List UInt8} (hx : x.length = 32) (hn : n < 60000) (hf : q.l.length < 65536) : Ask q n (nm j) x 7 :=
  ⟨by rw [nm_len]; omega, hx, nm_is j, by omega, hn, hf⟩
def nb3 : Array Value := #[.string ⟨#[97]⟩, .string ⟨#[98]⟩, .string ⟨#[99]⟩]
theorem nm_cell {w : World} {b : Nat} (h : Blk w b 9 nb3) {j : Nat} (hj : j < 3) : w.cell? ⟨b, j, none⟩ = some (.string (strB (nm j))) := by
  rcases j with _ | _ | _ | j
  · exact h.cell 0 rfl
  · exact h.cell 1 rfl
  · exact h.cell 2 rfl
  · omega
theorem tmod3 (k : Nat) : Int.tmod (k : Int) 3 = ((k % 3 : Nat) : Int) := by
  rw [Int.tmod_eq_emod_of_nonneg (by omega)]; omega
theorem tdiv3 (k : Nat) : Int.tdiv (k : Int) 3 = ((k / 3 : Nat) : Int) := by
  rw [Int.tdiv_eq_ediv_of_nonneg (by omega)]; omega
theorem hcell_at {w0 w : World} {s n : Nat} {q : QS} {H : List HBlk} {a0 off k : Nat} {ids : List (List UInt8)} (h : Q2 w0 H w s n q) (hc : Hid (∀ (i : Nat) x, ids[i]? = some x → ∀ (j : Nat) v, (bcells x)[j]? = some v → w0.cell? ⟨a0, off + i * 32 + j, none⟩ = some v)) {x : List UInt8} (hx : ids[k]? = some x) (h32 : x.length = 32) : (loadVar 32 ⟨a0, off + k * 32, none⟩).run Try.prog w = .ok (.agg (bcells x)) w :=
  arow_load h32 fun j v hv => cell_keep (hc.out k x hx j v hv) h.below
theorem link_d {lim : Int} {l : Ls} (h : Sev l) (hl : lim = 1099511627776) (x : List UInt8) : addR ⟨lim, l⟩ ([100], x) 3 (decide (sumQ l [100] + 3 ≤ lim)) = (true, 0) ∧ addS ⟨lim, l⟩ ([100], x) 3 (decide (sumQ l [100] + 3 ≤ lim)) = ⟨lim, l ++ [(([100], x), 3)]⟩ := by
  obtain ⟨h1, h2⟩ := h.d x
  subst hl
  unfold addR addS
  dsimp only
  rw [h1, h2]
  exact ⟨rfl, rfl⟩
theorem forg_forg (l : Ls) (x : List UInt8) : (forg l x).filter (fun p => decide (p.1.2 ≠ x)) = forg l x := by
  unfold forg
  rw [List.filter_filter]
  congr 1
  funext p
  simp
theorem Sev.forg {l : Ls} (h : Sev l) (x : List UInt8) : Sev (forg l x) := fun p hp => h p ((List.mem_filter.1 hp).1)
def fg11Val (s b a0 off n c k j d : Nat) (x : List UInt8) (q : QS) : Nat → Unit → Value
  | 0, _ => .pointer (some ⟨s, 0, none⟩)
  | 1, _ => .slice (some ⟨b, 0, none⟩) 3 3
  | 2, _ => .int .i64 (k : Int)
  | 3, _ => .int .i64 ((j : Nat) : Int)
  | 4, _ => .pointer (some ⟨b, j, none⟩)
  | 5, _ => .string (strB (nm (j)))
  | 6, _ => .slice (some ⟨a0, off, none⟩) n c
  | 7, _ => .int .i64 (k : Int)
  | 8, _ => .pointer (some ⟨a0, off + k * 32, none⟩)
  | 9, _ => .agg (bcells x)
  | 10, _ => resV (addR q (nm (j), x) 7 true)
  | _, _ => undef
def fg12Val (s b a0 off n c k j2 d : Nat) (x : List UInt8) (q2 : QS) : Nat → Unit → Value
  | 0, _ => .pointer (some ⟨s, 0, none⟩)
  | 1, _ => .slice (some ⟨b, 0, none⟩) 3 3
  | 2, _ => .int .i64 (k : Int)
  | 3, _ => .int .i64 (d : Int)
  | 4, _ => .int .i64 ((j2 : Nat) : Int)
  | 5, _ => .pointer (some ⟨b, j2, none⟩)
  | 6, _ => .string (strB (nm (j2)))
  | 7, _ => .slice (some ⟨a0, off, none⟩) n c
  | 8, _ => .int .i64 (k : Int)
  | 9, _ => .pointer (some ⟨a0, off + k * 32, none⟩)
  | 10, _ => .agg (bcells x)
  | 11, _ => resV (addR q2 (nm (j2), x) 7 true)
  | _, _ => undef
def fg19Val (s b g0 m : Nat) (x : List UInt8) (hv : Bool) : Nat → Unit → Value
  | 0, _ => .pointer (some ⟨s, 0, none⟩)
  | 1, _ => .slice (some ⟨b, 0, none⟩) 3 3
  | 2, _ => .int .i64 (m : Int)
  | 3, _ => .pointer (some ⟨b, m, none⟩)
  | 4, _ => .string (strB (nm m))
  | 5, _ => .agg (bcells x)
  | 6, _ => .bool hv
  | _, _ => undef
def fg29Val (s b g0 m : Nat) (x : List UInt8) (hv : Bool) : Nat → Unit → Value
  | 0, _ => .pointer (some ⟨s, 0, none⟩)
  | 1, _ => .slice (some ⟨b, 0, none⟩) 3 3
  | 2, _ => .int .i64 (m : Int)
  | 3, _ => .pointer (some ⟨b, m, none⟩)
  | 4, _ => .string (strB (nm m))
  | 5, _ => .agg (bcells x)
  | 6, _ => .bool hv
  | _, _ => undef
def fg34sVal (s b a0 off k c t g0 j d j2 : Nat) (x y : List UInt8) : Nat → Unit → Value
  | 0, _ => .slice (some ⟨a0, off, none⟩) k c
  | 1, _ => .int .i64 (t : Int)
  | 2, _ => .pointer (some ⟨a0, off + t * 32, none⟩)
  | 3, _ => .agg (bcells x)
  | 4, _ => .agg (bcells x)
  | 5, _ => .bool false
  | 6, _ => .bool false
  | 7, _ => undef
  | 8, _ => undef
  | 9, _ => undef
  | 10, _ => undef
  | 11, _ => undef
  | 12, _ => undef
  | 13, _ => undef
  | 14, _ => undef
  | 15, _ => undef
  | 16, _ => undef
  | 17, _ => undef
  | 18, _ => undef
  | 19, _ => undef
  | 20, _ => undef
  | 21, _ => undef
  | 22, _ => undef
  | 23, _ => undef
  | 24, _ => undef
  | 25, _ => undef
  | 26, _ => undef
  | 27, _ => undef
  | 28, _ => undef
  | 29, _ => undef
  | 30, _ => undef
  | 31, _ => undef
  | 32, _ => undef
  | 33, _ => undef
  | 34, _ => .bool false
  | _, _ => undef
def fg34dVal (s b a0 off k c t g0 j d j2 : Nat) (x y : List UInt8) : Nat → Unit → Value
  | 0, _ => .slice (some ⟨a0, off, none⟩) k c
  | 1, _ => .int .i64 (t : Int)
  | 2, _ => .pointer (some ⟨a0, off + t * 32, none⟩)
  | 3, _ => .agg (bcells y)
  | 4, _ => .agg (bcells x)
  | 5, _ => .bool true
  | 6, _ => .bool true
  | 7, _ => .pointer (some ⟨s, 0, none⟩)
  | 8, _ => .slice (some ⟨b, 0, none⟩) 3 3
  | 9, _ => .int .i64 (t : Int)
  | 10, _ => .int .i64 (j : Int)
  | 11, _ => .pointer (some ⟨b, j, none⟩)
  | 12, _ => .string (strB (nm (j)))
  | 13, _ => .slice (some ⟨a0, off, none⟩) k c
  | 14, _ => .int .i64 (t : Int)
  | 15, _ => .pointer (some ⟨a0, off + t * 32, none⟩)
  | 16, _ => .agg (bcells y)
  | 17, _ => .bool true
  | 18, _ => .bool false
  | 19, _ => .bool false
  | 20, _ => .pointer (some ⟨s, 0, none⟩)
  | 21, _ => .slice (some ⟨b, 0, none⟩) 3 3
  | 22, _ => .int .i64 (t : Int)
  | 23, _ => .int .i64 (d : Int)
  | 24, _ => .int .i64 (j2 : Int)
  | 25, _ => .pointer (some ⟨b, j2, none⟩)
  | 26, _ => .string (strB (nm (j2)))
  | 27, _ => .slice (some ⟨a0, off, none⟩) k c
  | 28, _ => .int .i64 (t : Int)
  | 29, _ => .pointer (some ⟨a0, off + t * 32, none⟩)
  | 30, _ => .agg (bcells y)
  | 31, _ => .bool true
  | 32, _ => .bool false
  | 33, _ => .bool false
  | 34, _ => .bool false
  | _, _ => undef
set_option maxRecDepth 100000 in
set_option maxHeartbeats 4000000 in
theorem qforgets_calls {w : World} {A : Option Addr} {n c : Nat} {ids : List (List UInt8)} (hr : ARow w A n ids) (hmax : n ≤ 9223372036854775807) (which : Int) :
    Calls Try.prog 7 #[.slice A n c, .int .i64 which] w fun e w' => e = .returned (.bool true) ∧ Below w.heap.size w w' := by
  have HR := hid hr
  clear hr
  go_enter Try.func7, Try.ntmps7
  go_wp2_with fail
  refine (qknown_calls _).mono ?_
  rintro _ w1 ⟨rfl, hb1⟩
  have HB1 := hid hb1
  by_cases hg : 20 < n
  · have hg' : (20 : Int) < (n : Int) := by omega
    clear hb1
    go_wp2_with fail
    go_ret
    exact ⟨rfl, HB1.out⟩
  have hg' : ¬ (20 : Int) < (n : Int) := by omega
  by_cases h0 : n = 0
  · subst h0
    clear hb1
    go_wp2_with fail
    go_ret
    exact ⟨rfl, HB1.out⟩
  have h0' : ((n : Int) == 0) = false := by simp; omega
  obtain ⟨a0, off, rfl, hcells⟩ := HR.out.2.2 (by omega)
  have HLen := hid HR.out.1
  have H32 := hid HR.out.2.1
  have HC0 := hid hcells
  have HN := hid (q1_new 1099511627776 (by omega) (by omega) w w1 hb1)
  clear hb1 hcells HR
  go_wp2_with fail
  refine HN.out.mono ?_
  rintro _ w2 ⟨s, rfl, h2⟩
  have hq3 := h2.q2.hold (below_new w2 (.cells #[.string ⟨#[97]⟩, .string ⟨#[98]⟩, .string ⟨#[99]⟩] 9)) (Nat.le_refl _) (Blk.new w2 9 #[.string ⟨#[97]⟩, .string ⟨#[98]⟩, .string ⟨#[99]⟩])
  clear h2 HN
  go_wp2_with fail
  generalize w2.alloc (.cells #[.string ⟨#[97]⟩, .string ⟨#[98]⟩, .string ⟨#[99]⟩] 9) = w3 at hq3 ⊢
  generalize w2.heap.size = b at hq3 ⊢
  have HQ3 := hid (show Q2 w [(b, 9, nb3)] w3 s 0 ⟨1099511627776, []⟩ from hq3)
  clear hq3
  go_loopw [9] (fun v9 wr => ∃ k : Nat, v9 = .int .i64 (k : Int) ∧ k ≤ n ∧ Hid (∃ q, Q2 w [(b, 9, nb3)] wr s (2 * k) q ∧ LaidQ ids k q)) (fun v9 _ => n - (intOf v9).toNat)
  case atStart =>
    exact ⟨0, rfl, Nat.zero_le _, hid ⟨_, HQ3.out, ⟨fun p hp => (by cases hp), rfl, Nat.le_refl _, fun i x hi => absurd hi (by omega)⟩⟩⟩
  case round =>
    obtain ⟨k, rfl, hk, HW⟩ := hrel
    by_cases hlt : k < n
    · have hlt' : (k : Int) < (n : Int) := by omega
      obtain ⟨x, hx⟩ : ∃ x, ids[k]? = some x := ⟨ids[k]'(by have := HLen.out; omega), List.getElem?_eq_getElem _⟩
      have hx32 := H32.out x (List.mem_of_getElem? hx)
      obtain ⟨q, hq, hl⟩ := HW.out
      have hqd := hq.keep (Below.refl _ _).drew
      generalize hwd : wr.drew = wd at hqd
      have HWD := hid hwd
      have hcx := hcell_at hqd HC0 hx hx32
      have hll := hl.len
      obtain ⟨j, hjk⟩ : ∃ j, k % 3 = j := ⟨_, rfl⟩
      obtain ⟨d, hdk⟩ : ∃ d, k / 3 = d := ⟨_, rfl⟩
      obtain ⟨j2, hjd⟩ : ∃ j2, d % 3 = j2 := ⟨_, rfl⟩
      have HJ := hid (⟨hjk, hdk, hjd⟩ : k % 3 = j ∧ k / 3 = d ∧ d % 3 = j2)
      have t1 := tmod3 k
      have t2 := tdiv3 k
      have t3 := tmod3 d
      rw [hjk] at t1
      rw [hdk] at t2
      rw [hjd] at t3
      have HT := hid t3
      have HT2 := hid t2
      have HWR := hid (show IntKind.i64.wrap (d : Int) = (d : Int) from IntWalk.i64_in _ (by omega))
      have HL := hid (hqd.lay (ask_nm j hx32 (by omega) (by omega)))
      have HC := hid (⟨nm_cell (hqd.blk (List.mem_singleton.2 rfl)) (show j < 3 by omega), hcx, t1, t2, by omega, by omega⟩ : wd.cell? ⟨b, j, none⟩ = some (.string (strB (nm j))) ∧ (loadVar 32 ⟨a0, off + k * 32, none⟩).run Try.prog wd = .ok (.agg (bcells x)) wd ∧ Int.tmod (k : Int) 3 = (j : Int) ∧ Int.tdiv (k : Int) 3 = (d : Int) ∧ (j : Int) < 3 ∧ (k : Int) < 9223372036854775807)
      clear hcx hqd hwd t1 t2 t3 hjk hdk hjd
      go_wp2_with fail
      refine wp_region_invG 212 () (fg11Val s b a0 off n c k j d x q) (fun f _ W => WrS wd 10 (fun W' => Q2 w [(b, 9, nb3)] W' s (2 * k + 1) (addS q (nm (j), x) 7 true)) f W) (by kernel_rfl) (by kernel_rfl) (by exact Nat.le_refl 212) ?_ ?_ ?_
      · exact (by rw [HWD.out]; exact WrS.start 11 (by decide))
      · intro i o f gh a W hi hf hdep hsame hcl hval hS
        rcases i with _ | _ | _ | _ | _ | _ | _ | _ | _ | _ | _ | i
        all_goals simp only [List.getElem?_cons_succ, List.getElem?_cons_zero, List.getElem?_nil, Option.some.injEq, reduceCtorEq] at hi
        all_goals subst hi
        · have E6 : a.tmps[6]? = some (.pointer (some ⟨s, 0, none⟩)) := (same_of hsame 6 (by rfl)).trans rfl
          have n10 := not_yet hcl hf 10 (by rfl)
          obtain rfl := (hS.pre n10).symm
          refine g_plain rfl ?_
          exact does_value (w' := _) (v := .pointer (some ⟨s, 0, none⟩)) (by go_simp) ⟨(), .inr rfl, (hS.same 0 (by decide))⟩
        · have E8 : a.tmps[8]? = some (.slice (some ⟨b, 0, none⟩) 3 3) := (same_of hsame 8 (by rfl)).trans rfl
          have n4 := not_yet hcl hf 4 (by rfl)
          have n5 := not_yet hcl n4 5 (by rfl)
          have n10 := not_yet hcl n5 10 (by rfl)
          obtain rfl := (hS.pre n10).symm
          refine g_plain rfl ?_
          exact does_value (w' := _) (v := .slice (some ⟨b, 0, none⟩) 3 3) (by go_simp) ⟨(), .inr rfl, (hS.same 1 (by decide))⟩
        · have E9 : a.tmps[9]? = some (.int .i64 (k : Int)) := (same_of hsame 9 (by rfl)).trans rfl
          have n3 := not_yet hcl hf 3 (by rfl)
          have n4 := not_yet hcl n3 4 (by rfl)
          have n5 := not_yet hcl n4 5 (by rfl)
          have n10 := not_yet hcl n5 10 (by rfl)
          obtain rfl := (hS.pre n10).symm
          refine g_plain rfl ?_
          exact does_value (w' := _) (v := .int .i64 (k : Int)) (by go_simp) ⟨(), .inr rfl, (hS.same 2 (by decide))⟩
        · have E48 := hval 2 _ 48 rfl rfl (dep_of hdep 2 (by rfl))
          unfold fg11Val at E48
          have n4 := not_yet hcl hf 4 (by rfl)
          have n5 := not_yet hcl n4 5 (by rfl)
          have n10 := not_yet hcl n5 10 (by rfl)
          obtain rfl := (hS.pre n10).symm
          obtain ⟨cn, cx, hjt, hdt, hj3, hk3⟩ := HC.out
          refine g_plain rfl ?_
          exact does_value (w' := _) (v := .int .i64 ((j : Nat) : Int)) (by go_simp) ⟨(), .inr rfl, (hS.same 3 (by decide))⟩
        · have E47 := hval 1 _ 47 rfl rfl (dep_of hdep 1 (by rfl))
          have E49 := hval 3 _ 49 rfl rfl (dep_of hdep 3 (by rfl))
          unfold fg11Val at E47 E49
          have n5 := not_yet hcl hf 5 (by rfl)
          have n10 := not_yet hcl n5 10 (by rfl)
          obtain rfl := (hS.pre n10).symm
          obtain ⟨cn, cx, hjt, hdt, hj3, hk3⟩ := HC.out
          refine g_plain rfl ?_
          exact does_value (w' := _) (v := .pointer (some ⟨b, j, none⟩)) (by go_simp) ⟨(), .inr rfl, (hS.same 4 (by decide))⟩
        · have E50 := hval 4 _ 50 rfl rfl (dep_of hdep 4 (by rfl))
          unfold fg11Val at E50
          have n10 := not_yet hcl hf 10 (by rfl)
          obtain rfl := (hS.pre n10).symm
          obtain ⟨cn, cx, hjt, hdt, hj3, hk3⟩ := HC.out
          refine g_plain rfl ?_
          exact does_value (w' := _) (v := .string (strB (nm (j)))) (by go_simp) ⟨(), .inr rfl, (hS.same 5 (by decide))⟩
        · have E0 : a.tmps[0]? = some (.slice (some ⟨a0, off, none⟩) n c) := (same_of hsame 0 (by rfl)).trans rfl
          have n8 := not_yet hcl hf 8 (by rfl)
          have n9 := not_yet hcl n8 9 (by rfl)
          have n10 := not_yet hcl n9 10 (by rfl)
          obtain rfl := (hS.pre n10).symm
          refine g_plain rfl ?_
          exact does_value (w' := _) (v := .slice (some ⟨a0, off, none⟩) n c) (by go_simp) ⟨(), .inr rfl, (hS.same 6 (by decide))⟩
        · have E9 : a.tmps[9]? = some (.int .i64 (k : Int)) := (same_of hsame 9 (by rfl)).trans rfl
          have n8 := not_yet hcl hf 8 (by rfl)
          have n9 := not_yet hcl n8 9 (by rfl)
          have n10 := not_yet hcl n9 10 (by rfl)
          obtain rfl := (hS.pre n10).symm
          refine g_plain rfl ?_
          exact does_value (w' := _) (v := .int .i64 (k : Int)) (by go_simp) ⟨(), .inr rfl, (hS.same 7 (by decide))⟩
        · have E52 := hval 6 _ 52 rfl rfl (dep_of hdep 6 (by rfl))
          have E53 := hval 7 _ 53 rfl rfl (dep_of hdep 7 (by rfl))
          unfold fg11Val at E52 E53
          have n9 := not_yet hcl hf 9 (by rfl)
          have n10 := not_yet hcl n9 10 (by rfl)
          obtain rfl := (hS.pre n10).symm
          obtain ⟨cn, cx, hjt, hdt, hj3, hk3⟩ := HC.out
          refine g_plain rfl ?_
          exact does_value (w' := _) (v := .pointer (some ⟨a0, off + k * 32, none⟩)) (by go_simp) ⟨(), .inr rfl, (hS.same 8 (by decide))⟩
        · have E54 := hval 8 _ 54 rfl rfl (dep_of hdep 8 (by rfl))
          unfold fg11Val at E54
          have n10 := not_yet hcl hf 10 (by rfl)
          obtain rfl := (hS.pre n10).symm
          obtain ⟨cn, cx, hjt, hdt, hj3, hk3⟩ := HC.out
          refine g_plain rfl ?_
          exact does_load_run 32 _ rfl ⟨a0, off + k * 32, none⟩ _ (by rw [eval_getD, E54]; rfl) cx ⟨(), .inr rfl, (hS.same 9 (by decide))⟩
        · have E46 := hval 0 _ 46 rfl rfl (dep_of hdep 0 (by rfl))
          have E51 := hval 5 _ 51 rfl rfl (dep_of hdep 5 (by rfl))
          have E55 := hval 9 _ 55 rfl rfl (dep_of hdep 9 (by rfl))
          unfold fg11Val at E46 E51 E55
          refine g_plain rfl ?_
          obtain rfl := (hS.pre hf).symm
          refine does_call 13 #[.pointer (some ⟨s, 0, none⟩), .string (strB (nm (j))), .agg (bcells x), .int .i64 7] (by go_simp) (HL.out.mono ?_)
          rintro _ W' ⟨rfl, hq⟩
          exact ⟨_, rfl, (), .inr rfl, WrS.done hq⟩
      · intro gh w5 hS
        have hq5 := hS.post rfl
        have hqe := hq5.keep (Below.refl _ _).drew
        generalize hwe : w5.drew = we at hqe
        have HWD := hid hwe
        have hll2 := (hl.sev.lay j x).2.2.2.1
        obtain ⟨q2, hq2⟩ : ∃ q2, addS q (nm j, x) 7 true = q2 := ⟨_, rfl⟩
        rw [hq2] at hqe hll2
        have HQ2 := hid hq2
        have HLQ := hid hl
        have hcx := hcell_at hqe HC0 hx hx32
        have HL := hid (hqe.lay (ask_nm j2 hx32 (by omega) (by omega)))
        have HC := hid (⟨nm_cell (hqe.blk (List.mem_singleton.2 rfl)) (show j2 < 3 by have := HJ.out; omega), hcx, HT.out, HT2.out, by have := HJ.out; omega, by omega⟩ : we.cell? ⟨b, j2, none⟩ = some (.string (strB (nm j2))) ∧ (loadVar 32 ⟨a0, off + k * 32, none⟩).run Try.prog we = .ok (.agg (bcells x)) we ∧ Int.tmod (d : Int) 3 = (j2 : Int) ∧ Int.tdiv (k : Int) 3 = (d : Int) ∧ (j2 : Int) < 3 ∧ (k : Int) < 9223372036854775807)
        have HX := hid hx
        clear hcx hqe hwe hll2 hll hq2 hl hx hS hq5 hq
        simp only [putAll, fg11Val, Nat.reduceAdd, Nat.zero_add, Act.put, List.setIfInBounds_toArray, List.set_cons_zero, List.set_cons_succ]
        go_wp2_with fail
        refine wp_region_invG 212 () (fg12Val s b a0 off n c k j2 d x q2) (fun f _ W => WrS we 11 (fun W' => Q2 w [(b, 9, nb3)] W' s (2 * k + 1 + 1) (addS q2 (nm (j2), x) 7 true)) f W) (by kernel_rfl) (by kernel_rfl) (by exact Nat.le_refl 212) ?_ ?_ ?_
        · exact (by rw [HWD.out]; exact WrS.start 12 (by decide))
        · intro i o f gh a W hi hf hdep hsame hcl hval hS
          rcases i with _ | _ | _ | _ | _ | _ | _ | _ | _ | _ | _ | _ | i
          all_goals simp only [List.getElem?_cons_succ, List.getElem?_cons_zero, List.getElem?_nil, Option.some.injEq, reduceCtorEq] at hi
          all_goals subst hi
          · have E6 : a.tmps[6]? = some (.pointer (some ⟨s, 0, none⟩)) := (same_of hsame 6 (by rfl)).trans rfl
            have n11 := not_yet hcl hf 11 (by rfl)
            obtain rfl := (hS.pre n11).symm
            refine g_plain rfl ?_
            exact does_value (w' := _) (v := .pointer (some ⟨s, 0, none⟩)) (by go_simp) ⟨(), .inr rfl, (hS.same 0 (by decide))⟩
          · have E8 : a.tmps[8]? = some (.slice (some ⟨b, 0, none⟩) 3 3) := (same_of hsame 8 (by rfl)).trans rfl
            have n5 := not_yet hcl hf 5 (by rfl)
            have n6 := not_yet hcl n5 6 (by rfl)
            have n11 := not_yet hcl n6 11 (by rfl)
            obtain rfl := (hS.pre n11).symm
            refine g_plain rfl ?_
            exact does_value (w' := _) (v := .slice (some ⟨b, 0, none⟩) 3 3) (by go_simp) ⟨(), .inr rfl, (hS.same 1 (by decide))⟩
          · have E9 : a.tmps[9]? = some (.int .i64 (k : Int)) := (same_of hsame 9 (by rfl)).trans rfl
            have n3 := not_yet hcl hf 3 (by rfl)
            have n4 := not_yet hcl n3 4 (by rfl)
            have n5 := not_yet hcl n4 5 (by rfl)
            have n6 := not_yet hcl n5 6 (by rfl)
            have n11 := not_yet hcl n6 11 (by rfl)
            obtain rfl := (hS.pre n11).symm
            refine g_plain rfl ?_
            exact does_value (w' := _) (v := .int .i64 (k : Int)) (by go_simp) ⟨(), .inr rfl, (hS.same 2 (by decide))⟩
          · have E59 := hval 2 _ 59 rfl rfl (dep_of hdep 2 (by rfl))
            unfold fg12Val at E59
            have n4 := not_yet hcl hf 4 (by rfl)
            have n5 := not_yet hcl n4 5 (by rfl)
            have n6 := not_yet hcl n5 6 (by rfl)
            have n11 := not_yet hcl n6 11 (by rfl)
            obtain rfl := (hS.pre n11).symm
            obtain ⟨cn, cx, hjt, hdt, hj3, hk3⟩ := HC.out
            have hwr := HWR.out
            refine g_plain rfl ?_
            exact does_value (w' := _) (v := .int .i64 (d : Int)) (by go_simp) ⟨(), .inr rfl, (hS.same 3 (by decide))⟩
          · have E60 := hval 3 _ 60 rfl rfl (dep_of hdep 3 (by rfl))
            unfold fg12Val at E60
            have n5 := not_yet hcl hf 5 (by rfl)
            have n6 := not_yet hcl n5 6 (by rfl)
            have n11 := not_yet hcl n6 11 (by rfl)
            obtain rfl := (hS.pre n11).symm
            obtain ⟨cn, cx, hjt, hdt, hj3, hk3⟩ := HC.out
            refine g_plain rfl ?_
            exact does_value (w' := _) (v := .int .i64 ((j2 : Nat) : Int)) (by go_simp) ⟨(), .inr rfl, (hS.same 4 (by decide))⟩
          · have E58 := hval 1 _ 58 rfl rfl (dep_of hdep 1 (by rfl))
            have E61 := hval 4 _ 61 rfl rfl (dep_of hdep 4 (by rfl))
            unfold fg12Val at E58 E61
            have n6 := not_yet hcl hf 6 (by rfl)
            have n11 := not_yet hcl n6 11 (by rfl)
            obtain rfl := (hS.pre n11).symm
            obtain ⟨cn, cx, hjt, hdt, hj3, hk3⟩ := HC.out
            refine g_plain rfl ?_
            exact does_value (w' := _) (v := .pointer (some ⟨b, j2, none⟩)) (by go_simp) ⟨(), .inr rfl, (hS.same 5 (by decide))⟩
          · have E62 := hval 5 _ 62 rfl rfl (dep_of hdep 5 (by rfl))
            unfold fg12Val at E62
            have n11 := not_yet hcl hf 11 (by rfl)
            obtain rfl := (hS.pre n11).symm
            obtain ⟨cn, cx, hjt, hdt, hj3, hk3⟩ := HC.out
            refine g_plain rfl ?_
            exact does_value (w' := _) (v := .string (strB (nm (j2)))) (by go_simp) ⟨(), .inr rfl, (hS.same 6 (by decide))⟩
          · have E0 : a.tmps[0]? = some (.slice (some ⟨a0, off, none⟩) n c) := (same_of hsame 0 (by rfl)).trans rfl
            have n9 := not_yet hcl hf 9 (by rfl)
            have n10 := not_yet hcl n9 10 (by rfl)
            have n11 := not_yet hcl n10 11 (by rfl)
            obtain rfl := (hS.pre n11).symm
            refine g_plain rfl ?_
            exact does_value (w' := _) (v := .slice (some ⟨a0, off, none⟩) n c) (by go_simp) ⟨(), .inr rfl, (hS.same 7 (by decide))⟩
          · have E9 : a.tmps[9]? = some (.int .i64 (k : Int)) := (same_of hsame 9 (by rfl)).trans rfl
            have n9 := not_yet hcl hf 9 (by rfl)
            have n10 := not_yet hcl n9 10 (by rfl)
            have n11 := not_yet hcl n10 11 (by rfl)
            obtain rfl := (hS.pre n11).symm
            refine g_plain rfl ?_
            exact does_value (w' := _) (v := .int .i64 (k : Int)) (by go_simp) ⟨(), .inr rfl, (hS.same 8 (by decide))⟩
          · have E64 := hval 7 _ 64 rfl rfl (dep_of hdep 7 (by rfl))
            have E65 := hval 8 _ 65 rfl rfl (dep_of hdep 8 (by rfl))
            unfold fg12Val at E64 E65
            have n10 := not_yet hcl hf 10 (by rfl)
            have n11 := not_yet hcl n10 11 (by rfl)
            obtain rfl := (hS.pre n11).symm
            obtain ⟨cn, cx, hjt, hdt, hj3, hk3⟩ := HC.out
            refine g_plain rfl ?_
            exact does_value (w' := _) (v := .pointer (some ⟨a0, off + k * 32, none⟩)) (by go_simp) ⟨(), .inr rfl, (hS.same 9 (by decide))⟩
          · have E66 := hval 9 _ 66 rfl rfl (dep_of hdep 9 (by rfl))
            unfold fg12Val at E66
            have n11 := not_yet hcl hf 11 (by rfl)
            obtain rfl := (hS.pre n11).symm
            obtain ⟨cn, cx, hjt, hdt, hj3, hk3⟩ := HC.out
            refine g_plain rfl ?_
            exact does_load_run 32 _ rfl ⟨a0, off + k * 32, none⟩ _ (by rw [eval_getD, E66]; rfl) cx ⟨(), .inr rfl, (hS.same 10 (by decide))⟩
          · have E57 := hval 0 _ 57 rfl rfl (dep_of hdep 0 (by rfl))
            have E63 := hval 6 _ 63 rfl rfl (dep_of hdep 6 (by rfl))
            have E67 := hval 10 _ 67 rfl rfl (dep_of hdep 10 (by rfl))
            unfold fg12Val at E57 E63 E67
            refine g_plain rfl ?_
            obtain rfl := (hS.pre hf).symm
            refine does_call 13 #[.pointer (some ⟨s, 0, none⟩), .string (strB (nm (j2))), .agg (bcells x), .int .i64 7] (by go_simp) (HL.out.mono ?_)
            rintro _ W' ⟨rfl, hq⟩
            exact ⟨_, rfl, (), .inr rfl, WrS.done hq⟩
        · intro gh w6 hS
          have HRel := hid (show ∃ q, Q2 w [(b, 9, nb3)] w6 s (2 * (k + 1)) q ∧ LaidQ ids (k + 1) q from ⟨_, (hS.post rfl).mono (by omega), by
            have h := HLQ.out.step HX.out
            obtain ⟨e1, e2, e3⟩ := HJ.out
            rw [e2, e3, e1, HQ2.out] at h
            exact h⟩)
          clear hS HL HC HLQ HX HQ2 HJ HT HT2
          simp only [putAll, fg12Val, Nat.reduceAdd, Nat.zero_add, Act.put, List.setIfInBounds_toArray, List.set_cons_zero, List.set_cons_succ]
          go_wp2_with fail
          go_roundw
          case rel => exact ⟨k + 1, by go_num, by omega, HRel⟩
          case measure => simp [intOf]; omega
    · obtain rfl : k = n := by omega
      obtain ⟨⟨lim, l⟩, hq, hl⟩ := HW.out
      have hlim : lim = 1099511627776 := hl.lim
      obtain ⟨j, hj, hjn⟩ : ∃ j : Nat, which % (k : Int) = (j : Int) ∧ j < k := by
        have h1 := Int.emod_nonneg which (show (k : Int) ≠ 0 by omega)
        have h2 := Int.emod_lt_of_pos which (show 0 < (k : Int) by omega)
        exact ⟨(which % (k : Int)).toNat, by omega, by omega⟩
      obtain ⟨x, hx⟩ : ∃ x, ids[j]? = some x := ⟨ids[j]'(by have := HLen.out; omega), List.getElem?_eq_getElem _⟩
      have hx32 := H32.out x (List.mem_of_getElem? hx)
      have HCX := hid (hcell_at hq HC0 hx hx32)
      have hz := (zero_of_info info26).1
      have HSZ := hid (size32 hx32)
      have EF : Hid ((Try.prog.info? 32).map (·.size) = some (bcells x).size) := hid (size32 hx32)
      have EZ : Hid ((bcells (zeroB 32)).size = (bcells x).size) := hid (by rw [bcells_size, bcells_size, hx32]; rfl)
      have K3 := hid (Blk.new wr 32 (bcells (zeroB 32)))
      obtain ⟨q1, q2⟩ := new_set wr 32 (bcells (zeroB 32)) (bcells x)
      have hqn := hq.hold q1 (Nat.le_refl _) q2
      have HL := hid hl
      have HX32 := hid hx32
      have HP := hid (fun W => qpick_calls which (k : Int) W (by omega) (by omega))
      rw [hj] at HP
      have hjk : (j : Int) < (k : Int) := by omega
      clear q1 q2 hq hl hx hx32 hj HW
      go_wp2_with fail
      refine (HP.out _).mono ?_
      rintro _ _ ⟨rfl, rfl⟩
      clear HP
      go_wp2_with (first | (refine wpList_load_run rfl 32 _ rfl ⟨a0, off + j * 32, none⟩ (.agg (bcells x)) rfl HCX.out ?_) | (refine wpList_store_blk rfl 32 _ _ rfl wr.heap.size (bcells x) rfl rfl 32 _ K3.out EF.out EZ.out (bcells_oneCell _) ?_))
      clear hz K3 EZ
      generalize World.setRow (wr.alloc (.cells (bcells (zeroB 32)) 32)) wr.heap.size (bcells x) = w7 at hqn ⊢
      generalize wr.heap.size = g0 at hqn ⊢
      have HQ7 := hid hqn
      clear hqn
      have HB7 := hid (HQ7.out.blk (p := (b, 9, nb3)) (by simp))
      have HM := hid (⟨many_bounds l x, fun m => was_bounds (lim := lim) HQ7.out.ok m, HQ7.out.ok.sum⟩ : (∀ m, 0 ≤ manyS l x m ∧ manyS l x m ≤ m) ∧ (∀ m, 0 ≤ wasS l m ∧ wasS l m ≤ 268435456 * (m : Int)) ∧ ∀ r, 0 ≤ sumQ l r ∧ sumQ l r ≤ 268435456)
      go_loopw [11, 12, 13] (fun v11 v12 v13 wr => ∃ m : Nat, v11 = .int .i64 (wasS l m) ∧ v12 = .int .i64 (manyS l x m) ∧ v13 = .int .i64 (m : Int) ∧ m ≤ 3 ∧ Hid (Q2 w [(g0, 32, bcells x), (b, 9, nb3)] wr s (2 * k) ⟨lim, l⟩)) (fun _ _ v13 _ => 3 - (intOf v13).toNat)
      case atStart => exact ⟨0, rfl, rfl, rfl, by omega, HQ7⟩
      case round =>
        obtain ⟨m, rfl, rfl, rfl, hm, HW⟩ := hrel
        by_cases hlt : m < 3
        · have hlt' : (m : Int) < 3 := by omega
          have cn := nm_cell (HW.out.blk (p := (b, 9, nb3)) (by simp)) hlt
          have HU := hid (HW.out.use (nm m) (nm_max m))
          have hw : IntKind.i64.wrap (wasS l m + sumQ l (nm m)) = wasS l m + sumQ l (nm m) := IntWalk.i64_in _ (by have := HM.out.2.1 m; have := HM.out.2.2 (nm m); omega)
          have hw2 : IntKind.i64.wrap (manyS l x m + 1) = manyS l x m + 1 := IntWalk.i64_in _ (by have := HM.out.1 m; omega)
          have HW2 := hid hw2
          have HWW := hid hw
          clear hw2
          go_wp2_with fail
          refine HU.out.mono ?_
          rintro _ _ ⟨rfl, rfl⟩
          clear HU
          have HK3 := hid hlt'
          obtain ⟨hv, ehv⟩ : ∃ hv, (szQ l (nm m, x)).isSome = hv := ⟨_, rfl⟩
          have HH := hid (fun W (hb : Below wr.heap.size wr W) => by
            have := (HW.out.keep hb).has (nm m, x) ⟨nm_max m, HX32.out⟩
            rw [ehv] at this
            exact this)
          have HC := hid (fun W (hb : Below wr.heap.size wr W) => (⟨nm_cell ((HW.out.keep hb).blk (p := (b, 9, nb3)) (by simp)) hlt, (HW.out.keep hb).blk (p := (g0, 32, bcells x)) (by simp)⟩ : W.cell? ⟨b, m, none⟩ = some (.string (strB (nm m))) ∧ Blk W g0 32 (bcells x)))
          have HEV := hid ehv
          clear ehv cn
          go_wp2_with fail
          clear hw
          refine wp_region_invG 212 () (fg19Val s b g0 m x hv) (fun _ _ W => Below wr.heap.size wr W) (by kernel_rfl) (by kernel_rfl) (by exact Nat.le_refl 212) ?_ ?_ ?_
          · exact (Below.refl _ _).drew
          · intro i o f gh a W hi hf hdep hsame hcl hval hS
            rcases i with _ | _ | _ | _ | _ | _ | _ | i
            all_goals simp only [List.getElem?_cons_succ, List.getElem?_cons_zero, List.getElem?_nil, Option.some.injEq, reduceCtorEq] at hi
            all_goals subst hi
            · have E6 : a.tmps[6]? = some (.pointer (some ⟨s, 0, none⟩)) := (same_of hsame 6 (by rfl)).trans rfl
              refine g_plain rfl ?_
              exact does_value (w' := W) (v := .pointer (some ⟨s, 0, none⟩)) (by go_simp) ⟨(), .inr rfl, hS⟩
            · have E8 : a.tmps[8]? = some (.slice (some ⟨b, 0, none⟩) 3 3) := (same_of hsame 8 (by rfl)).trans rfl
              refine g_plain rfl ?_
              exact does_value (w' := W) (v := .slice (some ⟨b, 0, none⟩) 3 3) (by go_simp) ⟨(), .inr rfl, hS⟩
            · have E13 : a.tmps[13]? = some (.int .i64 (m : Int)) := (same_of hsame 13 (by rfl)).trans rfl
              refine g_plain rfl ?_
              exact does_value (w' := W) (v := .int .i64 (m : Int)) (by go_simp) ⟨(), .inr rfl, hS⟩
            · have E89 := hval 1 _ 89 rfl rfl (dep_of hdep 1 (by rfl))
              have E90 := hval 2 _ 90 rfl rfl (dep_of hdep 2 (by rfl))
              unfold fg19Val at E89 E90
              have hk3 := HK3.out
              refine g_plain rfl ?_
              exact does_value (w' := W) (v := .pointer (some ⟨b, m, none⟩)) (by go_simp) ⟨(), .inr rfl, hS⟩
            · have E91 := hval 3 _ 91 rfl rfl (dep_of hdep 3 (by rfl))
              unfold fg19Val at E91
              obtain ⟨cn, cx⟩ := HC.out W hS
              refine g_plain rfl ?_
              exact does_value (w' := W) (v := .string (strB (nm m))) (by go_simp) ⟨(), .inr rfl, hS⟩
            · have E10 : a.tmps[10]? = some (.pointer (some ⟨g0, 0, none⟩)) := (same_of hsame 10 (by rfl)).trans rfl
              obtain ⟨cn, cx⟩ := HC.out W hS
              refine g_plain rfl ?_
              exact does_load _ _ rfl g0 (by rw [eval_getD, E10]; rfl) _ cx _ Try.underlying32 rfl HSZ.out ⟨(), .inr rfl, hS⟩
            · have E88 := hval 0 _ 88 rfl rfl (dep_of hdep 0 (by rfl))
              have E92 := hval 4 _ 92 rfl rfl (dep_of hdep 4 (by rfl))
              have E93 := hval 5 _ 93 rfl rfl (dep_of hdep 5 (by rfl))
              unfold fg19Val at E88 E92 E93
              refine g_plain rfl ?_
              refine does_call 21 #[.pointer (some ⟨s, 0, none⟩), .string (strB (nm m)), .agg (bcells x)] (by go_simp) ((HH.out W hS).mono ?_)
              rintro _ W' ⟨rfl, hb⟩
              exact ⟨_, rfl, (), .inr rfl, hS.trans (hb.mono hS.size)⟩
          · intro gh w8 hS
            have HQ8 := hid (HW.out.keep hS)
            clear hS HC HH HW
            simp only [putAll, fg19Val, Nat.reduceAdd, Nat.zero_add, Act.put, List.setIfInBounds_toArray, List.set_cons_zero, List.set_cons_succ]
            cases hv
            · have HE := hid (show manyS l x (m + 1) = manyS l x m from by
                show manyS l x m + (if _ then _ else _) = _
                rw [HEV.out]; simp)
              clear HEV
              go_wp2_with fail
              go_roundw
              case rel => exact ⟨m + 1, rfl, by rw [HE.out], by go_num, by omega, HQ8⟩
              case measure => simp [intOf]; omega
            · have HE := hid (show manyS l x (m + 1) = manyS l x m + 1 from by
                show manyS l x m + (if _ then _ else _) = _
                rw [HEV.out]; simp)
              have hw2 := HW2.out
              clear HEV
              go_wp2_with fail
              go_roundw
              case rel => exact ⟨m + 1, rfl, by rw [HE.out], by go_num, by omega, HQ8⟩
              case measure => simp [intOf]; omega
        · obtain rfl : m = 3 := by omega
          have hok := HW.out.ok
          have HFin := hid (was_forg hok.nodup HL.out.sev x 3)
          have hlen := many_len hok.nodup HL.out.sev x
          obtain ⟨hD1, hD2⟩ := link_d HL.out.sev hlim x
          obtain ⟨hd1, hd2⟩ := HL.out.sev.d x
          have hll := HL.out.len
          have HLK := hid (HW.out.link (r := [100]) (id := x) (sz := 3) ⟨by decide, HX32.out, isR_d, by omega, by omega, by dsimp only at hll ⊢; omega⟩)
          dsimp only at HLK
          rw [hD1, hD2] at HLK
          unfold resV at HLK
          have hbx := HW.out.blk (p := (g0, 32, bcells x)) (by simp)
          have HBX := hid hbx
          have hd3 : szQ (l ++ [(([100], x), 3)]) ([100], x) = some 3 := by rw [szQ_app 3 hd1, if_pos rfl]
          have hd4 : sumQ (l ++ [(([100], x), 3)]) [100] = 3 := by
            have := sumQ_app l ([100], x) 3
            dsimp only at this
            rw [this, hd2]; rfl
          have HD := hid (⟨hd1, hd2, hd3, hd4, del_app hd1, del_none hd1⟩ : szQ l ([100], x) = none ∧ sumQ l [100] = 0 ∧ szQ (l ++ [(([100], x), 3)]) ([100], x) = some 3 ∧ sumQ (l ++ [(([100], x), 3)]) [100] = 3 ∧ delQ (l ++ [(([100], x), 3)]) ([100], x) = l ∧ delQ l ([100], x) = l)
          have HLen2 := hid hlen
          have HMB := hid (⟨HM.out.1 3, HM.out.2.1 3⟩ : (0 ≤ manyS l x 3 ∧ manyS l x 3 ≤ (3 : Nat)) ∧ (0 ≤ wasS l 3 ∧ wasS l 3 ≤ 268435456 * ((3 : Nat) : Int)))
          clear hok hlen hD1 hD2 hd1 hd2 hd3 hd4 hll hbx HM HW hlt hm
          generalize hwas : wasS l 3 = was at *
          generalize hmany : manyS l x 3 = many at *
          go_wp2_with (refine wpList_load_row rfl 32 _ rfl _ rfl _ _ _ _ HBX.out Try.underlying32 rfl HSZ.out ?_)
          refine HLK.out.mono ?_
          rintro _ w8 ⟨rfl, h8⟩
          have HQ8 := hid h8
          have HBX := hid (h8.blk (p := (g0, 32, bcells x)) (by simp))
          have HU8 := hid (h8.use [100] (by unfold maxLen; decide))
          have HUN := hid (h8.unlink [100] x ⟨show ([100] : List UInt8).length ≤ maxLen by unfold maxLen; decide, HX32.out⟩)
          dsimp only at HU8 HUN
          rw [HD.out.2.2.2.1] at HU8
          rw [HD.out.2.2.1, HD.out.2.2.2.2.1, Option.isSome_some] at HUN
          clear h8 HLK HQ8
          go_wp2_with fail
          refine HU8.out.mono ?_
          rintro _ _ ⟨rfl, rfl⟩
          clear HU8
          go_wp2_with (refine wpList_load_blk_g (by rfl) 32 _ rfl g0 rfl _ _ HBX.out _ _ Try.underlying32 HSZ.out ?_)
          refine HUN.out.mono ?_
          rintro _ w9 ⟨rfl, h9⟩
          have HBX := hid (h9.blk (p := (g0, 32, bcells x)) (by simp))
          have HUN := hid (h9.unlink [100] x ⟨show ([100] : List UInt8).length ≤ maxLen by unfold maxLen; decide, HX32.out⟩)
          dsimp only at HUN
          rw [HD.out.1, HD.out.2.2.2.2.2, Option.isSome_none] at HUN
          clear h9
          go_wp2_with (refine wpList_load_blk_g (by rfl) 32 _ rfl g0 rfl _ _ HBX.out _ _ Try.underlying32 HSZ.out ?_)
          refine HUN.out.mono ?_
          rintro _ w10 ⟨rfl, h10⟩
          have HBX := hid (h10.blk (p := (g0, 32, bcells x)) (by simp))
          have HU8 := hid (h10.use [100] (by unfold maxLen; decide))
          have HF := hid (h10.forget x HX32.out)
          dsimp only at HU8 HF
          rw [HD.out.2.1] at HU8
          rw [HLen2.out] at HF
          clear h10 HUN
          go_wp2_with fail
          refine HU8.out.mono ?_
          rintro _ _ ⟨rfl, rfl⟩
          clear HU8
          go_wp2_with (refine wpList_load_blk_g (by rfl) 32 _ rfl g0 rfl _ _ HBX.out _ _ Try.underlying32 HSZ.out ?_)
          refine HF.out.mono ?_
          rintro _ w11 ⟨rfl, h11⟩
          have h11 : Q2 w [(g0, 32, bcells x), (b, 9, nb3)] w11 s (2 * k + 1) ⟨lim, forg l x⟩ := h11
          have HBX := hid (h11.blk (p := (g0, 32, bcells x)) (by simp))
          have HF := hid (h11.forget x HX32.out)
          dsimp only at HF
          rw [many_zero, forg_forg] at HF
          clear h11
          go_wp2_with (refine wpList_load_blk_g (by rfl) 32 _ rfl g0 rfl _ _ HBX.out _ _ Try.underlying32 HSZ.out ?_)
          refine HF.out.mono ?_
          rintro _ w12 ⟨rfl, h12⟩
          rw [show ((0 : Nat) : Int) = 0 from rfl]
          have HQ12 := hid h12
          clear h12 HF HBX
          go_wp2_with fail
          have HM := hid (⟨fun m => was_bounds (lim := lim) HQ12.out.ok m, HQ12.out.ok.sum⟩ : (∀ m, 0 ≤ wasS (forg l x) m ∧ wasS (forg l x) m ≤ 268435456 * (m : Int)) ∧ ∀ r, 0 ≤ sumQ (forg l x) r ∧ sumQ (forg l x) r ≤ 268435456)
          go_loopw [4, 16, 17] (fun v4 v16 v17 wr => ∃ m : Nat, v4 = .bool false ∧ v16 = .int .i64 (wasS (forg l x) m) ∧ v17 = .int .i64 (m : Int) ∧ m ≤ 3 ∧ Hid (Q2 w [(g0, 32, bcells x), (b, 9, nb3)] wr s (2 * k + 1) ⟨lim, forg l x⟩)) (fun _ _ v17 _ => 3 - (intOf v17).toNat)
          case atStart => exact ⟨0, rfl, rfl, rfl, by omega, HQ12⟩
          case round =>
            obtain ⟨m, rfl, rfl, rfl, hm, HW⟩ := hrel
            by_cases hlt : m < 3
            · have hlt' : (m : Int) < 3 := by omega
              have cn := nm_cell (HW.out.blk (p := (b, 9, nb3)) (by simp)) hlt
              have HU := hid (HW.out.use (nm m) (nm_max m))
              have hw : IntKind.i64.wrap (wasS (forg l x) m + sumQ (forg l x) (nm m)) = wasS (forg l x) m + sumQ (forg l x) (nm m) := IntWalk.i64_in _ (by have := HM.out.1 m; have := HM.out.2 (nm m); omega)
              dsimp only at HU
              go_wp2_with fail
              refine HU.out.mono ?_
              rintro _ _ ⟨rfl, rfl⟩
              clear HU
              have HK3 := hid hlt'
              have HH := hid (fun W (hb : Below wr.heap.size wr W) => by
                have := (HW.out.keep hb).has (nm m, x) ⟨nm_max m, HX32.out⟩
                dsimp only at this
                rw [szQ_fg, if_pos rfl, Option.isSome_none] at this
                exact this)
              have HC := hid (fun W (hb : Below wr.heap.size wr W) => (⟨nm_cell ((HW.out.keep hb).blk (p := (b, 9, nb3)) (by simp)) hlt, (HW.out.keep hb).blk (p := (g0, 32, bcells x)) (by simp)⟩ : W.cell? ⟨b, m, none⟩ = some (.string (strB (nm m))) ∧ Blk W g0 32 (bcells x)))
              clear cn
              go_wp2_with fail
              clear hw
              refine wp_region_invG 212 () (fg29Val s b g0 m x false) (fun _ _ W => Below wr.heap.size wr W) (by kernel_rfl) (by kernel_rfl) (by exact Nat.le_refl 212) ?_ ?_ ?_
              · exact (Below.refl _ _).drew
              · intro i o f gh a W hi hf hdep hsame hcl hval hS
                rcases i with _ | _ | _ | _ | _ | _ | _ | i
                all_goals simp only [List.getElem?_cons_succ, List.getElem?_cons_zero, List.getElem?_nil, Option.some.injEq, reduceCtorEq] at hi
                all_goals subst hi
                · have E6 : a.tmps[6]? = some (.pointer (some ⟨s, 0, none⟩)) := (same_of hsame 6 (by rfl)).trans rfl
                  refine g_plain rfl ?_
                  exact does_value (w' := W) (v := .pointer (some ⟨s, 0, none⟩)) (by go_simp) ⟨(), .inr rfl, hS⟩
                · have E8 : a.tmps[8]? = some (.slice (some ⟨b, 0, none⟩) 3 3) := (same_of hsame 8 (by rfl)).trans rfl
                  refine g_plain rfl ?_
                  exact does_value (w' := W) (v := .slice (some ⟨b, 0, none⟩) 3 3) (by go_simp) ⟨(), .inr rfl, hS⟩
                · have E17 : a.tmps[17]? = some (.int .i64 (m : Int)) := (same_of hsame 17 (by rfl)).trans rfl
                  refine g_plain rfl ?_
                  exact does_value (w' := W) (v := .int .i64 (m : Int)) (by go_simp) ⟨(), .inr rfl, hS⟩
                · have E156 := hval 1 _ 156 rfl rfl (dep_of hdep 1 (by rfl))
                  have E157 := hval 2 _ 157 rfl rfl (dep_of hdep 2 (by rfl))
                  unfold fg29Val at E156 E157
                  have hk3 := HK3.out
                  refine g_plain rfl ?_
                  exact does_value (w' := W) (v := .pointer (some ⟨b, m, none⟩)) (by go_simp) ⟨(), .inr rfl, hS⟩
                · have E158 := hval 3 _ 158 rfl rfl (dep_of hdep 3 (by rfl))
                  unfold fg29Val at E158
                  obtain ⟨cn, cx⟩ := HC.out W hS
                  refine g_plain rfl ?_
                  exact does_value (w' := W) (v := .string (strB (nm m))) (by go_simp) ⟨(), .inr rfl, hS⟩
                · have E10 : a.tmps[10]? = some (.pointer (some ⟨g0, 0, none⟩)) := (same_of hsame 10 (by rfl)).trans rfl
                  obtain ⟨cn, cx⟩ := HC.out W hS
                  refine g_plain rfl ?_
                  exact does_load _ _ rfl g0 (by rw [eval_getD, E10]; rfl) _ cx _ Try.underlying32 rfl HSZ.out ⟨(), .inr rfl, hS⟩
                · have E155 := hval 0 _ 155 rfl rfl (dep_of hdep 0 (by rfl))
                  have E159 := hval 4 _ 159 rfl rfl (dep_of hdep 4 (by rfl))
                  have E160 := hval 5 _ 160 rfl rfl (dep_of hdep 5 (by rfl))
                  unfold fg29Val at E155 E159 E160
                  refine g_plain rfl ?_
                  refine does_call 21 #[.pointer (some ⟨s, 0, none⟩), .string (strB (nm m)), .agg (bcells x)] (by go_simp) ((HH.out W hS).mono ?_)
                  rintro _ W' ⟨rfl, hb⟩
                  exact ⟨_, rfl, (), .inr rfl, hS.trans (hb.mono hS.size)⟩
              · intro gh w13 hS
                have HQ13 := hid (HW.out.keep hS)
                clear hS HC HH HW
                simp only [putAll, fg29Val, Nat.reduceAdd, Nat.zero_add, Act.put, List.setIfInBounds_toArray, List.set_cons_zero, List.set_cons_succ]
                go_wp2_with fail
                go_roundw
                case rel => exact ⟨m + 1, rfl, rfl, by go_num, by omega, HQ13⟩
                case measure => simp [intOf]; omega
            · obtain rfl : m = 3 := by omega
              have HNB := hid (HM.out.1 3)
              clear HM
              rw [show ((3 : Nat) : Int) = 3 from rfl]
              generalize hnow : wasS (forg l x) 3 = now at *
              go_wp2_with fail
              go_loopw [4, 18] (fun v4 v18 wr => ∃ t : Nat, v4 = .bool false ∧ v18 = .int .i64 (t : Int) ∧ t ≤ k ∧ Hid (Q2 w [(g0, 32, bcells x), (b, 9, nb3)] wr s (2 * k + 1) ⟨lim, forg l x⟩)) (fun _ v18 _ => k - (intOf v18).toNat)
              case atStart => exact ⟨0, rfl, rfl, Nat.zero_le _, HW⟩
              case round =>
                obtain ⟨t, rfl, rfl, ht, HW⟩ := hrel
                by_cases hlt : t < k
                · have hlt' : (t : Int) < (k : Int) := by omega
                  obtain ⟨y, hy⟩ : ∃ y, ids[t]? = some y := ⟨ids[t]'(by have := HLen.out; omega), List.getElem?_eq_getElem _⟩
                  have hy32 := H32.out y (List.mem_of_getElem? hy)
                  have HX := hid (HW.out.blk (p := (g0, 32, bcells x)) (by simp))
                  obtain ⟨j, hjk⟩ : ∃ j, t % 3 = j := ⟨_, rfl⟩
                  obtain ⟨d, hdk⟩ : ∃ d, t / 3 = d := ⟨_, rfl⟩
                  obtain ⟨j2, hjd⟩ : ∃ j2, d % 3 = j2 := ⟨_, rfl⟩
                  have t1 := tmod3 t
                  have t2 := tdiv3 t
                  have t3 := tmod3 d
                  rw [hjk] at t1
                  rw [hdk] at t2
                  rw [hjd] at t3
                  have HWR := hid (show IntKind.i64.wrap (d : Int) = (d : Int) from IntWalk.i64_in _ (by omega))
                  have HC := hid (⟨t1, t2, t3, by omega, by omega, by omega⟩ : Int.tmod (t : Int) 3 = (j : Int) ∧ Int.tdiv (t : Int) 3 = (d : Int) ∧ Int.tmod (d : Int) 3 = (j2 : Int) ∧ (j : Int) < 3 ∧ (j2 : Int) < 3 ∧ (t : Int) < 9223372036854775807)
                  have HN := hid (fun W (hb : Below wr.heap.size wr W) => (⟨nm_cell ((HW.out.keep hb).blk (p := (b, 9, nb3)) (by simp)) (show j < 3 by omega), nm_cell ((HW.out.keep hb).blk (p := (b, 9, nb3)) (by simp)) (show j2 < 3 by omega)⟩ : W.cell? ⟨b, j, none⟩ = some (.string (strB (nm j))) ∧ W.cell? ⟨b, j2, none⟩ = some (.string (strB (nm j2)))))
                  by_cases e : y = x
                  · rw [e] at hy
                    have HLd := hid (fun W (hb : Below wr.heap.size wr W) => hcell_at (HW.out.keep hb) HC0 hy HX32.out)
                    have HEQ := hid (show ∀ W, (Op.equalIn 10000 32 (.agg (bcells x)) (.agg (bcells x))).run Try.prog W = .ok true W from fun W => by
                      have := run_equal_arr (P := Try.prog) 32 5 32 Try.underlying32 Try.underlying5 (by kernel_rfl) x x HX32.out HX32.out W
                      rw [beq_self_eq_true] at this
                      exact this)
                    clear hy hy32 t1 t2 t3 hjk hdk hjd
                    go_wp2_with fail
                    refine wp_region_invG 212 () (fg34sVal s b a0 off k c t g0 j d j2 x x) (fun _ _ W => Below wr.heap.size wr W) (by kernel_rfl) (by kernel_rfl) (by exact Nat.le_refl 212) ?_ ?_ ?_
                    · exact (Below.refl _ _).drew
                    · intro i o f gh a W hi hf hdep hsame hcl hval hS
                      rcases i with _ | _ | _ | _ | _ | _ | _ | _ | _ | _ | _ | _ | _ | _ | _ | _ | _ | _ | _ | _ | _ | _ | _ | _ | _ | _ | _ | _ | _ | _ | _ | _ | _ | _ | _ | i
                      all_goals simp only [List.getElem?_cons_succ, List.getElem?_cons_zero, List.getElem?_nil, Option.some.injEq, reduceCtorEq] at hi
                      all_goals subst hi
                      · have E0 : a.tmps[0]? = some (.slice (some ⟨a0, off, none⟩) k c) := (same_of hsame 0 (by rfl)).trans rfl
                        refine g_plain rfl ?_
                        exact does_value (w' := W) (v := .slice (some ⟨a0, off, none⟩) k c) (by go_simp) ⟨(), .inr rfl, hS⟩
                      · have E18 : a.tmps[18]? = some (.int .i64 (t : Int)) := (same_of hsame 18 (by rfl)).trans rfl
                        refine g_plain rfl ?_
                        exact does_value (w' := W) (v := .int .i64 (t : Int)) (by go_simp) ⟨(), .inr rfl, hS⟩
                      · have E168 := hval 0 _ 168 rfl rfl (dep_of hdep 0 (by rfl))
                        have E169 := hval 1 _ 169 rfl rfl (dep_of hdep 1 (by rfl))
                        unfold fg34sVal at E168 E169
                        obtain ⟨t1, t2, t3, hj3, hj23, hk3⟩ := HC.out
                        refine g_plain rfl ?_
                        exact does_value (w' := W) (v := .pointer (some ⟨a0, off + t * 32, none⟩)) (by go_simp) ⟨(), .inr rfl, hS⟩
                      · have E170 := hval 2 _ 170 rfl rfl (dep_of hdep 2 (by rfl))
                        unfold fg34sVal at E170
                        refine g_plain rfl ?_
                        exact does_load_run 32 _ rfl ⟨a0, off + t * 32, none⟩ _ (by rw [eval_getD, E170]; rfl) (HLd.out W hS) ⟨(), .inr rfl, hS⟩
                      · have E10 : a.tmps[10]? = some (.pointer (some ⟨g0, 0, none⟩)) := (same_of hsame 10 (by rfl)).trans rfl
                        refine g_plain rfl ?_
                        exact does_load _ _ rfl g0 (by rw [eval_getD, E10]; rfl) _ (HX.out.keep hS) _ Try.underlying32 rfl HSZ.out ⟨(), .inr rfl, hS⟩
                      · have E171 := hval 3 _ 171 rfl rfl (dep_of hdep 3 (by rfl))
                        have E172 := hval 4 _ 172 rfl rfl (dep_of hdep 4 (by rfl))
                        unfold fg34sVal at E171 E172
                        have heq := HEQ.out W
                        refine g_plain rfl ?_
                        exact does_value (w' := W) (v := .bool false) (by go_simp) ⟨(), .inr rfl, hS⟩
                      · have E173 := hval 5 _ 173 rfl rfl (dep_of hdep 5 (by rfl))
                        unfold fg34sVal at E173
                        refine g_plain rfl ?_
                        exact does_value (w' := W) (v := .bool false) (by go_simp) ⟨(), .inr rfl, hS⟩
                      · have EG := hval 6 _ 174 rfl rfl (dep_of hdep 6 (by rfl))
                        unfold fg34sVal at EG
                        exact g_skip rfl rfl rfl EG rfl ⟨(), .inr rfl, hS⟩
                      · have EG := hval 6 _ 174 rfl rfl (dep_of hdep 6 (by rfl))
                        unfold fg34sVal at EG
                        exact g_skip rfl rfl rfl EG rfl ⟨(), .inr rfl, hS⟩
                      · have EG := hval 6 _ 174 rfl rfl (dep_of hdep 6 (by rfl))
                        unfold fg34sVal at EG
                        exact g_skip rfl rfl rfl EG rfl ⟨(), .inr rfl, hS⟩
                      · have EG := hval 6 _ 174 rfl rfl (dep_of hdep 6 (by rfl))
                        unfold fg34sVal at EG
                        exact g_skip rfl rfl rfl EG rfl ⟨(), .inr rfl, hS⟩
                      · have EG := hval 6 _ 174 rfl rfl (dep_of hdep 6 (by rfl))
                        unfold fg34sVal at EG
                        exact g_skip rfl rfl rfl EG rfl ⟨(), .inr rfl, hS⟩
                      · have EG := hval 6 _ 174 rfl rfl (dep_of hdep 6 (by rfl))
                        unfold fg34sVal at EG
                        exact g_skip rfl rfl rfl EG rfl ⟨(), .inr rfl, hS⟩
                      · have EG := hval 6 _ 174 rfl rfl (dep_of hdep 6 (by rfl))
                        unfold fg34sVal at EG
                        exact g_skip rfl rfl rfl EG rfl ⟨(), .inr rfl, hS⟩
                      · have EG := hval 6 _ 174 rfl rfl (dep_of hdep 6 (by rfl))
                        unfold fg34sVal at EG
                        exact g_skip rfl rfl rfl EG rfl ⟨(), .inr rfl, hS⟩
                      · have EG := hval 6 _ 174 rfl rfl (dep_of hdep 6 (by rfl))
                        unfold fg34sVal at EG
                        exact g_skip rfl rfl rfl EG rfl ⟨(), .inr rfl, hS⟩
                      · have EG := hval 6 _ 174 rfl rfl (dep_of hdep 6 (by rfl))
                        unfold fg34sVal at EG
                        exact g_skip rfl rfl rfl EG rfl ⟨(), .inr rfl, hS⟩
                      · have EG := hval 6 _ 174 rfl rfl (dep_of hdep 6 (by rfl))
                        unfold fg34sVal at EG
                        exact g_skip rfl rfl rfl EG rfl ⟨(), .inr rfl, hS⟩
                      · have EG := hval 6 _ 174 rfl rfl (dep_of hdep 6 (by rfl))
                        unfold fg34sVal at EG
                        exact g_skip rfl rfl rfl EG rfl ⟨(), .inr rfl, hS⟩
                      · have EG := hval 6 _ 174 rfl rfl (dep_of hdep 6 (by rfl))
                        unfold fg34sVal at EG
                        exact g_skip rfl rfl rfl EG rfl ⟨(), .inr rfl, hS⟩
                      · have EG := hval 19 _ 187 rfl rfl (dep_of hdep 19 (by rfl))
                        unfold fg34sVal at EG
                        exact g_skip_u rfl rfl rfl EG ⟨(), .inr rfl, hS⟩
                      · have EG := hval 19 _ 187 rfl rfl (dep_of hdep 19 (by rfl))
                        unfold fg34sVal at EG
                        exact g_skip_u rfl rfl rfl EG ⟨(), .inr rfl, hS⟩
                      · have EG := hval 19 _ 187 rfl rfl (dep_of hdep 19 (by rfl))
                        unfold fg34sVal at EG
                        exact g_skip_u rfl rfl rfl EG ⟨(), .inr rfl, hS⟩
                      · have EG := hval 19 _ 187 rfl rfl (dep_of hdep 19 (by rfl))
                        unfold fg34sVal at EG
                        exact g_skip_u rfl rfl rfl EG ⟨(), .inr rfl, hS⟩
                      · have EG := hval 19 _ 187 rfl rfl (dep_of hdep 19 (by rfl))
                        unfold fg34sVal at EG
                        exact g_skip_u rfl rfl rfl EG ⟨(), .inr rfl, hS⟩
                      · have EG := hval 19 _ 187 rfl rfl (dep_of hdep 19 (by rfl))
                        unfold fg34sVal at EG
                        exact g_skip_u rfl rfl rfl EG ⟨(), .inr rfl, hS⟩
                      · have EG := hval 19 _ 187 rfl rfl (dep_of hdep 19 (by rfl))
                        unfold fg34sVal at EG
                        exact g_skip_u rfl rfl rfl EG ⟨(), .inr rfl, hS⟩
                      · have EG := hval 19 _ 187 rfl rfl (dep_of hdep 19 (by rfl))
                        unfold fg34sVal at EG
                        exact g_skip_u rfl rfl rfl EG ⟨(), .inr rfl, hS⟩
                      · have EG := hval 19 _ 187 rfl rfl (dep_of hdep 19 (by rfl))
                        unfold fg34sVal at EG
                        exact g_skip_u rfl rfl rfl EG ⟨(), .inr rfl, hS⟩
                      · have EG := hval 19 _ 187 rfl rfl (dep_of hdep 19 (by rfl))
                        unfold fg34sVal at EG
                        exact g_skip_u rfl rfl rfl EG ⟨(), .inr rfl, hS⟩
                      · have EG := hval 19 _ 187 rfl rfl (dep_of hdep 19 (by rfl))
                        unfold fg34sVal at EG
                        exact g_skip_u rfl rfl rfl EG ⟨(), .inr rfl, hS⟩
                      · have EG := hval 19 _ 187 rfl rfl (dep_of hdep 19 (by rfl))
                        unfold fg34sVal at EG
                        exact g_skip_u rfl rfl rfl EG ⟨(), .inr rfl, hS⟩
                      · have EG := hval 19 _ 187 rfl rfl (dep_of hdep 19 (by rfl))
                        unfold fg34sVal at EG
                        exact g_skip_u rfl rfl rfl EG ⟨(), .inr rfl, hS⟩
                      · have EG := hval 6 _ 174 rfl rfl (dep_of hdep 6 (by rfl))
                        unfold fg34sVal at EG
                        exact g_skip rfl rfl rfl EG rfl ⟨(), .inr rfl, hS⟩
                      · have E174 := hval 6 _ 174 rfl rfl (dep_of hdep 6 (by rfl))
                        have E201 := hval 33 _ 201 rfl rfl (dep_of hdep 33 (by rfl))
                        unfold fg34sVal at E174 E201
                        refine g_plain rfl ?_
                        exact does_value (w' := W) (v := .bool false) (by go_simp) ⟨(), .inr rfl, hS⟩
                    · intro gh w13 hS
                      have HQ13 := hid (HW.out.keep hS)
                      clear hS HC HN HW HLd HEQ HX HWR
                      simp only [putAll, fg34sVal, Nat.reduceAdd, Nat.zero_add, Act.put, List.setIfInBounds_toArray, List.set_cons_zero, List.set_cons_succ]
                      go_wp2_with fail
                      go_roundw
                      case rel => exact ⟨t + 1, rfl, by go_num, by omega, HQ13⟩
                      case measure => simp [intOf]; omega
                  · have HLd := hid (fun W (hb : Below wr.heap.size wr W) => hcell_at (HW.out.keep hb) HC0 hy hy32)
                    have HEQ := hid (show ∀ W, (Op.equalIn 10000 32 (.agg (bcells y)) (.agg (bcells x))).run Try.prog W = .ok false W from fun W => by
                      have := run_equal_arr (P := Try.prog) 32 5 32 Try.underlying32 Try.underlying5 (by kernel_rfl) y x hy32 HX32.out W
                      rw [show (y == x) = false from by simpa using e] at this
                      exact this)
                    obtain ⟨g1, g2⟩ := HL.out.has t y hlt hy
                    rw [hdk] at g2
                    rw [hjk] at g1
                    rw [hjd] at g2
                    have HH1 := hid (fun W (hb : Below wr.heap.size wr W) => by
                      have := (HW.out.keep hb).has (nm j, y) ⟨nm_max j, hy32⟩
                      dsimp only at this g1
                      rw [szQ_fg, if_neg e, g1] at this
                      exact this)
                    have HH2 := hid (fun W (hb : Below wr.heap.size wr W) => by
                      have := (HW.out.keep hb).has (nm j2, y) ⟨nm_max j2, hy32⟩
                      dsimp only at this g2
                      rw [szQ_fg, if_neg e, g2] at this
                      exact this)
                    clear hy hy32 t1 t2 t3 hjk hdk hjd g1 g2
                    go_wp2_with fail
                    refine wp_region_invG 212 () (fg34dVal s b a0 off k c t g0 j d j2 x y) (fun _ _ W => Below wr.heap.size wr W) (by kernel_rfl) (by kernel_rfl) (by exact Nat.le_refl 212) ?_ ?_ ?_
                    · exact (Below.refl _ _).drew
                    · intro i o f gh a W hi hf hdep hsame hcl hval hS
                      rcases i with _ | _ | _ | _ | _ | _ | _ | _ | _ | _ | _ | _ | _ | _ | _ | _ | _ | _ | _ | _ | _ | _ | _ | _ | _ | _ | _ | _ | _ | _ | _ | _ | _ | _ | _ | i
                      all_goals simp only [List.getElem?_cons_succ, List.getElem?_cons_zero, List.getElem?_nil, Option.some.injEq, reduceCtorEq] at hi
                      all_goals subst hi
                      · have E0 : a.tmps[0]? = some (.slice (some ⟨a0, off, none⟩) k c) := (same_of hsame 0 (by rfl)).trans rfl
                        refine g_plain rfl ?_
                        exact does_value (w' := W) (v := .slice (some ⟨a0, off, none⟩) k c) (by go_simp) ⟨(), .inr rfl, hS⟩
                      · have E18 : a.tmps[18]? = some (.int .i64 (t : Int)) := (same_of hsame 18 (by rfl)).trans rfl
                        refine g_plain rfl ?_
                        exact does_value (w' := W) (v := .int .i64 (t : Int)) (by go_simp) ⟨(), .inr rfl, hS⟩
                      · have E168 := hval 0 _ 168 rfl rfl (dep_of hdep 0 (by rfl))
                        have E169 := hval 1 _ 169 rfl rfl (dep_of hdep 1 (by rfl))
                        unfold fg34dVal at E168 E169
                        obtain ⟨t1, t2, t3, hj3, hj23, hk3⟩ := HC.out
                        refine g_plain rfl ?_
                        exact does_value (w' := W) (v := .pointer (some ⟨a0, off + t * 32, none⟩)) (by go_simp) ⟨(), .inr rfl, hS⟩
                      · have E170 := hval 2 _ 170 rfl rfl (dep_of hdep 2 (by rfl))
                        unfold fg34dVal at E170
                        refine g_plain rfl ?_
                        exact does_load_run 32 _ rfl ⟨a0, off + t * 32, none⟩ _ (by rw [eval_getD, E170]; rfl) (HLd.out W hS) ⟨(), .inr rfl, hS⟩
                      · have E10 : a.tmps[10]? = some (.pointer (some ⟨g0, 0, none⟩)) := (same_of hsame 10 (by rfl)).trans rfl
                        refine g_plain rfl ?_
                        exact does_load _ _ rfl g0 (by rw [eval_getD, E10]; rfl) _ (HX.out.keep hS) _ Try.underlying32 rfl HSZ.out ⟨(), .inr rfl, hS⟩
                      · have E171 := hval 3 _ 171 rfl rfl (dep_of hdep 3 (by rfl))
                        have E172 := hval 4 _ 172 rfl rfl (dep_of hdep 4 (by rfl))
                        unfold fg34dVal at E171 E172
                        have heq := HEQ.out W
                        refine g_plain rfl ?_
                        exact does_value (w' := W) (v := .bool true) (by go_simp) ⟨(), .inr rfl, hS⟩
                      · have E173 := hval 5 _ 173 rfl rfl (dep_of hdep 5 (by rfl))
                        unfold fg34dVal at E173
                        refine g_plain rfl ?_
                        exact does_value (w' := W) (v := .bool true) (by go_simp) ⟨(), .inr rfl, hS⟩
                      · have EG := hval 6 _ 174 rfl rfl (dep_of hdep 6 (by rfl))
                        have E6 : a.tmps[6]? = some (.pointer (some ⟨s, 0, none⟩)) := (same_of hsame 6 (by rfl)).trans rfl
                        unfold fg34dVal at EG
                        refine g_want rfl rfl rfl EG ?_
                        exact does_value (w' := W) (v := .pointer (some ⟨s, 0, none⟩)) (by go_simp) ⟨(), .inr rfl, hS⟩
                      · have EG := hval 6 _ 174 rfl rfl (dep_of hdep 6 (by rfl))
                        have E8 : a.tmps[8]? = some (.slice (some ⟨b, 0, none⟩) 3 3) := (same_of hsame 8 (by rfl)).trans rfl
                        unfold fg34dVal at EG
                        refine g_want rfl rfl rfl EG ?_
                        exact does_value (w' := W) (v := .slice (some ⟨b, 0, none⟩) 3 3) (by go_simp) ⟨(), .inr rfl, hS⟩
                      · have EG := hval 6 _ 174 rfl rfl (dep_of hdep 6 (by rfl))
                        have E18 : a.tmps[18]? = some (.int .i64 (t : Int)) := (same_of hsame 18 (by rfl)).trans rfl
                        unfold fg34dVal at EG
                        refine g_want rfl rfl rfl EG ?_
                        exact does_value (w' := W) (v := .int .i64 (t : Int)) (by go_simp) ⟨(), .inr rfl, hS⟩
                      · have EG := hval 6 _ 174 rfl rfl (dep_of hdep 6 (by rfl))
                        have E177 := hval 9 _ 177 rfl rfl (dep_of hdep 9 (by rfl))
                        unfold fg34dVal at EG E177
                        obtain ⟨t1, t2, t3, hj3, hj23, hk3⟩ := HC.out
                        refine g_want rfl rfl rfl EG ?_
                        exact does_value (w' := W) (v := .int .i64 (j : Int)) (by go_simp) ⟨(), .inr rfl, hS⟩
                      · have EG := hval 6 _ 174 rfl rfl (dep_of hdep 6 (by rfl))
                        have E176 := hval 8 _ 176 rfl rfl (dep_of hdep 8 (by rfl))
                        have E178 := hval 10 _ 178 rfl rfl (dep_of hdep 10 (by rfl))
                        unfold fg34dVal at EG E176 E178
                        obtain ⟨t1, t2, t3, hj3, hj23, hk3⟩ := HC.out
                        refine g_want rfl rfl rfl EG ?_
                        exact does_value (w' := W) (v := .pointer (some ⟨b, j, none⟩)) (by go_simp) ⟨(), .inr rfl, hS⟩
                      · have EG := hval 6 _ 174 rfl rfl (dep_of hdep 6 (by rfl))
                        have E179 := hval 11 _ 179 rfl rfl (dep_of hdep 11 (by rfl))
                        unfold fg34dVal at EG E179
                        obtain ⟨cn, cm⟩ := HN.out W hS
                        refine g_want rfl rfl rfl EG ?_
                        exact does_value (w' := W) (v := .string (strB (nm (j)))) (by go_simp) ⟨(), .inr rfl, hS⟩
                      · have EG := hval 6 _ 174 rfl rfl (dep_of hdep 6 (by rfl))
                        have E0 : a.tmps[0]? = some (.slice (some ⟨a0, off, none⟩) k c) := (same_of hsame 0 (by rfl)).trans rfl
                        unfold fg34dVal at EG
                        refine g_want rfl rfl rfl EG ?_
                        exact does_value (w' := W) (v := .slice (some ⟨a0, off, none⟩) k c) (by go_simp) ⟨(), .inr rfl, hS⟩
                      · have EG := hval 6 _ 174 rfl rfl (dep_of hdep 6 (by rfl))
                        have E18 : a.tmps[18]? = some (.int .i64 (t : Int)) := (same_of hsame 18 (by rfl)).trans rfl
                        unfold fg34dVal at EG
                        refine g_want rfl rfl rfl EG ?_
                        exact does_value (w' := W) (v := .int .i64 (t : Int)) (by go_simp) ⟨(), .inr rfl, hS⟩
                      · have EG := hval 6 _ 174 rfl rfl (dep_of hdep 6 (by rfl))
                        have E181 := hval 13 _ 181 rfl rfl (dep_of hdep 13 (by rfl))
                        have E182 := hval 14 _ 182 rfl rfl (dep_of hdep 14 (by rfl))
                        unfold fg34dVal at EG E181 E182
                        obtain ⟨t1, t2, t3, hj3, hj23, hk3⟩ := HC.out
                        refine g_want rfl rfl rfl EG ?_
                        exact does_value (w' := W) (v := .pointer (some ⟨a0, off + t * 32, none⟩)) (by go_simp) ⟨(), .inr rfl, hS⟩
                      · have EG := hval 6 _ 174 rfl rfl (dep_of hdep 6 (by rfl))
                        have E183 := hval 15 _ 183 rfl rfl (dep_of hdep 15 (by rfl))
                        unfold fg34dVal at EG E183
                        refine g_want rfl rfl rfl EG ?_
                        exact does_load_run 32 _ rfl ⟨a0, off + t * 32, none⟩ _ (by rw [eval_getD, E183]; rfl) (HLd.out W hS) ⟨(), .inr rfl, hS⟩
                      · have EG := hval 6 _ 174 rfl rfl (dep_of hdep 6 (by rfl))
                        have E175 := hval 7 _ 175 rfl rfl (dep_of hdep 7 (by rfl))
                        have E180 := hval 12 _ 180 rfl rfl (dep_of hdep 12 (by rfl))
                        have E184 := hval 16 _ 184 rfl rfl (dep_of hdep 16 (by rfl))
                        unfold fg34dVal at EG E175 E180 E184
                        refine g_want rfl rfl rfl EG ?_
                        refine does_call 21 #[.pointer (some ⟨s, 0, none⟩), .string (strB (nm (j))), .agg (bcells y)] (by go_simp) ((HH1.out W hS).mono ?_)
                        rintro _ W' ⟨rfl, hb⟩
                        exact ⟨_, rfl, (), .inr rfl, hS.trans (hb.mono hS.size)⟩
                      · have EG := hval 6 _ 174 rfl rfl (dep_of hdep 6 (by rfl))
                        have E185 := hval 17 _ 185 rfl rfl (dep_of hdep 17 (by rfl))
                        unfold fg34dVal at EG E185
                        refine g_want rfl rfl rfl EG ?_
                        exact does_value (w' := W) (v := .bool false) (by go_simp) ⟨(), .inr rfl, hS⟩
                      · have EG := hval 6 _ 174 rfl rfl (dep_of hdep 6 (by rfl))
                        have E186 := hval 18 _ 186 rfl rfl (dep_of hdep 18 (by rfl))
                        unfold fg34dVal at EG E186
                        refine g_want rfl rfl rfl EG ?_
                        exact does_value (w' := W) (v := .bool false) (by go_simp) ⟨(), .inr rfl, hS⟩
                      · have EG := hval 19 _ 187 rfl rfl (dep_of hdep 19 (by rfl))
                        have E6 : a.tmps[6]? = some (.pointer (some ⟨s, 0, none⟩)) := (same_of hsame 6 (by rfl)).trans rfl
                        unfold fg34dVal at EG
                        refine g_want rfl rfl rfl EG ?_
                        exact does_value (w' := W) (v := .pointer (some ⟨s, 0, none⟩)) (by go_simp) ⟨(), .inr rfl, hS⟩
                      · have EG := hval 19 _ 187 rfl rfl (dep_of hdep 19 (by rfl))
                        have E8 : a.tmps[8]? = some (.slice (some ⟨b, 0, none⟩) 3 3) := (same_of hsame 8 (by rfl)).trans rfl
                        unfold fg34dVal at EG
                        refine g_want rfl rfl rfl EG ?_
                        exact does_value (w' := W) (v := .slice (some ⟨b, 0, none⟩) 3 3) (by go_simp) ⟨(), .inr rfl, hS⟩
                      · have EG := hval 19 _ 187 rfl rfl (dep_of hdep 19 (by rfl))
                        have E18 : a.tmps[18]? = some (.int .i64 (t : Int)) := (same_of hsame 18 (by rfl)).trans rfl
                        unfold fg34dVal at EG
                        refine g_want rfl rfl rfl EG ?_
                        exact does_value (w' := W) (v := .int .i64 (t : Int)) (by go_simp) ⟨(), .inr rfl, hS⟩
                      · have EG := hval 19 _ 187 rfl rfl (dep_of hdep 19 (by rfl))
                        have E190 := hval 22 _ 190 rfl rfl (dep_of hdep 22 (by rfl))
                        unfold fg34dVal at EG E190
                        obtain ⟨t1, t2, t3, hj3, hj23, hk3⟩ := HC.out
                        have hwr := HWR.out
                        refine g_want rfl rfl rfl EG ?_
                        exact does_value (w' := W) (v := .int .i64 (d : Int)) (by go_simp) ⟨(), .inr rfl, hS⟩
                      · have EG := hval 19 _ 187 rfl rfl (dep_of hdep 19 (by rfl))
                        have E191 := hval 23 _ 191 rfl rfl (dep_of hdep 23 (by rfl))
                        unfold fg34dVal at EG E191
                        obtain ⟨t1, t2, t3, hj3, hj23, hk3⟩ := HC.out
                        refine g_want rfl rfl rfl EG ?_
                        exact does_value (w' := W) (v := .int .i64 (j2 : Int)) (by go_simp) ⟨(), .inr rfl, hS⟩
                      · have EG := hval 19 _ 187 rfl rfl (dep_of hdep 19 (by rfl))
                        have E189 := hval 21 _ 189 rfl rfl (dep_of hdep 21 (by rfl))
                        have E192 := hval 24 _ 192 rfl rfl (dep_of hdep 24 (by rfl))
                        unfold fg34dVal at EG E189 E192
                        obtain ⟨t1, t2, t3, hj3, hj23, hk3⟩ := HC.out
                        refine g_want rfl rfl rfl EG ?_
                        exact does_value (w' := W) (v := .pointer (some ⟨b, j2, none⟩)) (by go_simp) ⟨(), .inr rfl, hS⟩
                      · have EG := hval 19 _ 187 rfl rfl (dep_of hdep 19 (by rfl))
                        have E193 := hval 25 _ 193 rfl rfl (dep_of hdep 25 (by rfl))
                        unfold fg34dVal at EG E193
                        obtain ⟨cn, cm⟩ := HN.out W hS
                        refine g_want rfl rfl rfl EG ?_
                        exact does_value (w' := W) (v := .string (strB (nm (j2)))) (by go_simp) ⟨(), .inr rfl, hS⟩
                      · have EG := hval 19 _ 187 rfl rfl (dep_of hdep 19 (by rfl))
                        have E0 : a.tmps[0]? = some (.slice (some ⟨a0, off, none⟩) k c) := (same_of hsame 0 (by rfl)).trans rfl
                        unfold fg34dVal at EG
                        refine g_want rfl rfl rfl EG ?_
                        exact does_value (w' := W) (v := .slice (some ⟨a0, off, none⟩) k c) (by go_simp) ⟨(), .inr rfl, hS⟩
                      · have EG := hval 19 _ 187 rfl rfl (dep_of hdep 19 (by rfl))
                        have E18 : a.tmps[18]? = some (.int .i64 (t : Int)) := (same_of hsame 18 (by rfl)).trans rfl
                        unfold fg34dVal at EG
                        refine g_want rfl rfl rfl EG ?_
                        exact does_value (w' := W) (v := .int .i64 (t : Int)) (by go_simp) ⟨(), .inr rfl, hS⟩
                      · have EG := hval 19 _ 187 rfl rfl (dep_of hdep 19 (by rfl))
                        have E195 := hval 27 _ 195 rfl rfl (dep_of hdep 27 (by rfl))
                        have E196 := hval 28 _ 196 rfl rfl (dep_of hdep 28 (by rfl))
                        unfold fg34dVal at EG E195 E196
                        obtain ⟨t1, t2, t3, hj3, hj23, hk3⟩ := HC.out
                        refine g_want rfl rfl rfl EG ?_
                        exact does_value (w' := W) (v := .pointer (some ⟨a0, off + t * 32, none⟩)) (by go_simp) ⟨(), .inr rfl, hS⟩
                      · have EG := hval 19 _ 187 rfl rfl (dep_of hdep 19 (by rfl))
                        have E197 := hval 29 _ 197 rfl rfl (dep_of hdep 29 (by rfl))
                        unfold fg34dVal at EG E197
                        refine g_want rfl rfl rfl EG ?_
                        exact does_load_run 32 _ rfl ⟨a0, off + t * 32, none⟩ _ (by rw [eval_getD, E197]; rfl) (HLd.out W hS) ⟨(), .inr rfl, hS⟩
                      · have EG := hval 19 _ 187 rfl rfl (dep_of hdep 19 (by rfl))
                        have E188 := hval 20 _ 188 rfl rfl (dep_of hdep 20 (by rfl))
                        have E194 := hval 26 _ 194 rfl rfl (dep_of hdep 26 (by rfl))
                        have E198 := hval 30 _ 198 rfl rfl (dep_of hdep 30 (by rfl))
                        unfold fg34dVal at EG E188 E194 E198
                        refine g_want rfl rfl rfl EG ?_
                        refine does_call 21 #[.pointer (some ⟨s, 0, none⟩), .string (strB (nm (j2))), .agg (bcells y)] (by go_simp) ((HH2.out W hS).mono ?_)
                        rintro _ W' ⟨rfl, hb⟩
                        exact ⟨_, rfl, (), .inr rfl, hS.trans (hb.mono hS.size)⟩
                      · have EG := hval 19 _ 187 rfl rfl (dep_of hdep 19 (by rfl))
                        have E199 := hval 31 _ 199 rfl rfl (dep_of hdep 31 (by rfl))
                        unfold fg34dVal at EG E199
                        refine g_want rfl rfl rfl EG ?_
                        exact does_value (w' := W) (v := .bool false) (by go_simp) ⟨(), .inr rfl, hS⟩
                      · have EG := hval 6 _ 174 rfl rfl (dep_of hdep 6 (by rfl))
                        have E187 := hval 19 _ 187 rfl rfl (dep_of hdep 19 (by rfl))
                        have E200 := hval 32 _ 200 rfl rfl (dep_of hdep 32 (by rfl))
                        unfold fg34dVal at EG E187 E200
                        refine g_want rfl rfl rfl EG ?_
                        exact does_value (w' := W) (v := .bool false) (by go_simp) ⟨(), .inr rfl, hS⟩
                      · have E174 := hval 6 _ 174 rfl rfl (dep_of hdep 6 (by rfl))
                        have E201 := hval 33 _ 201 rfl rfl (dep_of hdep 33 (by rfl))
                        unfold fg34dVal at E174 E201
                        refine g_plain rfl ?_
                        exact does_value (w' := W) (v := .bool false) (by go_simp) ⟨(), .inr rfl, hS⟩
                    · intro gh w13 hS
                      have HQ13 := hid (HW.out.keep hS)
                      clear hS HC HN HW HLd HEQ HX HWR HH1 HH2
                      simp only [putAll, fg34dVal, Nat.reduceAdd, Nat.zero_add, Act.put, List.setIfInBounds_toArray, List.set_cons_zero, List.set_cons_succ]
                      go_wp2_with fail
                      go_roundw
                      case rel => exact ⟨t + 1, rfl, by go_num, by omega, HQ13⟩
                      case measure => simp [intOf]; omega
                · obtain rfl : t = k := by omega
                  have hf := HFin.out
                  have hmb := HMB.out
                  have hnb := HNB.out
                  have hw1 : IntKind.i64.wrap (7 * many) = 7 * many := IntWalk.i64_in _ (by omega)
                  have hw2 : IntKind.i64.wrap (was - 7 * many) = was - 7 * many := IntWalk.i64_in _ (by omega)
                  have hfin : (now == was - 7 * many) = true := by simp; omega
                  have HEnd := hid HW.out.below
                  clear hf hmb hnb
                  go_wp2_with fail
                  go_ret
                  exact ⟨rfl, HEnd.out⟩
end Go.Proofs.Ytaagdjlnnkphdaa
